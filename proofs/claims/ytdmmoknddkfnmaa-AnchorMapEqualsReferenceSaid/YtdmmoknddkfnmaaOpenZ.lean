/-
  An argument of type []int, opened: it reads as a list of integers within the reach.
-/
import Derived.Test.YtdmmoknddkfnmaaOpen
import Derived.Test.YtdmmoknddkfnmaaInts
import Derived.SizedLaws
namespace Go.Proofs.Ytdmmoknddkfnmaa
open Go.ChangeShapes Go.WideShapes Go.ChangeAt Go.RowKit Go.Deep

theorem cellsInt : Try.prog.cellsOf 3 = 1 := by kernel_rfl
theorem bytesInt : Try.prog.bytesOf 3 = 8 := by kernel_rfl

theorem Ints.fwd {w w' : World} {a : Option Addr} {zs : List Int} (h : Ints w w.heap.size a zs) (hb : Below w.heap.size w w') : Ints w' w'.heap.size a zs := h.to hb

section
variable {H : Type} {enc : TypeId × Value → H}

theorem open_zs2 {W : World} {v : Value} {d : DataW H} {p : List MemPlace} (hv : ∃ a len cap, v = .slice a len cap) (hz : ∀ n ∈ d.weights Try.prog 39, n ≤ reachBytes) (h : DataW.Trod enc Try.prog W 0 (fun _ => true) true 39 v d p) :
    ∃ a l cap, v = .slice a (List.length l) cap ∧ l.length ≤ maxLen ∧ Ints W W.heap.size a l ∧ l.length ≤ cap ∧ l.length * 8 ≤ 140737488351232 := by
  obtain ⟨a, len, cap, rfl⟩ := hv
  obtain ⟨fuel, hf⟩ := h
  rcases open_slice1 Try.underlying39 cellsInt hf with ⟨hcs, _⟩ | ⟨x, len', cap', m, n, V, D, Pl, hcs, _, hl, hm, hmm, hdx, hi⟩
  · simp [Value.cells] at hcs
    obtain ⟨rfl, rfl, rfl⟩ := hcs
    exact ⟨none, [], 0, rfl, Nat.zero_le _, Ints.nil _ _ _, Nat.le_refl _, by simp⟩
  · simp [Value.cells] at hcs
    obtain ⟨rfl, rfl, rfl⟩ := hcs
    simp only [if_true] at hmm
    subst hmm
    have hw : (len + (m - len)) * 8 ≤ reachBytes := by
      refine hz _ ?_
      have hd1 := congrArg Prod.fst hdx
      simp only [] at hd1
      rw [hd1]
      simp only [DataW.weights, Try.underlying39, List.mem_cons, List.mem_append, bytesInt, List.length_map, List.length_range]
      left; trivial
    have hw2 : len * 8 ≤ 140737488351232 := by
      have : reachBytes = 140737488351232 := by unfold reachBytes; rfl
      omega
    obtain ⟨l, hlen, hp⟩ := list_of (fun i (z : Int) => (-9223372036854775808 ≤ z ∧ z ≤ 9223372036854775807) ∧ W.cell? (x.add i) = some (.int .i64 z)) len (fun i hil => by
      obtain ⟨hc, ht⟩ := hi i (by omega)
      obtain ⟨q0, e0, _, w0⟩ := DataW.trod_int Try.underlying3 ht
      simp only [List.cons.injEq, and_true] at e0
      have b0 : -9223372036854775808 ≤ q0 ∧ q0 ≤ 9223372036854775807 := by simpa [Lit.wf, IntKind.min, IntKind.max, IntKind.signed, IntKind.bits] using w0
      exact ⟨q0, b0, by rw [hc, e0]⟩)
    refine ⟨some x, l, m, by rw [hlen], by omega, fun i z he => ?_, by omega, by rw [hlen]; exact hw2⟩
    obtain ⟨hb, g0⟩ := hp i z he
    obtain ⟨b, off, spot⟩ := x
    have hspot : spot = none := by
      have hlt : i < l.length := (List.getElem?_eq_some_iff.1 he).1
      have h0 : l[0]? = some (l[0]'(by omega)) := List.getElem?_eq_getElem (by omega)
      have h := World.cell?_spot (hp 0 _ h0).2
      simpa [Addr.add] using h
    subst hspot
    simp only [Go.WideShapes.add_plain] at g0
    exact ⟨hb, b, off, rfl, World.block_lt_of_cell? W _ g0, g0⟩
end
end Go.Proofs.Ytdmmoknddkfnmaa
