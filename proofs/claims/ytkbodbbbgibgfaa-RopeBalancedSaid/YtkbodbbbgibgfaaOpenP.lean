/-
  Arguments of type []string and []int, opened: they read as lists.
-/
import Derived.Test.YtkbodbbbgibgfaaRows
import Derived.Test.YtkbodbbbgibgfaaStrs
import Derived.ProofKit
import Derived.Deep.Slices
import Derived.Deep.Strs
import Derived.ShutString
import Derived.OpenShut
import Derived.ChangeOld
import Derived.Below
namespace Go.Proofs.Ytkbodbbbgibgfaa
open Go.ChangeShapes Go.WideShapes Go.ChangeAt Go.RowKit Go.Deep

theorem own : ownKnob Try.prog.godebug = none := by kernel_rfl
theorem laidOut : laidOutB Try.prog = true := by kernel_rfl
theorem cells9 : Try.prog.cellsOf 9 = 1 := by kernel_rfl
theorem cells3 : Try.prog.cellsOf 3 = 1 := by kernel_rfl

/-- The slice at a reads in w as the list l of integers. -/
def Ints (w : World) (B : Nat) (a : Option Addr) (l : List Int) : Prop :=
  ∀ i x, l[i]? = some x → (-9223372036854775808 ≤ x ∧ x ≤ 9223372036854775807) ∧ ∃ b o, a = some ⟨b, o, none⟩ ∧ b < B ∧ w.cell? ⟨b, o + i, none⟩ = some (.int .i64 x)

section
variable {H : Type} {enc : TypeId × Value → H}

theorem open_parts {W : World} {v : Value} {d : DataW H} {p : List MemPlace} (hv : ∃ a len cap, v = .slice a len cap) (h : DataW.Trod enc Try.prog W 0 (fun _ => true) true 22 v d p) :
    ∃ a l cap, v = .slice a (List.length l) cap ∧ l.length ≤ cap ∧ cap ≤ maxLen ∧ (∀ x ∈ l, x.size ≤ maxLen) ∧ Strs W W.heap.size a l := by
  obtain ⟨a, len, cap, rfl⟩ := hv
  obtain ⟨fuel, hf⟩ := h
  rcases open_strs Try.underlying22 Try.underlying9 cells9 hf with ⟨hcs, _⟩ | ⟨x, len', cap', m, S, hcs, _, hl, hm, hmm, _, hi⟩
  · simp [Value.cells] at hcs
    obtain ⟨rfl, rfl, rfl⟩ := hcs
    exact ⟨none, [], 0, rfl, Nat.le_refl _, Nat.zero_le _, fun x hx => by simp at hx, fun i x hx => by simp at hx⟩
  · simp [Value.cells] at hcs
    obtain ⟨rfl, rfl, rfl⟩ := hcs
    simp only [if_true] at hmm
    subst hmm
    have hget : ∀ i y, ((List.range len).map S)[i]? = some y → i < len ∧ y = S i := by
      intro i y hy
      rw [List.getElem?_map] at hy
      rcases Nat.lt_or_ge i len with hlt | hge
      · rw [List.getElem?_range hlt] at hy
        exact ⟨hlt, by simpa using hy.symm⟩
      · rw [List.getElem?_eq_none (by simpa using hge)] at hy; cases hy
    refine ⟨some x, (List.range len).map S, m, by simp, by simpa using hl, hm, ?_, ?_⟩
    · intro y hy
      obtain ⟨i, hi', rfl⟩ := List.mem_map.1 hy
      exact (hi i (by have := List.mem_range.1 hi'; omega)).2
    · intro i y hy
      obtain ⟨hlt, rfl⟩ := hget i y hy
      have g0 := (hi i (by omega)).1
      obtain ⟨b, off, spot⟩ := x
      have hspot : spot = none := by
        have h := World.cell?_spot (hi 0 (by omega)).1
        simpa [Addr.add] using h
      subst hspot
      simp only [Go.WideShapes.add_plain] at g0
      exact ⟨b, off, rfl, World.block_lt_of_cell? W _ g0, g0⟩

theorem open_ints {W : World} {v : Value} {d : DataW H} {p : List MemPlace} (hv : ∃ a len cap, v = .slice a len cap) (h : DataW.Trod enc Try.prog W 0 (fun _ => true) true 39 v d p) :
    ∃ a l cap, v = .slice a (List.length l) cap ∧ l.length ≤ cap ∧ cap ≤ maxLen ∧ Ints W W.heap.size a l := by
  obtain ⟨a, len, cap, rfl⟩ := hv
  obtain ⟨fuel, hf⟩ := h
  rcases open_slice1 Try.underlying39 cells3 hf with ⟨hcs, _⟩ | ⟨x, len', cap', m, n, V, D, Pl, hcs, _, hl, hm, hmm, _, hi⟩
  · simp [Value.cells] at hcs
    obtain ⟨rfl, rfl, rfl⟩ := hcs
    exact ⟨none, [], 0, rfl, Nat.le_refl _, Nat.zero_le _, fun i x hx => by simp at hx⟩
  · simp [Value.cells] at hcs
    obtain ⟨rfl, rfl, rfl⟩ := hcs
    simp only [if_true] at hmm
    subst hmm
    have each : ∀ i, i < m → ∃ z : Int, V i = .int .i64 z ∧ -9223372036854775808 ≤ z ∧ z ≤ 9223372036854775807 := fun i hi' => by
      obtain ⟨hc, ht⟩ := hi i hi'
      obtain ⟨q0, e0, _, w0⟩ := DataW.trod_int Try.underlying3 ht
      simp only [List.cons.injEq, and_true] at e0
      have b0 : -9223372036854775808 ≤ q0 ∧ q0 ≤ 9223372036854775807 := by simpa [Lit.wf, IntKind.min, IntKind.max, IntKind.signed, IntKind.bits] using w0
      exact ⟨q0, e0, b0⟩
    obtain ⟨Z, hZ⟩ := choose_lt each
    refine ⟨some x, (List.range len).map Z, m, by simp, by simpa using hl, hm, ?_⟩
    intro i y hy
    rw [List.getElem?_map] at hy
    rcases Nat.lt_or_ge i len with hlt | hge
    · rw [List.getElem?_range hlt] at hy
      obtain rfl : y = Z i := by simpa using hy.symm
      have g0 := (hi i (by omega)).1
      rw [(hZ i (by omega)).1] at g0
      obtain ⟨b, off, spot⟩ := x
      have hspot : spot = none := by
        have h := World.cell?_spot (hi 0 (by omega)).1
        simpa [Addr.add] using h
      subst hspot
      simp only [Go.WideShapes.add_plain] at g0
      exact ⟨(hZ i (by omega)).2, b, off, rfl, World.block_lt_of_cell? W _ g0, g0⟩
    · rw [List.getElem?_eq_none (by simpa using hge)] at hy; cases hy
end
end Go.Proofs.Ytkbodbbbgibgfaa
