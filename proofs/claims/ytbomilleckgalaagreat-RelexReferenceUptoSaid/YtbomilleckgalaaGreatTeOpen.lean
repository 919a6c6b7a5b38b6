/-
  An argument of type []api.TextEdit, opened: it reads as a list of edits.
-/
import Derived.Test.YtbomilleckgalaaGreatRows
import Derived.Test.YtbomilleckgalaaGreatTeBase
import Derived.ProofKit
import Derived.Deep.Slices
import Derived.Deep.Strs
import Derived.ShutString
import Derived.OpenShut
import Derived.ChangeOld
import Derived.Below
namespace Go.Proofs.YtbomilleckgalaaGreat.Te
open Go.ChangeShapes Go.WideShapes Go.ChangeAt Go.RowKit Go.Deep

set_option maxRecDepth 100000 in
theorem own : ownKnob Tryz.prog.godebug = none := by kernel_rfl
set_option maxRecDepth 100000 in
theorem laidOut : laidOutB Tryz.prog = true := by kernel_rfl
theorem cells38 : Tryz.prog.cellsOf 23 = 3 := by kernel_rfl
theorem cells3 : Tryz.prog.cellsOf 3 = 1 := by kernel_rfl
theorem cells9 : Tryz.prog.cellsOf 9 = 1 := by kernel_rfl

theorem list_of {α : Type} (p : Nat → α → Prop) (n : Nat) (h : ∀ i, i < n → ∃ x, p i x) : ∃ l : List α, l.length = n ∧ ∀ i x, l[i]? = some x → p i x := by
  induction n with
  | zero => exact ⟨[], rfl, fun i x hx => by simp at hx⟩
  | succ n ih =>
    obtain ⟨l, hl, hp⟩ := ih (fun i hi => h i (by omega))
    obtain ⟨x, hx⟩ := h n (by omega)
    refine ⟨l ++ [x], by simp [hl], fun i y hy => ?_⟩
    by_cases hi : i < l.length
    · rw [List.getElem?_append_left hi] at hy
      exact hp i y hy
    · rw [List.getElem?_append_right (by omega)] at hy
      have h0 : i - l.length = 0 := by
        rcases Nat.eq_zero_or_pos (i - l.length) with h | h
        · exact h
        · rw [List.getElem?_eq_none (by simp; omega)] at hy; cases hy
      rw [h0] at hy
      simp at hy
      subst hy
      have : i = n := by omega
      subst this
      exact hx

section
variable {H : Type} {enc : TypeId × Value → H}

set_option maxRecDepth 100000 in
theorem open_eds {W : World} {v : Value} {d : DataW H} {p : List MemPlace} (hv : ∃ a len cap, v = .slice a len cap) (h : DataW.Trod enc Tryz.prog W 0 (fun _ => true) true 36 v d p) :
    ∃ a l cap, v = .slice a (List.length l) cap ∧ l.length ≤ maxLen ∧ Eds W W.heap.size a l := by
  obtain ⟨a, len, cap, rfl⟩ := hv
  obtain ⟨fuel, hf⟩ := h
  rcases open_slice Tryz.underlying36 hf with ⟨hcs, _⟩ | ⟨x, len', cap', m, n, D, Pl, hcs, _, hl, hm, hmm, _, hi⟩
  · simp [Value.cells] at hcs
    obtain ⟨rfl, rfl, rfl⟩ := hcs
    exact ⟨none, [], 0, rfl, Nat.zero_le _, fun i x hx => by simp at hx⟩
  · simp [Value.cells] at hcs
    obtain ⟨rfl, rfl, rfl⟩ := hcs
    simp only [if_true] at hmm
    subst hmm
    obtain ⟨l, hlen, hp⟩ := list_of (fun i (e : Ed) => e.ok ∧ W.cell? (x.add (i * 3)) = some (.int .i64 e.s) ∧ W.cell? ((x.add (i * 3)).add 1) = some (.int .i64 e.e) ∧ W.cell? ((x.add (i * 3)).add 2) = some (.string e.t)) len (fun i hil => by
      obtain ⟨cs', hc, ht⟩ := hi i (by omega)
      rw [cells38] at hc
      obtain ⟨_, hcl, hat⟩ := World.cells?_some hc
      obtain ⟨y0, y1, y2, k, _, _, t0, t1, t2⟩ := trod_struct3 Tryz.underlying23 ht
      match cs', hcl with
      | [c0, c1, c2], _ =>
        simp only [cells3, cells9, List.drop, List.take] at t0 t1 t2
        obtain ⟨q0, e0, _, w0⟩ := DataW.trod_int Tryz.underlying3 t0
        obtain ⟨q1, e1, _, w1⟩ := DataW.trod_int Tryz.underlying3 t1
        obtain ⟨q2, e2, _, w2⟩ := DataW.trod_string Tryz.underlying9 t2
        simp only [List.cons.injEq, and_true] at e0 e1 e2
        subst e0 e1 e2
        have b0 : -9223372036854775808 ≤ q0 ∧ q0 ≤ 9223372036854775807 := by simpa [Lit.wf, IntKind.min, IntKind.max, IntKind.signed, IntKind.bits] using w0
        have b1 : -9223372036854775808 ≤ q1 ∧ q1 ≤ 9223372036854775807 := by simpa [Lit.wf, IntKind.min, IntKind.max, IntKind.signed, IntKind.bits] using w1
        refine ⟨⟨q0, q1, q2⟩, ⟨b0.1, b0.2, b1.1, b1.2, w2⟩, ?_, ?_, ?_⟩
        · have := hat 0 (by omega)
          have e : (x.add (i * 3)).add 0 = x.add (i * 3) := by unfold Addr.add; split <;> simp_all
          rw [e] at this
          simpa using this
        · have := hat 1 (by omega)
          simpa using this
        · have := hat 2 (by omega)
          simpa using this)
    refine ⟨some x, l, m, by rw [hlen], by omega, fun i e he => ?_⟩
    obtain ⟨hok, g0, g1, g2⟩ := hp i e he
    obtain ⟨b, off, spot⟩ := x
    have hspot : spot = none := by
      have hlt : i < l.length := (List.getElem?_eq_some_iff.1 he).1
      have h0 : l[0]? = some (l[0]'(by omega)) := List.getElem?_eq_getElem (by omega)
      have h := World.cell?_spot (hp 0 _ h0).2.1
      simpa [Addr.add] using h
    subst hspot
    simp only [Go.WideShapes.add_plain] at g0 g1 g2
    exact ⟨hok, b, off, rfl, World.block_lt_of_cell? W _ g0, g0, g1, g2⟩
end
end Go.Proofs.YtbomilleckgalaaGreat.Te
