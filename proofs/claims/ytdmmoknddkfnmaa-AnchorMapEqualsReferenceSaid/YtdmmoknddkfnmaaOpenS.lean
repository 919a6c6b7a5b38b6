/-
  An argument of type []api.TextEdit, opened: it reads as a list of edits within its capacity, no text longer than the reach.
-/
import Derived.Test.YtdmmoknddkfnmaaOpen
import Derived.Test.YtdmmoknddkfnmaaReach
import Derived.SizedLaws
import Derived.Lib.Strings
namespace Go.Proofs.Ytdmmoknddkfnmaa
open Go.ChangeShapes Go.WideShapes Go.ChangeAt Go.RowKit Go.Deep

theorem weights_mem_all {H : Type} {P : Program} {e : TypeId} {l : List (DataW H)} {d : DataW H} (h : d ∈ l) {n : Nat} (hn : n ∈ d.weights P e) : n ∈ DataW.weightsAll P e l := by
  induction l with
  | nil => cases h
  | cons y r ih =>
    simp only [DataW.weightsAll, List.mem_append]
    rcases List.mem_cons.1 h with rfl | h
    · exact Or.inl hn
    · exact Or.inr (ih h)

section
variable {H : Type} {enc : TypeId × Value → H}

theorem open_eds2 {W : World} {v : Value} {d : DataW H} {p : List MemPlace} (hv : ∃ a len cap, v = .slice a len cap) (hz : ∀ n ∈ d.weights Try.prog 22, n ≤ reachBytes) (h : DataW.Trod enc Try.prog W 0 (fun _ => true) true 22 v d p) :
    ∃ a l cap, v = .slice a (List.length l) cap ∧ l.length ≤ maxLen ∧ Eds W W.heap.size a l ∧ l.length ≤ cap ∧ Reach l := by
  obtain ⟨a, len, cap, rfl⟩ := hv
  obtain ⟨fuel, hf⟩ := h
  rcases open_slice Try.underlying22 hf with ⟨hcs, _⟩ | ⟨x, len', cap', m, n, D, Pl, hcs, _, hl, hm, hmm, hdx, hi⟩
  · simp [Value.cells] at hcs
    obtain ⟨rfl, rfl, rfl⟩ := hcs
    exact ⟨none, [], 0, rfl, Nat.zero_le _, fun i x hx => by simp at hx, Nat.le_refl _, fun x hx => by simp at hx⟩
  · simp [Value.cells] at hcs
    obtain ⟨rfl, rfl, rfl⟩ := hcs
    simp only [if_true] at hmm
    subst hmm
    have hel : ∀ i, i < len → ∀ k ∈ (D i).weights Try.prog 35, k ≤ reachBytes := by
      intro i hi' k hk
      refine hz k ?_
      have hd1 := congrArg Prod.fst hdx
      simp only [] at hd1
      rw [hd1]
      simp only [DataW.weights, Try.underlying22, List.mem_cons, List.mem_append]
      right; left
      exact weights_mem_all (List.mem_map.2 ⟨i, List.mem_range.2 hi', rfl⟩) hk
    obtain ⟨l, hlen, hp⟩ := list_of (fun i (e : Ed) => e.t.size ≤ reachBytes ∧ e.ok ∧ W.cell? (x.add (i * 3)) = some (.int .i64 e.s) ∧ W.cell? ((x.add (i * 3)).add 1) = some (.int .i64 e.e) ∧ W.cell? ((x.add (i * 3)).add 2) = some (.string e.t)) len (fun i hil => by
      obtain ⟨cs', hc, ht⟩ := hi i (by omega)
      rw [cells38] at hc
      obtain ⟨_, hcl, hat⟩ := World.cells?_some hc
      obtain ⟨y0, y1, y2, k, hD, _, t0, t1, t2⟩ := trod_struct3 Try.underlying35 ht
      match cs', hcl with
      | [c0, c1, c2], _ =>
        simp only [cells3, cells9, List.drop, List.take] at t0 t1 t2
        obtain ⟨q0, e0, _, w0⟩ := DataW.trod_int Try.underlying3 t0
        obtain ⟨q1, e1, _, w1⟩ := DataW.trod_int Try.underlying3 t1
        obtain ⟨q2, e2, hy2, w2⟩ := DataW.trod_string Try.underlying9 t2
        simp only [List.cons.injEq, and_true] at e0 e1 e2
        subst e0 e1 e2
        have b0 : -9223372036854775808 ≤ q0 ∧ q0 ≤ 9223372036854775807 := by simpa [Lit.wf, IntKind.min, IntKind.max, IntKind.signed, IntKind.bits] using w0
        have b1 : -9223372036854775808 ≤ q1 ∧ q1 ≤ 9223372036854775807 := by simpa [Lit.wf, IntKind.min, IntKind.max, IntKind.signed, IntKind.bits] using w1
        refine ⟨⟨q0, q1, q2⟩, ?_, ⟨b0.1, b0.2, b1.1, b1.2, w2⟩, ?_, ?_, ?_⟩
        · have hk := hel i hil q2.data.toList.length
          have hD1 := congrArg Prod.fst hD
          simp only [hy2] at hD1
          rw [hD1] at hk
          have := hk (by simp [DataW.weights, Try.underlying35, DataW.weightsEach])
          rw [← Lib.size_eq] at this
          exact this
        · have := hat 0 (by omega)
          have e : (x.add (i * 3)).add 0 = x.add (i * 3) := by unfold Addr.add; split <;> simp_all
          rw [e] at this
          simpa using this
        · have := hat 1 (by omega)
          simpa using this
        · have := hat 2 (by omega)
          simpa using this)
    refine ⟨some x, l, m, by rw [hlen], by omega, fun i e he => ?_, by omega, fun e he => ?_⟩
    rotate_left
    · obtain ⟨i, hi⟩ := List.getElem?_of_mem he
      exact (hp i e hi).1
    obtain ⟨_, hok, g0, g1, g2⟩ := hp i e he
    obtain ⟨b, off, spot⟩ := x
    have hspot : spot = none := by
      have hlt : i < l.length := (List.getElem?_eq_some_iff.1 he).1
      have h0 : l[0]? = some (l[0]'(by omega)) := List.getElem?_eq_getElem (by omega)
      have h := World.cell?_spot (hp 0 _ h0).2.2.1
      simpa [Addr.add] using h
    subst hspot
    simp only [Go.WideShapes.add_plain] at g0 g1 g2
    exact ⟨hok, b, off, rfl, World.block_lt_of_cell? W _ g0, g0, g1, g2⟩
end
end Go.Proofs.Ytdmmoknddkfnmaa
