/-
  Apply and Transform whatever the edits; a list of edits as a source of append.
-/
import Derived.Test.YtbkiliiopondaaaDisPure
namespace Go.Proofs.Ytbkiliiopondaaa
open Go.RowKit

/-- What Apply hands back, whatever the edits. -/
def strR (s : ByteArray) (l : List Ed) : ByteArray := if errV s.size l = 0 then applyS s l else ⟨#[]⟩

theorem apply_any (s : ByteArray) (a : Option Addr) (cap : Nat) (l : List Ed) (hs : s.size ≤ maxLen) (hl : l.length ≤ maxLen) (w : World) (h : Eds w w.heap.size a l) :
    Calls Try.prog 13 #[.string s, .slice a l.length cap] w fun e w' => e = .returned (.tuple #[.string (strR s l), .int .i64 (errV s.size l)]) ∧ Below w.heap.size w w' := by
  by_cases he : errV s.size l = 0
  · rw [strR, if_pos he, he]; exact apply_ok s a cap l w hs hl h he
  · rw [strR, if_neg he]; exact apply_bad s a cap l w hs hl h he

theorem tr_ok (s : ByteArray) (L R : List Ed) : ∀ x, x ∈ trR s L R → x.ok := by
  by_cases h : trErr s L R = 0
  · obtain ⟨_, _, _, _, _, _, q2⟩ := tr_zero h
    rw [q2]
    exact valid_ok (by omega) (tr_valid h).1
  · rw [(tr_none h).2]
    intro x hx
    simp at hx

theorem transform_v (s : ByteArray) (a1 : Option Addr) (c1 : Nat) (L : List Ed) (a2 : Option Addr) (c2 : Nat) (R : List Ed) (hs : s.size ≤ maxLen) (hl1 : L.length ≤ maxLen) (hl2 : R.length ≤ maxLen) (w : World) (h1 : Eds w w.heap.size a1 L) (h2 : Eds w w.heap.size a2 R) :
    Calls Try.prog 17 #[.string s, .slice a1 L.length c1, .slice a2 R.length c2] w fun e w' => ∃ b n c b' c', e = .returned (.tuple #[.slice b n c, .slice b' (trR s L R).length c', .int .i64 (trErr s L R)]) ∧ Hid (Eds w' w'.heap.size b' (trR s L R)) ∧ Below w.heap.size w w' := by
  refine (transform_any s a1 c1 L a2 c2 R w hs hl1 hl2 h1 h2).mono ?_
  rintro e w' ⟨x, y, rfl, ho, ho2, hb⟩
  obtain ⟨b, c, rfl⟩ := owns_form ho.out
  obtain ⟨b', c', rfl, hE⟩ := ho2.out.eds (tr_ok s L R)
  exact ⟨b, _, c, b', c', rfl, hE, hb⟩

theorem edCells_one (l : List Ed) : ∀ u, u ∈ edCells l → u.oneCell' = true := by
  intro u hu
  obtain ⟨x, _, hx⟩ := List.mem_flatMap.1 hu
  simp [Ed.cells] at hx
  rcases hx with rfl | rfl | rfl <;> rfl

theorem eds_src {W : World} {B b o n c : Nat} {l : List Ed} (h : Eds W B (some ⟨b, o, none⟩) l) (hn : l.length = n) : SrcIs W (.slice (some ⟨b, o, none⟩) n c) n 3 (edCells l) := by
  refine ⟨by rw [edCells_length, hn], edCells_one l, .inr ⟨_, c, rfl, fun j u hu => ?_⟩⟩
  have hj : j < l.length * 3 := by rw [← edCells_length]; exact (List.getElem?_eq_some_iff.1 hu).1
  have hi : j / 3 < l.length := by omega
  have hx : l[j / 3]? = some l[j / 3] := List.getElem?_eq_getElem hi
  obtain ⟨_, b', o', hb, _, g0, g1, g2⟩ := h (j / 3) _ hx
  simp only [Option.some.injEq, Addr.mk.injEq, and_true] at hb
  obtain ⟨rfl, rfl⟩ := hb
  obtain ⟨e0, e1, e2⟩ := edCells_at hx
  have hadd : (⟨b, o, none⟩ : Addr).add j = ⟨b, o + j, none⟩ := by unfold Addr.add; split <;> simp_all
  rw [hadd]
  have hr : j = j / 3 * 3 ∨ j = j / 3 * 3 + 1 ∨ j = j / 3 * 3 + 2 := by omega
  generalize j / 3 = i at *
  rcases hr with rfl | rfl | rfl
  · rw [e0] at hu; rw [g0]; exact hu
  · rw [e1] at hu; rw [← Nat.add_assoc, g1]; exact hu
  · rw [e2] at hu; rw [← Nat.add_assoc, g2]; exact hu
end Go.Proofs.Ytbkiliiopondaaa
