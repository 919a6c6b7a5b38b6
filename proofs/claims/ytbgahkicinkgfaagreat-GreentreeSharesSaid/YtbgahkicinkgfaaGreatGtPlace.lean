/-
  Where a node lies, told with and without its width; one step of an insertion (no program).
-/
import Derived.Test.YtbgahkicinkgfaaGreatGtPure
namespace Go.Proofs.YtbgahkicinkgfaaGreat
open Go.RowKit

/-- Where the nodes tell their widths rightly, it is one whether the width is looked at. -/
theorem place_of_found {l : List G} (hg : Good l) {k : Int} {t : ByteArray} {c : List Int} {j : Nat} {y : G} (hy : l[j]? = some y) (h : y.k = k ∧ y.w = wid l t c ∧ y.t = t ∧ y.c = c)
    (hno : ∀ (i : Nat) (z : G), i < j → l[i]? = some z → ¬ (z.k = k ∧ z.w = wid l t c ∧ z.t = t ∧ z.c = c)) : place l k t c = some j := by
  unfold place
  rw [List.findIdx?_eq_some_iff_getElem]
  obtain ⟨hj, rfl⟩ := List.getElem?_eq_some_iff.1 hy
  refine ⟨hj, by simp [h.1, h.2.2.1, h.2.2.2], fun i hi => ?_⟩
  have hil : i < l.length := by omega
  have hz : l[i]? = some l[i] := List.getElem?_eq_getElem hil
  have h1 := hno i _ hi hz
  have h2 := (hg i _ hz).2.1
  simp only [Bool.not_eq_true, Bool.and_eq_false_iff, decide_eq_false_iff_not]
  rcases Classical.em (l[i].k = k) with e1 | e1
  · rcases Classical.em (l[i].t = t) with e2 | e2
    · right
      intro e3
      exact h1 ⟨e1, by rw [h2, e2, e3], e2, e3⟩
    · exact Or.inl (Or.inr e2)
  · exact Or.inl (Or.inl e1)

theorem place_of_none {l : List G} (hg : Good l) {k : Int} {t : ByteArray} {c : List Int} (hno : ∀ (i : Nat) (z : G), i < l.length → l[i]? = some z → ¬ (z.k = k ∧ z.w = wid l t c ∧ z.t = t ∧ z.c = c)) : place l k t c = none := by
  unfold place
  rw [List.findIdx?_eq_none_iff]
  intro x hx
  obtain ⟨i, hz⟩ := List.getElem?_of_mem hx
  have hil : i < l.length := (List.getElem?_eq_some_iff.1 hz).1
  have h1 := hno i _ hil hz
  have h2 := (hg i _ hz).2.1
  simp only [Bool.and_eq_false_iff, decide_eq_false_iff_not]
  rcases Classical.em (x.k = k) with e1 | e1
  · rcases Classical.em (x.t = t) with e2 | e2
    · right
      intro e3
      exact h1 ⟨e1, by rw [h2, e2, e3], e2, e3⟩
    · exact Or.inl (Or.inr e2)
  · exact Or.inl (Or.inl e1)

theorem wid_range (l : List G) {t : ByteArray} (ht : t.size ≤ 9223372036854775807) (c : List Int) : -9223372036854775808 ≤ wid l t c ∧ wid l t c ≤ 9223372036854775807 := by
  rcases List.eq_nil_or_concat c with rfl | ⟨d, z, rfl⟩
  · rw [wid_nil]; omega
  · rw [List.concat_eq_append, wid_snoc]
    unfold wrap64
    omega

theorem insF_step (l : List G) {a : List Tree} {k : Nat} {x : Tree} (h : a[k]? = some x) {t : ByteArray} :
    (insF l (a.take (k + 1))).1 = (insT (insF l (a.take k)).1 x).1 ∧ (insF l (a.take (k + 1))).2 = (insF l (a.take k)).2 ++ [((insT (insF l (a.take k)).1 x).2 : Int)] ∧
    wid (insF l (a.take (k + 1))).1 t (insF l (a.take (k + 1))).2 = wrap64 (wid (insF l (a.take k)).1 t (insF l (a.take k)).2 + wAt (insT (insF l (a.take k)).1 x).1 ((insT (insF l (a.take k)).1 x).2 : Int)) := by
  have e := insF_take l h
  refine ⟨by rw [e], by rw [e], ?_⟩
  rw [e]
  simp only
  rw [wid_snoc]
  obtain ⟨⟨r, hr⟩, _, _⟩ := (insT_grown x (insF l (a.take k)).1).1
  congr 2
  rw [hr]
  exact wid_append (insF_grown (a.take k) l).2
end Go.Proofs.YtbgahkicinkgfaaGreat
