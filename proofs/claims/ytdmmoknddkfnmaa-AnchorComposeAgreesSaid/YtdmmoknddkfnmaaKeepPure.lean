/-
  Plain mathematics: the positions before and after a retained byte come to the positions before and after the same byte of the result.
-/
import Derived.Test.YtdmmoknddkfnmaaMonoPure
import Derived.Test.YtdmmoknddkfnmaaDel
import Derived.Lib.Strings
namespace Go.Proofs.Ytdmmoknddkfnmaa
open Go.RowKit

theorem sep_ordB {n : Int} {l : List Ed} : ∀ {p : Int}, sepFrom n p l = true → ordB p l = true := by
  induction l with
  | nil => intro p _; rfl
  | cons x t ih =>
    intro p h
    unfold sepFrom at h
    split at h
    · cases h
    · unfold ordB
      rw [if_neg (by omega)]
      exact ih h

theorem errV_errA {n : Int} {l : List Ed} (h : errV n l = 0) : errA l = 0 := by
  obtain ⟨h1, h2, h3, h4⟩ := errV_zero h
  unfold errA
  rw [if_neg (by omega), sep_ordB h3]; rfl

theorem delAt_cons {x : Ed} {t : List Ed} {o : Int} (h : delAt (x :: t) o = false) : ¬ (x.s ≤ o ∧ o < x.e) ∧ delAt t o = false := by
  unfold delAt at h
  split at h
  · cases h
  · exact ⟨by assumption, h⟩

/-- A retained byte's position: left gravity behind it is right gravity before it, and one. -/
theorem mp_next {o : Int} {l : List Ed} : ∀ {p : Int}, ordB p l = true → delAt l o = false → mp (o + 1) false l = mp o true l + 1 := by
  induction l with
  | nil => intro p _ _; rfl
  | cons x t ih =>
    intro p h hd
    obtain ⟨a, b, c⟩ := ordB_cons h
    obtain ⟨d1, d2⟩ := delAt_cons hd
    have hi := ih c d2
    rcases mp_ways (o := o) (r := true) (t := t) b with ⟨w1, w2, w3⟩ | ⟨w1, w2, w3⟩ | ⟨w1, w2, w3⟩ <;>
      rcases mp_ways (o := o + 1) (r := false) (t := t) b with ⟨v1, v2, v3⟩ | ⟨v1, v2, v3⟩ | ⟨v1, v2, v3⟩ <;> rw [w3, v3]
    · omega
    · omega
    · omega
    · omega
    · omega
    · rcases prec_false v2 with q | q <;> omega
    · omega
    · rcases prec_true v2 with q | ⟨q1, q | q⟩
      · rcases prec_false w2 with q' | ⟨_, _, q'⟩
        · omega
        · cases q'
      · rcases prec_false w2 with q' | ⟨_, _, q'⟩
        · omega
        · cases q'
      · cases q
    · exact hi

/-- Where the result holds the byte. -/
theorem mp_byte {src : List UInt8} {o : Nat} (ho : o < src.length) {l : List Ed} : ∀ {p q : Int}, 0 ≤ p → p ≤ q + 1 → p ≤ o → sepFrom src.length q l = true → delAt l o = false →
    p ≤ mp o true l ∧ (applyFrom src p l)[(mp o true l - p).toNat]? = src[o]? := by
  induction l with
  | nil =>
    intro p q h0 _ h1 _ _
    refine ⟨by simpa [mp] using h1, ?_⟩
    simp only [mp, applyFrom, List.getElem?_drop]
    rw [show p.toNat + ((o : Int) - p).toNat = o from by omega]
  | cons x t ih =>
    intro p q h0 hpq h1 hs hd
    have hord := sep_ordB hs
    obtain ⟨a, b, c⟩ := ordB_cons hord
    obtain ⟨d1, d2⟩ := delAt_cons hd
    have hs' : sepFrom src.length x.e t = true := by
      unfold sepFrom at hs
      split at hs
      · cases hs
      · exact hs
    have hxn : x.e ≤ src.length := by
      unfold sepFrom at hs
      split at hs
      · cases hs
      · omega
    have htk : ((src.drop p.toNat).take (x.s.toNat - p.toNat)).length = x.s.toNat - p.toNat := by
      rw [List.length_take, List.length_drop]; omega
    have htz : x.t.data.toList.length = x.t.size := by rw [Array.length_toList]; rfl
    rcases mp_ways (o := (o : Int)) (r := true) (t := t) b with ⟨w1, w2, w3⟩ | ⟨w1, w2, w3⟩ | ⟨w1, w2, w3⟩
    · omega
    · obtain ⟨i1, i2⟩ := ih (p := x.e) (q := x.e) (by omega) (by omega) (by omega) hs' d2
      rw [w3]
      refine ⟨by omega, ?_⟩
      rw [applyFrom, List.getElem?_append_right (by rw [htk]; omega), List.getElem?_append_right (by rw [htk, htz]; omega), htk, htz]
      rw [← i2]
      congr 1
      omega
    · have hlt : (o : Int) < x.s := by
        rcases prec_false w2 with q | ⟨_, _, q⟩
        · omega
        · cases q
      have hb := mp_before (r := true) (o := (o : Int)) (p := x.e) (by omega) c
      rw [w3, hb]
      refine ⟨h1, ?_⟩
      rw [applyFrom, List.getElem?_append_left (by rw [htk]; omega), List.getElem?_take, if_pos (by omega), List.getElem?_drop]
      rw [show p.toNat + ((o : Int) - p).toNat = o from by omega]

theorem kept_byte {src : List UInt8} {o : Nat} {l : List Ed} (he : errV src.length l = 0) (ho : o < src.length) (hd : delAt l o = false) :
    ∃ m : Nat, mp o true l = m ∧ mp (o + 1) false l = m + 1 ∧ m < (applyL src l).length ∧ (applyL src l)[m]? = src[o]? := by
  obtain ⟨h1, h2, h3, h4⟩ := errV_zero he
  obtain ⟨a, b⟩ := mp_byte ho (p := 0) (q := -1) (by omega) (by omega) (by omega) h3 hd
  refine ⟨(mp o true l).toNat, by omega, ?_, ?_, ?_⟩
  · rw [mp_next (sep_ordB h3) hd]; omega
  · rcases Nat.lt_or_ge (mp o true l).toNat (applyL src l).length with h | h
    · exact h
    · have h5 : (applyL src l)[(mp o true l).toNat]? = src[o]? := by simpa [applyL] using b
      rw [List.getElem?_eq_none h, List.getElem?_eq_getElem ho] at h5
      cases h5
  · simpa [applyL] using b
end Go.Proofs.Ytdmmoknddkfnmaa
