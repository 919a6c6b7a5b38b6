/-
  Plain mathematics: mapped offsets keep their order, right gravity never yields less than left gravity; nothing wraps.
-/
import Derived.Test.YtdmmoknddkfnmaaAMap
import Derived.Test.YtdmmoknddkfnmaaReach
namespace Go.Proofs.Ytdmmoknddkfnmaa
open Go.RowKit

theorem ordB_cons {p : Int} {x : Ed} {t : List Ed} (h : ordB p (x :: t) = true) : p < x.s ∧ x.s ≤ x.e ∧ ordB x.e t = true := by
  unfold ordB at h
  split at h
  · cases h
  · exact ⟨by omega, by omega, h⟩

theorem prec_true {x : Ed} {o : Int} {r : Bool} (h : prec x o r = true) : x.e < o ∨ (x.e = o ∧ (x.s < o ∨ r = true)) := by
  unfold prec at h
  split at h
  · exact Or.inl (by assumption)
  · split at h
    · split at h
      · exact Or.inr ⟨by assumption, Or.inl (by assumption)⟩
      · exact Or.inr ⟨by assumption, Or.inr h⟩
    · cases h

theorem prec_false {x : Ed} {o : Int} {r : Bool} (h : prec x o r = false) : o < x.e ∨ (x.e = o ∧ o ≤ x.s ∧ r = false) := by
  unfold prec at h
  split at h
  · cases h
  · split at h
    · split at h
      · cases h
      · exact Or.inr ⟨by assumption, by omega, h⟩
    · exact Or.inl (by omega)

/-- The four ways of an edit at the head. -/
theorem mp_ways {o : Int} {r : Bool} {x : Ed} {t : List Ed} (hx : x.s ≤ x.e) :
    (x.s < o ∧ o < x.e ∧ mp o r (x :: t) = (if r then x.s + x.t.size else x.s)) ∨
    (x.e ≤ o ∧ prec x o r = true ∧ mp o r (x :: t) = mp o r t + (x.t.size - (x.e - x.s))) ∨
    (o ≤ x.s ∧ prec x o r = false ∧ mp o r (x :: t) = mp o r t) := by
  by_cases h : x.s < o ∧ o < x.e
  · exact Or.inl ⟨h.1, h.2, by rw [mp, if_pos h]⟩
  · cases hp : prec x o r with
    | true =>
      refine Or.inr (Or.inl ⟨?_, rfl, by rw [mp, if_neg h, if_pos hp]⟩)
      rcases prec_true hp with h1 | h1 <;> omega
    | false =>
      refine Or.inr (Or.inr ⟨?_, rfl, by rw [mp, if_neg h, if_neg (by simp [hp])]⟩)
      rcases prec_false hp with h1 | h1 <;> omega

/-- What lies behind the offset does not move it. -/
theorem mp_before {o : Int} {r : Bool} {l : List Ed} : ∀ {p : Int}, o ≤ p → ordB p l = true → mp o r l = o := by
  induction l with
  | nil => intro p _ _; rfl
  | cons x t ih =>
    intro p h1 h
    obtain ⟨a, b, c⟩ := ordB_cons h
    rcases mp_ways (o := o) (r := r) (t := t) b with ⟨w1, _, _⟩ | ⟨w1, _, _⟩ | ⟨_, _, w3⟩
    · omega
    · omega
    · rw [w3]; exact ih (by omega) c

theorem mp_low {o : Int} {r : Bool} {l : List Ed} : ∀ {p : Int}, ordB p l = true → (o ≤ mp o r l ∨ p + 1 ≤ mp o r l) := by
  induction l with
  | nil => intro p _; exact Or.inl (Int.le_refl _)
  | cons x t ih =>
    intro p h
    obtain ⟨a, b, c⟩ := ordB_cons h
    have hi := ih c
    rcases mp_ways (o := o) (r := r) (t := t) b with ⟨w1, w2, w3⟩ | ⟨w1, _, w3⟩ | ⟨w1, _, w3⟩
    · rw [w3]; right; split <;> omega
    · rw [w3]; right; omega
    · rw [w3]; omega

theorem mp_high {o : Int} {r : Bool} {l : List Ed} : ∀ {p : Int}, ordB p l = true → mp o r l ≤ o + tsum l := by
  induction l with
  | nil => intro p _; simp [mp, tsum]
  | cons x t ih =>
    intro p h
    obtain ⟨a, b, c⟩ := ordB_cons h
    have hi := ih c
    simp only [tsum]
    rcases mp_ways (o := o) (r := r) (t := t) b with ⟨w1, w2, w3⟩ | ⟨w1, _, w3⟩ | ⟨w1, _, w3⟩
    · rw [w3]; split <;> omega
    · rw [w3]; omega
    · rw [w3]; omega

theorem mp_mono {o o' : Int} {r : Bool} {l : List Ed} (ho : o ≤ o') : ∀ {p : Int}, ordB p l = true → mp o r l ≤ mp o' r l := by
  induction l with
  | nil => intro p _; simpa [mp] using ho
  | cons x t ih =>
    intro p h
    obtain ⟨a, b, c⟩ := ordB_cons h
    have hi := ih c
    have hl := mp_low (o := o') (r := r) c
    rcases mp_ways (o := o) (r := r) (t := t) b with ⟨w1, w2, w3⟩ | ⟨w1, w2, w3⟩ | ⟨w1, w2, w3⟩ <;>
      rcases mp_ways (o := o') (r := r) (t := t) b with ⟨v1, v2, v3⟩ | ⟨v1, v2, v3⟩ | ⟨v1, v2, v3⟩ <;> rw [w3, v3]
    · exact Int.le_refl _
    · split <;> omega
    · omega
    · rcases prec_true w2 with q | q <;> omega
    · omega
    · rcases prec_true w2 with q | ⟨q1, q2⟩
      · omega
      · rcases prec_false v2 with q | ⟨q3, q4, q5⟩
        · omega
        · rcases q2 with q | q
          · omega
          · rw [q] at q5; cases q5
    · have := mp_before (r := r) (o := o) (p := x.e) (by omega) c
      rw [this]; split <;> omega
    · have := mp_before (r := r) (o := o) (p := x.e) (by omega) c
      rw [this]; omega
    · exact hi

theorem mp_sides {o : Int} {l : List Ed} : ∀ {p : Int}, ordB p l = true → mp o false l ≤ mp o true l := by
  induction l with
  | nil => intro p _; exact Int.le_refl _
  | cons x t ih =>
    intro p h
    obtain ⟨a, b, c⟩ := ordB_cons h
    have hi := ih c
    rcases mp_ways (o := o) (r := false) (t := t) b with ⟨w1, w2, w3⟩ | ⟨w1, w2, w3⟩ | ⟨w1, w2, w3⟩ <;>
      rcases mp_ways (o := o) (r := true) (t := t) b with ⟨v1, v2, v3⟩ | ⟨v1, v2, v3⟩ | ⟨v1, v2, v3⟩ <;> rw [w3, v3]
    · simp; omega
    · omega
    · omega
    · omega
    · omega
    · rcases prec_true w2 with q | ⟨q1, q | q⟩
      · omega
      · rcases prec_false v2 with q' | q' <;> omega
      · cases q
    · omega
    · omega
    · exact hi

/-- Within the bounds nothing wraps. -/
theorem map_plain {l : List Ed} {o : Int} {r : Bool} (h : errM l o = 0) (hr : Reach l) (ho : o ≤ 1099511627776) : mapV l o r = mp o r l ∧ 0 ≤ mp o r l := by
  obtain ⟨h1, h2⟩ := errM_zero h
  obtain ⟨h3, h4⟩ := errA_zero h1
  have t1 := take_reach hr h3 l.length
  rw [List.take_length] at t1
  have t2 := mp_high (o := o) (r := r) h4
  have t3 := mp_low (o := o) (r := r) h4
  exact ⟨by rw [mapV_ok h]; exact w_id (by omega), by omega⟩

theorem map_mono {l : List Ed} {o o' : Int} {r : Bool} (h : errM l o = 0) (h' : errM l o' = 0) (hr : Reach l) (hle : o ≤ o') (ho : o' ≤ 1099511627776) : mapV l o r ≤ mapV l o' r := by
  rw [(map_plain h hr (by omega)).1, (map_plain h' hr ho).1]
  exact mp_mono hle (errA_zero (errM_zero h).1).2

theorem map_sides {l : List Ed} {o : Int} (h : errM l o = 0) (hr : Reach l) (ho : o ≤ 1099511627776) : mapV l o false ≤ mapV l o true := by
  rw [(map_plain h hr ho).1, (map_plain h hr ho).1]
  exact mp_sides (errA_zero (errM_zero h).1).2
end Go.Proofs.Ytdmmoknddkfnmaa
