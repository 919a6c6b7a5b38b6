/-
  Plain mathematics: what anchor.Map gives.
-/
import Derived.Test.YtdmmoknddkfnmaaPure
import Derived.IntWalk
namespace Go.Proofs.Ytdmmoknddkfnmaa
open Go.RowKit

/-- Does the edit precede the offset? -/
def prec (x : Ed) (o : Int) (r : Bool) : Bool := if x.e < o then true else if x.e = o then (if x.s < o then true else r) else false

/-- Where the offset comes to, as a whole number. -/
def mp (o : Int) (r : Bool) : List Ed → Int
  | [] => o
  | x :: t => if x.s < o ∧ o < x.e then (if r then x.s + x.t.size else x.s) else if prec x o r then mp o r t + (x.t.size - (x.e - x.s)) else mp o r t

/-- Is the list in order behind p? -/
def ordB : Int → List Ed → Bool
  | _, [] => true
  | p, x :: r => if x.s ≤ p ∨ x.e < x.s then false else ordB x.e r

/-- The error of the edits. -/
def errA (l : List Ed) : Int := if 50 < l.length then 2 else if ordB (-1) l then 0 else 3

/-- The error of Map. -/
def errM (l : List Ed) (o : Int) : Int := if errA l ≠ 0 then errA l else if o < 0 then 1 else 0

/-- The answer of Map. -/
def mapV (l : List Ed) (o : Int) (r : Bool) : Int := if errM l o = 0 then wrap64 (mp o r l) else 0

theorem errA_cases (l : List Ed) : errA l = 0 ∨ errA l = 2 ∨ errA l = 3 := by
  unfold errA; split
  · exact Or.inr (Or.inl rfl)
  · split
    · exact Or.inl rfl
    · exact Or.inr (Or.inr rfl)

theorem errA_zero {l : List Ed} (h : errA l = 0) : l.length ≤ 50 ∧ ordB (-1) l = true := by
  unfold errA at h
  split at h
  · cases h
  · split at h
    · exact ⟨by omega, by assumption⟩
    · cases h

theorem errM_zero {l : List Ed} {o : Int} (h : errM l o = 0) : errA l = 0 ∧ 0 ≤ o := by
  unfold errM at h
  split at h
  · contradiction
  · split at h
    · cases h
    · exact ⟨by omega, by omega⟩

theorem errM_cases (l : List Ed) (o : Int) : errM l o = 0 ∨ errM l o = 1 ∨ errM l o = 2 ∨ errM l o = 3 := by
  have := errA_cases l
  unfold errM; split
  · omega
  · split
    · exact Or.inr (Or.inl rfl)
    · exact Or.inl rfl

theorem wrap_in64 (n : Int) : -9223372036854775808 ≤ wrap64 n ∧ wrap64 n ≤ 9223372036854775807 := by unfold wrap64; omega

theorem mapV_in (l : List Ed) (o : Int) (r : Bool) : -9223372036854775808 ≤ mapV l o r ∧ mapV l o r ≤ 9223372036854775807 := by
  unfold mapV; split
  · exact wrap_in64 _
  · omega

/-! What the walks ask of the wraps. -/
theorem w_in {a s q n : Int} (h : wrap64 a = wrap64 (s + n + q)) : wrap64 (wrap64 (s + q) + n) = wrap64 a := by rw [h]; simp only [wrap64]; omega
theorem w_left {a s q : Int} (h : wrap64 a = wrap64 (s + q)) : wrap64 (s + q) = wrap64 a := h.symm
theorem w_step {a m q n s e : Int} (h : wrap64 a = wrap64 (m + (n - (e - s)) + q)) : wrap64 a = wrap64 (m + wrap64 (q + wrap64 (n - wrap64 (e - s)))) := by rw [h]; simp only [wrap64]; omega
theorem w_ref {m n s e : Int} : wrap64 (wrap64 (wrap64 (wrap64 m + n) + s) - e) = wrap64 (m + (n - (e - s))) := by simp only [wrap64]; omega
theorem w_id {n : Int} (h : -9223372036854775808 ≤ n ∧ n ≤ 9223372036854775807) : wrap64 n = n := IntWalk.wrap64_in n h
end Go.Proofs.Ytdmmoknddkfnmaa
