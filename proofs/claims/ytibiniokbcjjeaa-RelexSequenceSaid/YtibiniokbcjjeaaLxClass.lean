/-
  The classes of bytes: isSpace, isDigit, isWordByte of the program, isWordByte of the reference.
-/
import Derived.Test.YtibiniokbcjjeaaLxBase
namespace Go.Proofs.Ytibiniokbcjjeaa
open Go.RowKit

theorem space_any (c : Int) (w : World) : Calls Try.prog 23 #[.int .u8 c] w fun e w' => e = .returned (.bool (spI c)) ∧ w' = w := by
  have hv : Hid (spI c = (decide (c = 32) || decide (c = 9) || decide (c = 10) || decide (c = 13))) := rfl
  by_cases h1 : c = 32
  · subst h1
    go_enter Try.func23, Try.ntmps23
    go_wp2_with fail
    go_ret
    exact ⟨rfl, rfl⟩
  · by_cases h2 : c = 9
    · subst h2
      go_enter Try.func23, Try.ntmps23
      go_wp2_with fail
      go_ret
      exact ⟨rfl, rfl⟩
    · by_cases h3 : c = 10
      · subst h3
        go_enter Try.func23, Try.ntmps23
        go_wp2_with fail
        go_ret
        exact ⟨rfl, rfl⟩
      · have g1 : (c == 32) = false := by simpa using h1
        have g2 : (c == 9) = false := by simpa using h2
        have g3 : (c == 10) = false := by simpa using h3
        have hv2 : Hid (spI c = (c == 13)) := by
          show _ = _
          rw [hv.out, decide_eq_false h1, decide_eq_false h2, decide_eq_false h3]
          by_cases h4 : c = 13 <;> simp [h4]
        go_enter Try.func23, Try.ntmps23
        go_wp2_with fail
        go_ret
        exact ⟨by rw [hv2.out]; rfl, rfl⟩

theorem digit_any (c : Int) (w : World) : Calls Try.prog 28 #[.int .u8 c] w fun e w' => e = .returned (.bool (dgI c)) ∧ w' = w := by
  by_cases h1 : 48 ≤ c
  · have hv : Hid (dgI c = decide (c ≤ 57)) := by show _ = _; rw [dgI, decide_eq_true h1]; rfl
    go_enter Try.func28, Try.ntmps28
    go_wp2_with fail
    go_ret
    exact ⟨by rw [hv.out]; rfl, rfl⟩
  · have hv : Hid (dgI c = false) := by show _ = _; rw [dgI, decide_eq_false h1]; rfl
    go_enter Try.func28, Try.ntmps28
    go_wp2_with fail
    go_ret
    exact ⟨by rw [hv.out]; rfl, rfl⟩

theorem wd_dg {c : Int} (h : ¬ (65 ≤ c ∧ c ≤ 90) ∧ ¬ (97 ≤ c ∧ c ≤ 122) ∧ c ≠ 95) : Hid (wdI c = dgI c) := by
  show _ = _
  unfold wdI
  have h1 : (decide (65 ≤ c) && decide (c ≤ 90)) = false := by rw [← Bool.decide_and]; exact decide_eq_false h.1
  have h2 : (decide (97 ≤ c) && decide (c ≤ 122)) = false := by rw [← Bool.decide_and]; exact decide_eq_false h.2.1
  rw [h1, h2, decide_eq_false h.2.2]
  simp

theorem dg_no {c : Int} (h : c < 48 ∨ 57 < c) : Hid (dgI c = false) := by
  show _ = _
  unfold dgI
  rw [← Bool.decide_and]; exact decide_eq_false (by omega)

theorem dg_yes {c : Int} (h : 48 ≤ c ∧ c ≤ 57) : Hid (dgI c = true) := by
  show _ = _
  unfold dgI
  rw [← Bool.decide_and]; exact decide_eq_true h

theorem word_any (c : Int) (w : World) : Calls Try.prog 27 #[.int .u8 c] w fun e w' => e = .returned (.bool (wdI c)) ∧ w' = w := by
  rcases (show (65 ≤ c ∧ c ≤ 90) ∨ (97 ≤ c ∧ c ≤ 122) ∨ c = 95 ∨ c < 65 ∨ (90 < c ∧ c < 97 ∧ c ≠ 95) ∨ 122 < c from by omega) with ⟨h1, h2⟩ | ⟨h1, h2⟩ | h1 | h1 | ⟨h1, h2, h3⟩ | h1
  · have hv : Hid (wdI c = true) := by show _ = _; unfold wdI; simp; omega
    go_enter Try.func27, Try.ntmps27
    go_wp2_with fail
    go_ret
    exact ⟨by rw [hv.out]; rfl, rfl⟩
  · have hv : Hid (wdI c = true) := by show _ = _; unfold wdI; simp; omega
    go_enter Try.func27, Try.ntmps27
    go_wp2_with fail
    go_ret
    exact ⟨by rw [hv.out]; rfl, rfl⟩
  · have hv : Hid (wdI c = true) := by show _ = _; unfold wdI; simp; omega
    subst h1
    go_enter Try.func27, Try.ntmps27
    go_wp2_with fail
    go_ret
    exact ⟨by rw [hv.out]; rfl, rfl⟩
  · have hv : Hid (wdI c = dgI c) := wd_dg (by omega)
    have g : (c == 95) = false := by simp; omega
    go_enter Try.func27, Try.ntmps27
    go_wp2_with fail
    refine (digit_any c w).mono ?_
    rintro e w1 ⟨rfl, rfl⟩
    go_wp2_with fail
    go_ret
    exact ⟨by rw [hv.out]; rfl, rfl⟩
  · have hv : Hid (wdI c = dgI c) := wd_dg (by omega)
    have g : (c == 95) = false := by simpa using h3
    have d90 : decide (c ≤ 90) = false := decide_eq_false (by omega)
    clear h3
    go_enter Try.func27, Try.ntmps27
    go_wp2_with fail
    refine (digit_any c w).mono ?_
    rintro e w1 ⟨rfl, rfl⟩
    go_wp2_with fail
    go_ret
    exact ⟨by rw [hv.out]; rfl, rfl⟩
  · have hv : Hid (wdI c = dgI c) := wd_dg (by omega)
    have g : (c == 95) = false := by simp; omega
    have d90 : decide (c ≤ 90) = false := decide_eq_false (by omega)
    have d122 : decide (c ≤ 122) = false := decide_eq_false (by omega)
    go_enter Try.func27, Try.ntmps27
    go_wp2_with fail
    refine (digit_any c w).mono ?_
    rintro e w1 ⟨rfl, rfl⟩
    go_wp2_with fail
    go_ret
    exact ⟨by rw [hv.out]; rfl, rfl⟩

end Go.Proofs.Ytibiniokbcjjeaa
