/-
  lexer.lengthOf at the three classes that it is called with.
-/
import Derived.Test.YtibiniokbcjjeaaLxClass
namespace Go.Proofs.Ytibiniokbcjjeaa
open Go.RowKit

set_option maxHeartbeats 1000000 in
theorem len_space (s : ByteArray) (w : World) (hs : s.size ≤ 1000000) : Calls Try.prog 24 #[.string s, .func (.func 23) #[] #[]] w fun e w' => e = .returned (.int .i64 (run spI (L s) : Nat)) ∧ w' = w := by
  go_enter Try.func24, Try.ntmps24
  go_wp2_with fail
  go_loop [5] (fun i => ∃ k : Nat, k ≤ s.size ∧ i = .int .i64 k ∧ Hid (k ≤ run spI (L s))) (fun i => s.size - (intOf i).toNat)
  case atStart => exact ⟨0, Nat.zero_le _, rfl, Nat.zero_le _⟩
  case round =>
    obtain ⟨k, hk, rfl, hrun⟩ := hrel
    by_cases hlt : k < s.size
    · obtain ⟨c, hc⟩ : ∃ c, s[k]'hlt = c := ⟨_, rfl⟩
      have hat := Lib.hid (at_L s k hlt)
      rw [hc] at hat
      have K := Lib.hid (fun W => space_any (c.toNat : Int) W)
      have hb : (k : Int) < 1000000 := by omega
      cases hp : spI (c.toNat : Int) with
      | true =>
        rw [hp] at K
        have hmore := Lib.hid (run_more hrun.out hat.out hp)
        clear hat hrun hp
        go_wp2_with fail
        refine (K.out _).mono ?_
        rintro e w1 ⟨rfl, rfl⟩
        go_wp2_with fail
        go_round
        case rel => exact ⟨k + 1, by omega, by go_num, hmore⟩
        case measure => simp [intOf]; omega
      | false =>
        rw [hp] at K
        have hdone := Lib.hid (run_done hrun.out hat.out hp)
        clear hat hrun hp
        go_wp2_with fail
        refine (K.out _).mono ?_
        rintro e w1 ⟨rfl, rfl⟩
        go_wp2_with fail
        go_ret
        exact ⟨by rw [← hdone.out]; rfl, rfl⟩
    · obtain rfl : k = s.size := by omega
      have hdone := Lib.hid (run_end hrun.out (by rw [L_len]; exact Nat.le_refl _))
      clear hrun
      go_wp2_with fail
      go_ret
      exact ⟨by rw [← hdone.out]; rfl, rfl⟩

set_option maxHeartbeats 1000000 in
theorem len_word (s : ByteArray) (w : World) (hs : s.size ≤ 1000000) : Calls Try.prog 24 #[.string s, .func (.func 27) #[] #[]] w fun e w' => e = .returned (.int .i64 (run wdI (L s) : Nat)) ∧ w' = w := by
  go_enter Try.func24, Try.ntmps24
  go_wp2_with fail
  go_loop [5] (fun i => ∃ k : Nat, k ≤ s.size ∧ i = .int .i64 k ∧ Hid (k ≤ run wdI (L s))) (fun i => s.size - (intOf i).toNat)
  case atStart => exact ⟨0, Nat.zero_le _, rfl, Nat.zero_le _⟩
  case round =>
    obtain ⟨k, hk, rfl, hrun⟩ := hrel
    by_cases hlt : k < s.size
    · obtain ⟨c, hc⟩ : ∃ c, s[k]'hlt = c := ⟨_, rfl⟩
      have hat := Lib.hid (at_L s k hlt)
      rw [hc] at hat
      have K := Lib.hid (fun W => word_any (c.toNat : Int) W)
      have hb : (k : Int) < 1000000 := by omega
      cases hp : wdI (c.toNat : Int) with
      | true =>
        rw [hp] at K
        have hmore := Lib.hid (run_more hrun.out hat.out hp)
        clear hat hrun hp
        go_wp2_with fail
        refine (K.out _).mono ?_
        rintro e w1 ⟨rfl, rfl⟩
        go_wp2_with fail
        go_round
        case rel => exact ⟨k + 1, by omega, by go_num, hmore⟩
        case measure => simp [intOf]; omega
      | false =>
        rw [hp] at K
        have hdone := Lib.hid (run_done hrun.out hat.out hp)
        clear hat hrun hp
        go_wp2_with fail
        refine (K.out _).mono ?_
        rintro e w1 ⟨rfl, rfl⟩
        go_wp2_with fail
        go_ret
        exact ⟨by rw [← hdone.out]; rfl, rfl⟩
    · obtain rfl : k = s.size := by omega
      have hdone := Lib.hid (run_end hrun.out (by rw [L_len]; exact Nat.le_refl _))
      clear hrun
      go_wp2_with fail
      go_ret
      exact ⟨by rw [← hdone.out]; rfl, rfl⟩

set_option maxHeartbeats 1000000 in
theorem len_digit (s : ByteArray) (w : World) (hs : s.size ≤ 1000000) : Calls Try.prog 24 #[.string s, .func (.func 28) #[] #[]] w fun e w' => e = .returned (.int .i64 (run dgI (L s) : Nat)) ∧ w' = w := by
  go_enter Try.func24, Try.ntmps24
  go_wp2_with fail
  go_loop [5] (fun i => ∃ k : Nat, k ≤ s.size ∧ i = .int .i64 k ∧ Hid (k ≤ run dgI (L s))) (fun i => s.size - (intOf i).toNat)
  case atStart => exact ⟨0, Nat.zero_le _, rfl, Nat.zero_le _⟩
  case round =>
    obtain ⟨k, hk, rfl, hrun⟩ := hrel
    by_cases hlt : k < s.size
    · obtain ⟨c, hc⟩ : ∃ c, s[k]'hlt = c := ⟨_, rfl⟩
      have hat := Lib.hid (at_L s k hlt)
      rw [hc] at hat
      have K := Lib.hid (fun W => digit_any (c.toNat : Int) W)
      have hb : (k : Int) < 1000000 := by omega
      cases hp : dgI (c.toNat : Int) with
      | true =>
        rw [hp] at K
        have hmore := Lib.hid (run_more hrun.out hat.out hp)
        clear hat hrun hp
        go_wp2_with fail
        refine (K.out _).mono ?_
        rintro e w1 ⟨rfl, rfl⟩
        go_wp2_with fail
        go_round
        case rel => exact ⟨k + 1, by omega, by go_num, hmore⟩
        case measure => simp [intOf]; omega
      | false =>
        rw [hp] at K
        have hdone := Lib.hid (run_done hrun.out hat.out hp)
        clear hat hrun hp
        go_wp2_with fail
        refine (K.out _).mono ?_
        rintro e w1 ⟨rfl, rfl⟩
        go_wp2_with fail
        go_ret
        exact ⟨by rw [← hdone.out]; rfl, rfl⟩
    · obtain rfl : k = s.size := by omega
      have hdone := Lib.hid (run_end hrun.out (by rw [L_len]; exact Nat.le_refl _))
      clear hrun
      go_wp2_with fail
      go_ret
      exact ⟨by rw [← hdone.out]; rfl, rfl⟩
end Go.Proofs.Ytibiniokbcjjeaa
