/-
  glossatorref1.run at its four classes.
-/
import Derived.Test.YtjakmigkipcomaaClass
namespace Go.Proofs.Ytjakmigkipcomaa
open Go.RowKit

theorem sp_yes {c : Int} (h : c = 32 ∨ c = 9 ∨ c = 10 ∨ c = 13) : spI c = true := by rcases h with rfl | rfl | rfl | rfl <;> rfl
theorem sp_no {c : Int} (h1 : ¬ c = 32) (h2 : ¬ c = 9) (h3 : ¬ c = 10) (h4 : ¬ c = 13) : spI c = false := by
  unfold spI
  rw [decide_eq_false h1, decide_eq_false h2, decide_eq_false h3, decide_eq_false h4]; rfl
theorem beq_yes {c d : Int} (h : c = d) : (c == d) = true := by simpa using h
theorem beq_no {c d : Int} (h : ¬ c = d) : (c == d) = false := by simpa using h
theorem nn_yes {c : Int} (h : ¬ c = 10) : nnI c = true := by unfold nnI; rw [decide_eq_false h]; rfl
theorem nn_no {c : Int} (h : c = 10) : nnI c = false := by subst h; rfl

set_option maxHeartbeats 2000000 in
set_option maxRecDepth 100000 in
theorem rrun_0 (s : ByteArray) (w : World) (hs : s.size ≤ 1000000) : Calls Try.prog 36 #[.string s, .int .i64 0] w fun e w' => e = .returned (.int .i64 (run spI (L s) : Nat)) ∧ w' = w := by
  have hS : (s.size : Int) ≤ 1000000 := by omega
  go_enter Try.func36, Try.ntmps36
  go_wp2_with fail
  go_loop [5] (fun i => ∃ k : Nat, k ≤ s.size ∧ i = .int .i64 k ∧ Hid (k ≤ run spI (L s))) (fun i => s.size - (intOf i).toNat)
  case atStart => exact ⟨0, Nat.zero_le _, rfl, Nat.zero_le _⟩
  case round =>
    obtain ⟨k, hk, rfl, hrun⟩ := hrel
    by_cases hlt : k < s.size
    · obtain ⟨c, hc⟩ : ∃ c, s[k]'hlt = c := ⟨_, rfl⟩
      have hat := Lib.hid (at_L s k hlt)
      rw [hc] at hat
      have hb : (k : Int) < 1000000 := by omega
      by_cases h0 : (c.toNat : Int) = 32
      · have hp : spI (c.toNat : Int) = true := sp_yes (by omega)
        have g := beq_yes h0
        clear h0
        have hmore := Lib.hid (run_more hrun.out hat.out hp)
        clear hat hrun hp
        go_wp2_with fail
        go_round
        case rel => exact ⟨k + 1, by omega, by go_num, hmore⟩
        case measure => simp [intOf]; omega
      · have g0 := beq_no h0
        by_cases h1 : (c.toNat : Int) = 9
        · have hp : spI (c.toNat : Int) = true := sp_yes (by omega)
          have g := beq_yes h1
          clear h1
          have hmore := Lib.hid (run_more hrun.out hat.out hp)
          clear hat hrun hp
          go_wp2_with fail
          go_round
          case rel => exact ⟨k + 1, by omega, by go_num, hmore⟩
          case measure => simp [intOf]; omega
        · have g1 := beq_no h1
          by_cases h2 : (c.toNat : Int) = 10
          · have hp : spI (c.toNat : Int) = true := sp_yes (by omega)
            have g := beq_yes h2
            clear h2
            have hmore := Lib.hid (run_more hrun.out hat.out hp)
            clear hat hrun hp
            go_wp2_with fail
            go_round
            case rel => exact ⟨k + 1, by omega, by go_num, hmore⟩
            case measure => simp [intOf]; omega
          · have g2 := beq_no h2
            by_cases h3 : (c.toNat : Int) = 13
            · have hp : spI (c.toNat : Int) = true := sp_yes (by omega)
              have g := beq_yes h3
              clear h3
              have hmore := Lib.hid (run_more hrun.out hat.out hp)
              clear hat hrun hp
              go_wp2_with fail
              go_round
              case rel => exact ⟨k + 1, by omega, by go_num, hmore⟩
              case measure => simp [intOf]; omega
            · have g3 := beq_no h3
              have hp : spI (c.toNat : Int) = false := sp_no h0 h1 h2 h3
              clear h0 h1 h2 h3
              have hdone := Lib.hid (run_done hrun.out hat.out hp)
              clear hat hrun hp
              go_wp2_with fail
              go_ret
              exact ⟨by rw [← hdone.out]; rfl, rfl⟩
    · obtain rfl : k = s.size := by omega
      have hdone := Lib.hid (run_end hrun.out (by rw [L_len]; exact Nat.le_refl _))
      clear hrun
      go_wp2_with fail
      go_ret
      exact ⟨by rw [← hdone.out]; rfl, rfl⟩

set_option maxHeartbeats 2000000 in
set_option maxRecDepth 100000 in
theorem rrun_1 (s : ByteArray) (w : World) (hs : s.size ≤ 1000000) : Calls Try.prog 36 #[.string s, .int .i64 1] w fun e w' => e = .returned (.int .i64 (run nnI (L s) : Nat)) ∧ w' = w := by
  have hS : (s.size : Int) ≤ 1000000 := by omega
  go_enter Try.func36, Try.ntmps36
  go_wp2_with fail
  go_loop [5] (fun i => ∃ k : Nat, k ≤ s.size ∧ i = .int .i64 k ∧ Hid (k ≤ run nnI (L s))) (fun i => s.size - (intOf i).toNat)
  case atStart => exact ⟨0, Nat.zero_le _, rfl, Nat.zero_le _⟩
  case round =>
    obtain ⟨k, hk, rfl, hrun⟩ := hrel
    by_cases hlt : k < s.size
    · obtain ⟨c, hc⟩ : ∃ c, s[k]'hlt = c := ⟨_, rfl⟩
      have hat := Lib.hid (at_L s k hlt)
      rw [hc] at hat
      have hb : (k : Int) < 1000000 := by omega
      by_cases h0 : (c.toNat : Int) = 10
      · have hp : nnI (c.toNat : Int) = false := nn_no h0
        have g : ((c.toNat : Int) != 10) = false := by simp [h0]
        clear h0
        have hdone := Lib.hid (run_done hrun.out hat.out hp)
        clear hat hrun hp
        go_wp2_with fail
        go_ret
        exact ⟨by rw [← hdone.out]; rfl, rfl⟩
      · have hp : nnI (c.toNat : Int) = true := nn_yes h0
        have g : ((c.toNat : Int) != 10) = true := by simpa using h0
        clear h0
        have hmore := Lib.hid (run_more hrun.out hat.out hp)
        clear hat hrun hp
        go_wp2_with fail
        go_round
        case rel => exact ⟨k + 1, by omega, by go_num, hmore⟩
        case measure => simp [intOf]; omega
    · obtain rfl : k = s.size := by omega
      have hdone := Lib.hid (run_end hrun.out (by rw [L_len]; exact Nat.le_refl _))
      clear hrun
      go_wp2_with fail
      go_ret
      exact ⟨by rw [← hdone.out]; rfl, rfl⟩

set_option maxHeartbeats 2000000 in
set_option maxRecDepth 100000 in
theorem rrun_2 (s : ByteArray) (w : World) (hs : s.size ≤ 1000000) : Calls Try.prog 36 #[.string s, .int .i64 2] w fun e w' => e = .returned (.int .i64 (run wdI (L s) : Nat)) ∧ w' = w := by
  have hS : (s.size : Int) ≤ 1000000 := by omega
  go_enter Try.func36, Try.ntmps36
  go_wp2_with fail
  go_loop [5] (fun i => ∃ k : Nat, k ≤ s.size ∧ i = .int .i64 k ∧ Hid (k ≤ run wdI (L s))) (fun i => s.size - (intOf i).toNat)
  case atStart => exact ⟨0, Nat.zero_le _, rfl, Nat.zero_le _⟩
  case round =>
    obtain ⟨k, hk, rfl, hrun⟩ := hrel
    by_cases hlt : k < s.size
    · obtain ⟨c, hc⟩ : ∃ c, s[k]'hlt = c := ⟨_, rfl⟩
      have hat := Lib.hid (at_L s k hlt)
      rw [hc] at hat
      have hb : (k : Int) < 1000000 := by omega
      cases hp : wdI (c.toNat : Int) with
      | true =>
        have hmore := Lib.hid (run_more hrun.out hat.out hp)
        have K := Lib.hid (rword_any (c.toNat : Int) w)
        rw [hp] at K
        clear hat hrun hp
        go_wp2_with fail
        refine K.out.mono ?_
        rintro e w1 ⟨rfl, rfl⟩
        go_wp2_with fail
        go_round
        case rel => exact ⟨k + 1, by omega, by go_num, hmore⟩
        case measure => simp [intOf]; omega
      | false =>
        have hdone := Lib.hid (run_done hrun.out hat.out hp)
        have K := Lib.hid (rword_any (c.toNat : Int) w)
        rw [hp] at K
        clear hat hrun hp
        go_wp2_with fail
        refine K.out.mono ?_
        rintro e w1 ⟨rfl, rfl⟩
        go_wp2_with fail
        go_ret
        exact ⟨by rw [← hdone.out]; rfl, rfl⟩
    · obtain rfl : k = s.size := by omega
      have hdone := Lib.hid (run_end hrun.out (by rw [L_len]; exact Nat.le_refl _))
      clear hrun
      go_wp2_with fail
      go_ret
      exact ⟨by rw [← hdone.out]; rfl, rfl⟩

set_option maxHeartbeats 2000000 in
set_option maxRecDepth 100000 in
theorem rrun_3 (s : ByteArray) (w : World) (hs : s.size ≤ 1000000) : Calls Try.prog 36 #[.string s, .int .i64 3] w fun e w' => e = .returned (.int .i64 (run dgI (L s) : Nat)) ∧ w' = w := by
  have hS : (s.size : Int) ≤ 1000000 := by omega
  go_enter Try.func36, Try.ntmps36
  go_wp2_with fail
  go_loop [5] (fun i => ∃ k : Nat, k ≤ s.size ∧ i = .int .i64 k ∧ Hid (k ≤ run dgI (L s))) (fun i => s.size - (intOf i).toNat)
  case atStart => exact ⟨0, Nat.zero_le _, rfl, Nat.zero_le _⟩
  case round =>
    obtain ⟨k, hk, rfl, hrun⟩ := hrel
    by_cases hlt : k < s.size
    · obtain ⟨c, hc⟩ : ∃ c, s[k]'hlt = c := ⟨_, rfl⟩
      have hat := Lib.hid (at_L s k hlt)
      rw [hc] at hat
      have hb : (k : Int) < 1000000 := by omega
      rcases (show (c.toNat : Int) < 48 ∨ (48 ≤ (c.toNat : Int) ∧ (c.toNat : Int) ≤ 57) ∨ 57 < (c.toNat : Int) from by omega) with k1 | ⟨k1, k2⟩ | k1
      · have hp : dgI (c.toNat : Int) = false := (dg_no (.inl k1)).out
        have g1 : decide (48 ≤ (c.toNat : Int)) = false := decide_eq_false (by omega)
        clear k1
        have hdone := Lib.hid (run_done hrun.out hat.out hp)
        clear hat hrun hp
        go_wp2_with fail
        go_ret
        exact ⟨by rw [← hdone.out]; rfl, rfl⟩
      · have hp : dgI (c.toNat : Int) = true := (dg_yes ⟨k1, k2⟩).out
        have g : decide ((c.toNat : Int) ≤ 57) = true := decide_eq_true k2
        have g1 : decide (48 ≤ (c.toNat : Int)) = true := decide_eq_true k1
        clear k1 k2
        have hmore := Lib.hid (run_more hrun.out hat.out hp)
        clear hat hrun hp
        go_wp2_with fail
        go_round
        case rel => exact ⟨k + 1, by omega, by go_num, hmore⟩
        case measure => simp [intOf]; omega
      · have hp : dgI (c.toNat : Int) = false := (dg_no (.inr k1)).out
        have g : decide ((c.toNat : Int) ≤ 57) = false := decide_eq_false (by omega)
        have g1 : decide (48 ≤ (c.toNat : Int)) = true := decide_eq_true (by omega)
        clear k1
        have hdone := Lib.hid (run_done hrun.out hat.out hp)
        clear hat hrun hp
        go_wp2_with fail
        go_ret
        exact ⟨by rw [← hdone.out]; rfl, rfl⟩
    · obtain rfl : k = s.size := by omega
      have hdone := Lib.hid (run_end hrun.out (by rw [L_len]; exact Nat.le_refl _))
      clear hrun
      go_wp2_with fail
      go_ret
      exact ⟨by rw [← hdone.out]; rfl, rfl⟩
end Go.Proofs.Ytjakmigkipcomaa
