/-
  glossatorref1.run at its four classes.
  glossatorref1.literal, Contains[string], Puncts and the closure of FirstToken by their contracts.
  glossatorref1.FirstToken by its contract.
  glossatorref1.FirstToken at a word: a keyword, or another.
  glossatorref1.FirstToken at a word: a keyword, or another.
  glossatorref1.FirstToken at what is neither space, comment, number nor word.
  glossatorref1.FirstToken at punctuation: the loop over the punctuation tokens.
  glossatorref1.FirstToken and Tokens by their contracts.
-/
import Derived.Test.YtbomilleckgalaaGreatLxAll
import Derived.Deep.RegionWith
namespace Go.Proofs.YtbomilleckgalaaGreat.Lx
open Go.RowKit

theorem sp_yes {c : Int} (h : c = 32 ∨ c = 9 ∨ c = 10 ∨ c = 13) : spI c = true := by rcases h with rfl | rfl | rfl | rfl <;> rfl
theorem sp_no {c : Int} (h1 : ¬ c = 32) (h2 : ¬ c = 9) (h3 : ¬ c = 10) (h4 : ¬ c = 13) : spI c = false := by
  unfold spI
  rw [decide_eq_false h1, decide_eq_false h2, decide_eq_false h3, decide_eq_false h4]; rfl
theorem beq_yes {c d : Int} (h : c = d) : (c == d) = true := by simpa using h
theorem beq_no {c d : Int} (h : ¬ c = d) : (c == d) = false := by simpa using h
theorem nn_yes {c : Int} (h : ¬ c = 10) : nnI c = true := by unfold nnI; rw [decide_eq_false h]; rfl
theorem nn_no {c : Int} (h : c = 10) : nnI c = false := by subst h; rfl

set_option maxHeartbeats 2000000 in
set_option maxRecDepth 100000 in
theorem rrun_0 (s : ByteArray) (w : World) (hs : s.size ≤ 1100000) : Calls Tryz.prog 41 #[.string s, .int .i64 0] w fun e w' => e = .returned (.int .i64 (run spI (L s) : Nat)) ∧ w' = w := by
  have hS : (s.size : Int) ≤ 1100000 := by omega
  go_enter Tryz.func41, Tryz.ntmps41
  go_wp2_with fail
  go_loop [5] (fun i => ∃ k : Nat, k ≤ s.size ∧ i = .int .i64 k ∧ Hid (k ≤ run spI (L s))) (fun i => s.size - (intOf i).toNat)
  case atStart => exact ⟨0, Nat.zero_le _, rfl, Nat.zero_le _⟩
  case round =>
    obtain ⟨k, hk, rfl, hrun⟩ := hrel
    by_cases hlt : k < s.size
    · obtain ⟨c, hc⟩ : ∃ c, s[k]'hlt = c := ⟨_, rfl⟩
      have hat := Lib.hid (at_L s k hlt)
      rw [hc] at hat
      have hb : (k : Int) < 1100000 := by omega
      by_cases h0 : (c.toNat : Int) = 32
      · have hp : spI (c.toNat : Int) = true := sp_yes (by omega)
        have g := beq_yes h0
        clear h0
        have hmore := Lib.hid (run_more hrun.out hat.out hp)
        clear hat hrun hp
        go_wp2_with fail
        go_round
        case rel => exact ⟨k + 1, by omega, by go_num, hmore⟩
        case measure => simp [intOf]; omega
      · have g0 := beq_no h0
        by_cases h1 : (c.toNat : Int) = 9
        · have hp : spI (c.toNat : Int) = true := sp_yes (by omega)
          have g := beq_yes h1
          clear h1
          have hmore := Lib.hid (run_more hrun.out hat.out hp)
          clear hat hrun hp
          go_wp2_with fail
          go_round
          case rel => exact ⟨k + 1, by omega, by go_num, hmore⟩
          case measure => simp [intOf]; omega
        · have g1 := beq_no h1
          by_cases h2 : (c.toNat : Int) = 10
          · have hp : spI (c.toNat : Int) = true := sp_yes (by omega)
            have g := beq_yes h2
            clear h2
            have hmore := Lib.hid (run_more hrun.out hat.out hp)
            clear hat hrun hp
            go_wp2_with fail
            go_round
            case rel => exact ⟨k + 1, by omega, by go_num, hmore⟩
            case measure => simp [intOf]; omega
          · have g2 := beq_no h2
            by_cases h3 : (c.toNat : Int) = 13
            · have hp : spI (c.toNat : Int) = true := sp_yes (by omega)
              have g := beq_yes h3
              clear h3
              have hmore := Lib.hid (run_more hrun.out hat.out hp)
              clear hat hrun hp
              go_wp2_with fail
              go_round
              case rel => exact ⟨k + 1, by omega, by go_num, hmore⟩
              case measure => simp [intOf]; omega
            · have g3 := beq_no h3
              have hp : spI (c.toNat : Int) = false := sp_no h0 h1 h2 h3
              clear h0 h1 h2 h3
              have hdone := Lib.hid (run_done hrun.out hat.out hp)
              clear hat hrun hp
              go_wp2_with fail
              go_ret
              exact ⟨by rw [← hdone.out]; rfl, rfl⟩
    · obtain rfl : k = s.size := by omega
      have hdone := Lib.hid (run_end hrun.out (by rw [L_len]; exact Nat.le_refl _))
      clear hrun
      go_wp2_with fail
      go_ret
      exact ⟨by rw [← hdone.out]; rfl, rfl⟩

set_option maxHeartbeats 2000000 in
set_option maxRecDepth 100000 in
theorem rrun_1 (s : ByteArray) (w : World) (hs : s.size ≤ 1100000) : Calls Tryz.prog 41 #[.string s, .int .i64 1] w fun e w' => e = .returned (.int .i64 (run nnI (L s) : Nat)) ∧ w' = w := by
  have hS : (s.size : Int) ≤ 1100000 := by omega
  go_enter Tryz.func41, Tryz.ntmps41
  go_wp2_with fail
  go_loop [5] (fun i => ∃ k : Nat, k ≤ s.size ∧ i = .int .i64 k ∧ Hid (k ≤ run nnI (L s))) (fun i => s.size - (intOf i).toNat)
  case atStart => exact ⟨0, Nat.zero_le _, rfl, Nat.zero_le _⟩
  case round =>
    obtain ⟨k, hk, rfl, hrun⟩ := hrel
    by_cases hlt : k < s.size
    · obtain ⟨c, hc⟩ : ∃ c, s[k]'hlt = c := ⟨_, rfl⟩
      have hat := Lib.hid (at_L s k hlt)
      rw [hc] at hat
      have hb : (k : Int) < 1100000 := by omega
      by_cases h0 : (c.toNat : Int) = 10
      · have hp : nnI (c.toNat : Int) = false := nn_no h0
        have g : ((c.toNat : Int) != 10) = false := by simp [h0]
        clear h0
        have hdone := Lib.hid (run_done hrun.out hat.out hp)
        clear hat hrun hp
        go_wp2_with fail
        go_ret
        exact ⟨by rw [← hdone.out]; rfl, rfl⟩
      · have hp : nnI (c.toNat : Int) = true := nn_yes h0
        have g : ((c.toNat : Int) != 10) = true := by simpa using h0
        clear h0
        have hmore := Lib.hid (run_more hrun.out hat.out hp)
        clear hat hrun hp
        go_wp2_with fail
        go_round
        case rel => exact ⟨k + 1, by omega, by go_num, hmore⟩
        case measure => simp [intOf]; omega
    · obtain rfl : k = s.size := by omega
      have hdone := Lib.hid (run_end hrun.out (by rw [L_len]; exact Nat.le_refl _))
      clear hrun
      go_wp2_with fail
      go_ret
      exact ⟨by rw [← hdone.out]; rfl, rfl⟩

set_option maxHeartbeats 2000000 in
set_option maxRecDepth 100000 in
theorem rrun_2 (s : ByteArray) (w : World) (hs : s.size ≤ 1100000) : Calls Tryz.prog 41 #[.string s, .int .i64 2] w fun e w' => e = .returned (.int .i64 (run wdI (L s) : Nat)) ∧ w' = w := by
  have hS : (s.size : Int) ≤ 1100000 := by omega
  go_enter Tryz.func41, Tryz.ntmps41
  go_wp2_with fail
  go_loop [5] (fun i => ∃ k : Nat, k ≤ s.size ∧ i = .int .i64 k ∧ Hid (k ≤ run wdI (L s))) (fun i => s.size - (intOf i).toNat)
  case atStart => exact ⟨0, Nat.zero_le _, rfl, Nat.zero_le _⟩
  case round =>
    obtain ⟨k, hk, rfl, hrun⟩ := hrel
    by_cases hlt : k < s.size
    · obtain ⟨c, hc⟩ : ∃ c, s[k]'hlt = c := ⟨_, rfl⟩
      have hat := Lib.hid (at_L s k hlt)
      rw [hc] at hat
      have hb : (k : Int) < 1100000 := by omega
      cases hp : wdI (c.toNat : Int) with
      | true =>
        have hmore := Lib.hid (run_more hrun.out hat.out hp)
        have K := Lib.hid (rword_any (c.toNat : Int) w)
        rw [hp] at K
        clear hat hrun hp
        go_wp2_with fail
        refine K.out.mono ?_
        rintro e w1 ⟨rfl, rfl⟩
        go_wp2_with fail
        go_round
        case rel => exact ⟨k + 1, by omega, by go_num, hmore⟩
        case measure => simp [intOf]; omega
      | false =>
        have hdone := Lib.hid (run_done hrun.out hat.out hp)
        have K := Lib.hid (rword_any (c.toNat : Int) w)
        rw [hp] at K
        clear hat hrun hp
        go_wp2_with fail
        refine K.out.mono ?_
        rintro e w1 ⟨rfl, rfl⟩
        go_wp2_with fail
        go_ret
        exact ⟨by rw [← hdone.out]; rfl, rfl⟩
    · obtain rfl : k = s.size := by omega
      have hdone := Lib.hid (run_end hrun.out (by rw [L_len]; exact Nat.le_refl _))
      clear hrun
      go_wp2_with fail
      go_ret
      exact ⟨by rw [← hdone.out]; rfl, rfl⟩

set_option maxHeartbeats 2000000 in
set_option maxRecDepth 100000 in
theorem rrun_3 (s : ByteArray) (w : World) (hs : s.size ≤ 1100000) : Calls Tryz.prog 41 #[.string s, .int .i64 3] w fun e w' => e = .returned (.int .i64 (run dgI (L s) : Nat)) ∧ w' = w := by
  have hS : (s.size : Int) ≤ 1100000 := by omega
  go_enter Tryz.func41, Tryz.ntmps41
  go_wp2_with fail
  go_loop [5] (fun i => ∃ k : Nat, k ≤ s.size ∧ i = .int .i64 k ∧ Hid (k ≤ run dgI (L s))) (fun i => s.size - (intOf i).toNat)
  case atStart => exact ⟨0, Nat.zero_le _, rfl, Nat.zero_le _⟩
  case round =>
    obtain ⟨k, hk, rfl, hrun⟩ := hrel
    by_cases hlt : k < s.size
    · obtain ⟨c, hc⟩ : ∃ c, s[k]'hlt = c := ⟨_, rfl⟩
      have hat := Lib.hid (at_L s k hlt)
      rw [hc] at hat
      have hb : (k : Int) < 1100000 := by omega
      rcases (show (c.toNat : Int) < 48 ∨ (48 ≤ (c.toNat : Int) ∧ (c.toNat : Int) ≤ 57) ∨ 57 < (c.toNat : Int) from by omega) with k1 | ⟨k1, k2⟩ | k1
      · have hp : dgI (c.toNat : Int) = false := (dg_no (.inl k1)).out
        have g1 : decide (48 ≤ (c.toNat : Int)) = false := decide_eq_false (by omega)
        clear k1
        have hdone := Lib.hid (run_done hrun.out hat.out hp)
        clear hat hrun hp
        go_wp2_with fail
        go_ret
        exact ⟨by rw [← hdone.out]; rfl, rfl⟩
      · have hp : dgI (c.toNat : Int) = true := (dg_yes ⟨k1, k2⟩).out
        have g : decide ((c.toNat : Int) ≤ 57) = true := decide_eq_true k2
        have g1 : decide (48 ≤ (c.toNat : Int)) = true := decide_eq_true k1
        clear k1 k2
        have hmore := Lib.hid (run_more hrun.out hat.out hp)
        clear hat hrun hp
        go_wp2_with fail
        go_round
        case rel => exact ⟨k + 1, by omega, by go_num, hmore⟩
        case measure => simp [intOf]; omega
      · have hp : dgI (c.toNat : Int) = false := (dg_no (.inr k1)).out
        have g : decide ((c.toNat : Int) ≤ 57) = false := decide_eq_false (by omega)
        have g1 : decide (48 ≤ (c.toNat : Int)) = true := decide_eq_true (by omega)
        clear k1
        have hdone := Lib.hid (run_done hrun.out hat.out hp)
        clear hat hrun hp
        go_wp2_with fail
        go_ret
        exact ⟨by rw [← hdone.out]; rfl, rfl⟩
    · obtain rfl : k = s.size := by omega
      have hdone := Lib.hid (run_end hrun.out (by rw [L_len]; exact Nat.le_refl _))
      clear hrun
      go_wp2_with fail
      go_ret
      exact ⟨by rw [← hdone.out]; rfl, rfl⟩
end Go.Proofs.YtbomilleckgalaaGreat.Lx

namespace Go.Proofs.YtbomilleckgalaaGreat.Lx
open Go.RowKit

theorem beq_yes' {c d : Int} (h : c = d) : (c == d) = true := by simpa using h
theorem beq_no' {c d : Int} (h : ¬ c = d) : (c == d) = false := by simpa using h

theorem lit_ten {l : List UInt8} {k R : Nat} {q : Bool} {c : UInt8} (h : lit (l.drop k) k q = R) (hc : l[k]? = some c) (h10 : (c.toNat : Int) = 10) : R = 0 := by
  obtain rfl := byte_eq (d := 10) h10
  rw [drop_cons hc, lit, if_pos rfl] at h
  exact h.symm

theorem lit_next {l : List UInt8} {k R : Nat} {q q2 : Bool} {c : UInt8} (h : lit (l.drop k) k q = R) (hc : l[k]? = some c) (h10 : ¬ (c.toNat : Int) = 10) (h34 : q = true ∨ ¬ (c.toNat : Int) = 34) (hq : (!q && decide ((c.toNat : Int) = 92)) = q2) : lit (l.drop (k + 1)) (k + 1) q2 = R := by
  have e : (c == 92) = decide ((c.toNat : Int) = 92) := by
    by_cases h : c = 92
    · subst h; rfl
    · have h2 : decide ((c.toNat : Int) = 92) = false := decide_eq_false (fun e => h (byte_eq (d := 92) e))
      rw [h2]; simpa using h
  rw [drop_cons hc, lit, if_neg (ne_of_int (d := 10) h10), if_neg (by
    intro h2
    rcases h34 with h3 | h3
    · rw [h3] at h2; cases h2.1
    · exact h3 (by rw [h2.2]; rfl)), e, hq] at h
  exact h

theorem lit_endq {l : List UInt8} {i R : Nat} {q : Bool} (h : lit (l.drop i) i q = R) (hi : l.length ≤ i) : R = 0 := by
  rw [List.drop_eq_nil_of_le hi, lit] at h
  exact h.symm

set_option maxHeartbeats 2000000 in
set_option maxRecDepth 100000 in
theorem literal_any (s : ByteArray) (w : World) (hs : s.size ≤ 1100000) : Calls Tryz.prog 44 #[.string s] w fun e w' => e = .returned (.int .i64 (lit ((L s).drop 1) 1 false : Nat)) ∧ w' = w := by
  obtain ⟨R, hR⟩ : ∃ R, R = lit ((L s).drop 1) 1 false := ⟨_, rfl⟩
  have HR := Lib.hid hR
  rw [← hR]
  clear hR
  have hS : (s.size : Int) ≤ 1100000 := by omega
  go_enter Tryz.func44, Tryz.ntmps44
  go_wp2_with fail
  go_loop [3, 4] (fun e i => ∃ (k : Nat) (q : Bool), 1 ≤ k ∧ k ≤ s.size + 1 ∧ e = .bool q ∧ i = .int .i64 k ∧ Hid (lit ((L s).drop k) k q = R)) (fun _ i => s.size + 1 - (intOf i).toNat)
  case atStart => exact ⟨1, false, Nat.le_refl _, by omega, rfl, rfl, by show _ = _; rw [HR.out]⟩
  case round =>
    obtain ⟨k, q, hk1, hk, rfl, rfl, hlit⟩ := hrel
    by_cases hlt : k < s.size
    · obtain ⟨c, hc⟩ : ∃ c, s[k]'hlt = c := ⟨_, rfl⟩
      have hat := Lib.hid (at_L s k hlt)
      rw [hc] at hat
      have hb : (k : Int) < 1100000 := by omega
      by_cases h10 : (c.toNat : Int) = 10
      · have h0 := Lib.hid (lit_ten hlit.out hat.out h10)
        have g10 : ((c.toNat : Int) != 10) = false := by simp [h10]
        clear hlit hat h10
        go_wp2_with fail
        go_ret
        exact ⟨by rw [h0.out]; rfl, rfl⟩
      · have g10 : ((c.toNat : Int) != 10) = true := by simpa using h10
        cases q with
        | true =>
          have hn := Lib.hid (lit_next (q2 := false) hlit.out hat.out h10 (.inl rfl) rfl)
          clear hlit hat
          by_cases h34 : (c.toNat : Int) = 34
          · have g34 := beq_yes' h34
            have g92 : ((c.toNat : Int) == 92) = false := beq_no' (by omega)
            clear h34 h10
            go_wp2_with fail
            go_round
            case rel => exact ⟨k + 1, false, by omega, by omega, rfl, by go_num, hn⟩
            case measure => simp [intOf]; omega
          · have g34 := beq_no' h34
            by_cases h92 : (c.toNat : Int) = 92
            · have g92 := beq_yes' h92
              clear h34 h10 h92
              go_wp2_with fail
              go_round
              case rel => exact ⟨k + 1, false, by omega, by omega, rfl, by go_num, hn⟩
              case measure => simp [intOf]; omega
            · have g92 := beq_no' h92
              clear h34 h10 h92
              go_wp2_with fail
              go_round
              case rel => exact ⟨k + 1, false, by omega, by omega, rfl, by go_num, hn⟩
              case measure => simp [intOf]; omega
        | false =>
          by_cases h34 : (c.toNat : Int) = 34
          · have hq := Lib.hid (lit_quote hlit.out hat.out (byte_eq (d := 34) h34))
            have g34 := beq_yes' h34
            clear h34 h10 hlit hat
            go_wp2_with fail
            go_ret
            exact ⟨by rw [hq.out]; rfl, rfl⟩
          · have g34 := beq_no' h34
            by_cases h92 : (c.toNat : Int) = 92
            · have hn := Lib.hid (lit_next (q2 := true) hlit.out hat.out h10 (.inr h34) (by rw [decide_eq_true h92]; rfl))
              have g92 := beq_yes' h92
              clear h34 h10 h92 hlit hat
              go_wp2_with fail
              go_round
              case rel => exact ⟨k + 1, true, by omega, by omega, rfl, by go_num, hn⟩
              case measure => simp [intOf]; omega
            · have hn := Lib.hid (lit_next (q2 := false) hlit.out hat.out h10 (.inr h34) (by rw [decide_eq_false h92]; rfl))
              have g92 := beq_no' h92
              clear h34 h10 h92 hlit hat
              go_wp2_with fail
              go_round
              case rel => exact ⟨k + 1, false, by omega, by omega, rfl, by go_num, hn⟩
              case measure => simp [intOf]; omega
    · have h0 := Lib.hid (lit_endq hlit.out (by rw [L_len]; omega))
      have h1 : ¬ (k : Int) < s.size := by omega
      clear hlit
      go_wp2_with fail
      go_ret
      exact ⟨by rw [h0.out]; rfl, rfl⟩

theorem eqs_yes {x y : ByteArray} (h : x = y) : (x.toList == y.toList) = true := by subst h; simp
theorem eqs_no {x y : ByteArray} (h : ¬ x = y) : (x.toList == y.toList) = false := by
  have h2 : ¬ x.toList = y.toList := by
    rw [ByteArray.toList_eq, ByteArray.toList_eq]
    exact fun e => h (L_inj e)
  simpa using h2

theorem take_snoc {l : List (List UInt8)} {k : Nat} {x : List UInt8} (h : l[k]? = some x) : l.take (k + 1) = l.take k ++ [x] := by
  rw [List.take_add_one, h]; rfl

set_option maxHeartbeats 1000000 in
theorem rcontains_any (l : List (List UInt8)) (a : Option Addr) (cap : Nat) (x : ByteArray) (w : World) (hl : l.length ≤ 1100000) (h : Strs w w.heap.size a l) :
    Calls Tryz.prog 42 #[.slice a l.length cap, .string x] w fun e w' => e = .returned (.bool (l.contains (L x))) ∧ w' = w := by
  have H := Lib.hid h
  obtain ⟨R, hR⟩ : ∃ R, R = l.contains (L x) := ⟨_, rfl⟩
  rw [← hR]
  have HN : Hid (R = (l.take l.length).contains (L x)) := by show _ = _; rw [hR, List.take_length]
  have HR := Lib.hid hR
  clear h hR
  go_enter Tryz.func42, Tryz.ntmps42
  go_wp2_with fail
  go_loop [9] (fun i => ∃ k : Nat, k ≤ l.length ∧ i = .int .i64 k ∧ Hid ((l.take k).contains (L x) = false)) (fun i => l.length - (intOf i).toNat)
  case atStart => exact ⟨0, Nat.zero_le _, rfl, rfl⟩
  case round =>
    obtain ⟨k, hk, rfl, hno⟩ := hrel
    by_cases hlt : k < l.length
    · have hx : l[k]? = some l[k] := List.getElem?_eq_getElem hlt
      obtain ⟨y, hY⟩ : ∃ y, y = l[k] := ⟨_, rfl⟩
      rw [← hY] at hx
      clear hY
      obtain ⟨b, o, rfl, _, p0⟩ := H.out k y hx
      have hk0 : (0 : Int) ≤ (k : Int) := by omega
      have hk1 : (k : Int) < (l.length : Int) := by omega
      have HX := Lib.hid hx
      clear hx
      by_cases he : x = bs y
      · have hyes : Hid (R = true) := by
          show _ = _
          rw [HR.out, he, L_bs]
          simpa using List.mem_of_getElem? HX.out
        have heq := eqs_yes he
        generalize bs y = z at *
        clear he hno
        go_wp2_with fail
        go_ret
        exact ⟨by rw [hyes.out]; rfl, rfl⟩
      · have hno2 : Hid ((l.take (k + 1)).contains (L x) = false) := by
          show _ = _
          rw [take_snoc HX.out, List.contains_eq_mem]
          have h1 := hno.out
          rw [List.contains_eq_mem] at h1
          simp only [decide_eq_false_iff_not, List.mem_append, List.mem_singleton] at h1 ⊢
          rintro (h2 | h2)
          · exact h1 h2
          · exact he (by rw [← h2, bs_L])
        have heq := eqs_no he
        generalize bs y = z at *
        clear he hno
        go_wp2_with fail
        go_round
        case rel => exact ⟨k + 1, by omega, by go_num, hno2⟩
        case measure => simp [intOf]; omega
    · obtain rfl : k = l.length := by omega
      have hno2 := Lib.hid (HN.out.trans hno.out)
      clear hno
      go_wp2_with fail
      go_ret
      exact ⟨by rw [hno2.out]; rfl, rfl⟩

/-- The punctuation tokens, the longer ones first. -/
def puncts : List (List UInt8) := pairs ++ singles.map fun c => [c]
def puBlock : Obj := .cells (puncts.map fun x => Value.string (bs x)).toArray 9

theorem puncts_any (w : World) : Calls Tryz.prog 45 #[] w fun e w' => e = .returned (.slice (some ⟨w.heap.size, 0, none⟩) 26 26) ∧ w' = w.alloc puBlock := by
  go_enter Tryz.func45, Tryz.ntmps45
  go_wp2_with fail
  go_ret
  exact ⟨rfl, rfl⟩

theorem pu_strs (w : World) : Strs (w.alloc puBlock) (w.alloc puBlock).heap.size (some ⟨w.heap.size, 0, none⟩) puncts := Strs.new w puncts
theorem pu_below (w : World) : Below w.heap.size w (w.alloc puBlock) := (Below.refl _ _).alloc (Nat.le_refl _) _

set_option maxHeartbeats 1000000 in
theorem closure_any (k : Int) (n : Nat) (b : Nat) (s : ByteArray) (w : World) (hs : s.size ≤ 1100000) (hn : n ≤ s.size) (hb : w.cell? ⟨b, 0, none⟩ = some (.string s)) :
    Calls Tryz.prog 40 #[.int .i64 k, .int .i64 n, .pointer (some ⟨b, 0, none⟩)] w fun e w' => e = .returned (.agg #[.int .i64 k, .string (s.extract 0 n)]) ∧ Below w.heap.size w w' := by
  have hlt := World.block_lt_of_cell? w _ hb
  have b1 : (n : Int) ≤ s.size := by omega
  have b2 : (s.size : Int) ≤ 1100000 := by omega
  have hb2 : (w.alloc (.cells #[.int .i64 0, .string ⟨#[]⟩] 32)).cell? ⟨b, 0, none⟩ = some (.string s) := (((Below.refl _ w).alloc (Nat.le_refl _) _).cell (p := ⟨b, 0, none⟩) hlt).trans hb
  clear hb hlt
  go_enter Tryz.func40, Tryz.ntmps40
  go_wp2_with fail
  refine bodyPost_ret (by simp [results, Tryz.results40, go_sem]; try rfl) rfl ?_
  exact ⟨rfl, (Below.refl _ _).alloc (Nat.le_refl _) _⟩
end Go.Proofs.YtbomilleckgalaaGreat.Lx

namespace Go.Proofs.YtbomilleckgalaaGreat.Lx
open Go.RowKit

/-- The result's block, still empty. -/
def Res (w : World) (b : Nat) : Prop := w.cell? ⟨b, 0, none⟩ = some (.int .i64 0) ∧ w.cell? ⟨b, 1, none⟩ = some (.string ⟨#[]⟩) ∧ w.frozen? ⟨b, 0, none⟩ = false ∧ w.frozen? ⟨b, 1, none⟩ = false ∧ b < w.heap.size

theorem Res.to {w w' : World} {b : Nat} (h : Res w b) (hb : Below w.heap.size w w') : Res w' b :=
  ⟨(hb.cell (p := ⟨b, 0, none⟩) h.2.2.2.2).trans h.1, (hb.cell (p := ⟨b, 1, none⟩) h.2.2.2.2).trans h.2.1, (hb.frozen (p := ⟨b, 0, none⟩) h.2.2.2.2).trans h.2.2.1, (hb.frozen (p := ⟨b, 1, none⟩) h.2.2.2.2).trans h.2.2.2.1, Nat.lt_of_lt_of_le h.2.2.2.2 hb.size⟩

theorem Res.put0 {w : World} {b : Nat} (h : Res w b) (v u : Value) : ((w.setCell ⟨b, 0, none⟩ v).setCell ⟨b, 1, none⟩ u).cell? ⟨b, 0, none⟩ = some v := by
  rw [World.cell?_setCell_other]
  · exact World.cell?_setCell_same' _ _ _ (by rw [h.1]; rfl)
  · simp

theorem Res.put1 {w : World} {b : Nat} (h : Res w b) (v u : Value) : ((w.setCell ⟨b, 0, none⟩ v).setCell ⟨b, 1, none⟩ u).cell? ⟨b, 1, none⟩ = some u :=
  World.cell?_setCell_same' _ _ _ (by
    rw [World.cell?_setCell_other]
    · rw [h.2.1]; rfl
    · simp)

/-- The world in which FirstToken begins its work: the box of s in block b, the result's block behind it. -/
def Begun (s : ByteArray) (w : World) (w2 : World) : Prop := w2.cell? ⟨w.heap.size, 0, none⟩ = some (.string s) ∧ Res w2 (w.heap.size + 1) ∧ Below w.heap.size w w2

theorem begun (s : ByteArray) (w : World) : Begun s w ((w.alloc (.cells #[.string s] 9)).alloc (.cells #[.int .i64 0, .string ⟨#[]⟩] 32)) := by
  refine ⟨by go_simp, ⟨by go_simp, by go_simp, by go_simp, by go_simp, by simp⟩, ((Below.refl _ _).alloc (Nat.le_refl _) _).alloc (by simp) _⟩

theorem Begun.to {s : ByteArray} {w w2 w3 : World} (h : Begun s w w2) (hb : Below w2.heap.size w2 w3) : Begun s w w3 :=
  ⟨(hb.cell (p := ⟨w.heap.size, 0, none⟩) (Nat.lt_of_succ_lt h.2.1.2.2.2.2)).trans h.1, h.2.1.to hb, h.2.2.trans (hb.mono h.2.2.size)⟩

theorem Begun.stored {s : ByteArray} {w w2 : World} (h : Begun s w w2) (v u : Value) : Below w.heap.size w ((w2.setCell ⟨w.heap.size + 1, 0, none⟩ v).setCell ⟨w.heap.size + 1, 1, none⟩ u) :=
  (h.2.2.setCell (p := ⟨w.heap.size + 1, 0, none⟩) (Nat.le_succ _) _).setCell (p := ⟨w.heap.size + 1, 1, none⟩) (Nat.le_succ _) _

/-- What FirstToken hands back. -/
def RTok (s : ByteArray) (k : Int) (n : Nat) (w : World) (e : Ending) (w' : World) : Prop := e = .returned (.agg #[.int .i64 k, .string (s.extract 0 n)]) ∧ Below w.heap.size w w'

theorem class_in {p : Int → Bool} {s : ByteArray} : run p (L s) ≤ s.size := by have := run_le p (L s); rwa [L_len] at this

theorem rkeys_some (w : World) : Calls Tryz.prog 43 #[] w fun e w' => ∃ b, e = .returned (.slice (some ⟨b, 0, none⟩) 22 22) ∧ Hid (Strs w' w'.heap.size (some ⟨b, 0, none⟩) kws) ∧ Below w.heap.size w w' :=
  (rkeys_any w).mono fun e w' h => by
    obtain ⟨rfl, rfl⟩ := h
    exact ⟨_, rfl, kw_strs w, kw_below w⟩

section
variable {s : ByteArray}

set_option maxHeartbeats 2000000 in
set_option maxRecDepth 100000 in
theorem r_space (w : World) (hs : s.size ≤ 1100000) (hne : 0 < s.size) (r0 : 0 < run spI (L s)) : Calls Tryz.prog 22 #[.string s] w (RTok s 101 (run spI (L s)) w) := by
  have bs1 : (s.size : Int) ≤ 1100000 := by omega
  have bs0 : (0 : Int) < s.size := by omega
  have K0 := Lib.hid (fun W => rrun_0 s W hs)
  have l0 : (run spI (L s) : Int) ≤ s.size := by have := class_in (p := spI) (s := s); omega
  have p0 : (0 : Int) < run spI (L s) := by omega
  generalize run spI (L s) = n at *
  have hn : n ≤ s.size := by omega
  go_enter Tryz.func22, Tryz.ntmps22
  go_wp2_with fail
  have HB := Lib.hid (begun s w)
  generalize ((w.alloc (.cells #[.string s] 9)).alloc (.cells #[.int .i64 0, .string ⟨#[]⟩] 32)) = w2 at *
  obtain ⟨c0, _, _⟩ := HB.out
  refine (K0.out _).mono ?_
  rintro e w1 ⟨rfl, rfl⟩
  go_wp2_with fail
  refine ((closure_any 101 n w.heap.size s w1 hs (by first | exact hn | omega | exact class_in) HB.out.1)).mono ?_
  rintro e w9 ⟨rfl, hb9⟩
  have HB9 := Lib.hid (HB.out.to hb9)
  obtain ⟨z0, z1, z2, z3, z4⟩ := HB9.out.2.1
  have s0 := HB9.out.2.1.put0
  have s1 := HB9.out.2.1.put1
  go_wp2_with fail
  refine bodyPost_ret (by simp [results, Tryz.results22, go_sem, s0, s1]; try rfl) rfl ?_
  exact ⟨rfl, HB9.out.stored _ _⟩

set_option maxHeartbeats 2000000 in
set_option maxRecDepth 100000 in
theorem r_comment (w : World) (hs : s.size ≤ 1100000) (hne : 0 < s.size) (r0 : Hid (run spI (L s) = 0)) (h1 : 1 < s.size) (h2 : ((s.extract 0 2).toList == [47, 47]) = true) : Calls Tryz.prog 22 #[.string s] w (RTok s 102 (run nnI (L s)) w) := by
  have bs1 : (s.size : Int) ≤ 1100000 := by omega
  have bs0 : (0 : Int) < s.size := by omega
  have K0 : Hid (∀ W, Calls Tryz.prog 41 #[.string s, .int .i64 0] W fun e w' => e = .returned (.int .i64 0) ∧ w' = W) := fun W => by have := rrun_0 s W hs; rw [r0.out] at this; exact this
  have K1 := Lib.hid (fun W => rrun_1 s W hs)
  have l1 : (run nnI (L s) : Int) ≤ s.size := by have := class_in (p := nnI) (s := s); omega
  generalize run nnI (L s) = n at *
  have hn : n ≤ s.size := by omega
  have h3 : (1 : Int) < s.size := by omega
  go_enter Tryz.func22, Tryz.ntmps22
  go_wp2_with fail
  have HB := Lib.hid (begun s w)
  generalize ((w.alloc (.cells #[.string s] 9)).alloc (.cells #[.int .i64 0, .string ⟨#[]⟩] 32)) = w2 at *
  obtain ⟨c0, _, _⟩ := HB.out
  refine (K0.out _).mono ?_
  rintro e w1 ⟨rfl, rfl⟩
  go_wp2_with fail
  refine (K1.out _).mono ?_
  rintro e w1 ⟨rfl, rfl⟩
  go_wp2_with fail
  refine ((closure_any 102 n w.heap.size s w1 hs (by first | exact hn | omega | exact class_in) HB.out.1)).mono ?_
  rintro e w9 ⟨rfl, hb9⟩
  have HB9 := Lib.hid (HB.out.to hb9)
  obtain ⟨z0, z1, z2, z3, z4⟩ := HB9.out.2.1
  have s0 := HB9.out.2.1.put0
  have s1 := HB9.out.2.1.put1
  go_wp2_with fail
  refine bodyPost_ret (by simp [results, Tryz.results22, go_sem, s0, s1]; try rfl) rfl ?_
  exact ⟨rfl, HB9.out.stored _ _⟩

set_option maxHeartbeats 2000000 in
set_option maxRecDepth 100000 in
theorem r_digit (w : World) (hs : s.size ≤ 1100000) (hne : 0 < s.size) (r0 : Hid (run spI (L s) = 0)) (h2 : (1 < s.size ∧ ((s.extract 0 2).toList == [47, 47]) = false) ∨ ¬ 1 < s.size) (r3 : 0 < run dgI (L s)) : Calls Tryz.prog 22 #[.string s] w (RTok s 105 (run dgI (L s)) w) := by
  have bs1 : (s.size : Int) ≤ 1100000 := by omega
  have bs0 : (0 : Int) < s.size := by omega
  have K0 : Hid (∀ W, Calls Tryz.prog 41 #[.string s, .int .i64 0] W fun e w' => e = .returned (.int .i64 0) ∧ w' = W) := fun W => by have := rrun_0 s W hs; rw [r0.out] at this; exact this
  have K3 := Lib.hid (fun W => rrun_3 s W hs)
  have l3 : (run dgI (L s) : Int) ≤ s.size := by have := class_in (p := dgI) (s := s); omega
  have p0 : (0 : Int) < run dgI (L s) := by omega
  generalize run dgI (L s) = n at *
  have hn : n ≤ s.size := by omega
  rcases h2 with ⟨h3, h2⟩ | h3
  · have h4 : (1 : Int) < s.size := by omega
    clear h3
    go_enter Tryz.func22, Tryz.ntmps22
    go_wp2_with fail
    have HB := Lib.hid (begun s w)
    generalize ((w.alloc (.cells #[.string s] 9)).alloc (.cells #[.int .i64 0, .string ⟨#[]⟩] 32)) = w2 at *
    obtain ⟨c0, _, _⟩ := HB.out
    refine (K0.out _).mono ?_
    rintro e w1 ⟨rfl, rfl⟩
    go_wp2_with fail
    refine (K3.out _).mono ?_
    rintro e w1 ⟨rfl, rfl⟩
    go_wp2_with fail
    refine ((closure_any 105 n w.heap.size s w1 hs (by first | exact hn | omega | exact class_in) HB.out.1)).mono ?_
    rintro e w9 ⟨rfl, hb9⟩
    have HB9 := Lib.hid (HB.out.to hb9)
    obtain ⟨z0, z1, z2, z3, z4⟩ := HB9.out.2.1
    have s0 := HB9.out.2.1.put0
    have s1 := HB9.out.2.1.put1
    go_wp2_with fail
    refine bodyPost_ret (by simp [results, Tryz.results22, go_sem, s0, s1]; try rfl) rfl ?_
    exact ⟨rfl, HB9.out.stored _ _⟩
  · have h4 : ¬ (1 : Int) < s.size := by omega
    clear h3
    go_enter Tryz.func22, Tryz.ntmps22
    go_wp2_with fail
    have HB := Lib.hid (begun s w)
    generalize ((w.alloc (.cells #[.string s] 9)).alloc (.cells #[.int .i64 0, .string ⟨#[]⟩] 32)) = w2 at *
    obtain ⟨c0, _, _⟩ := HB.out
    refine (K0.out _).mono ?_
    rintro e w1 ⟨rfl, rfl⟩
    go_wp2_with fail
    refine (K3.out _).mono ?_
    rintro e w1 ⟨rfl, rfl⟩
    go_wp2_with fail
    refine ((closure_any 105 n w.heap.size s w1 hs (by first | exact hn | omega | exact class_in) HB.out.1)).mono ?_
    rintro e w9 ⟨rfl, hb9⟩
    have HB9 := Lib.hid (HB.out.to hb9)
    obtain ⟨z0, z1, z2, z3, z4⟩ := HB9.out.2.1
    have s0 := HB9.out.2.1.put0
    have s1 := HB9.out.2.1.put1
    go_wp2_with fail
    refine bodyPost_ret (by simp [results, Tryz.results22, go_sem, s0, s1]; try rfl) rfl ?_
    exact ⟨rfl, HB9.out.stored _ _⟩
end
end Go.Proofs.YtbomilleckgalaaGreat.Lx

namespace Go.Proofs.YtbomilleckgalaaGreat.Lx
open Go.RowKit
section
variable {s : ByteArray}

set_option maxHeartbeats 2000000 in
set_option maxRecDepth 100000 in
theorem r_key (w : World) (hs : s.size ≤ 1100000) (hne : 0 < s.size) (r0 : Hid (run spI (L s) = 0)) (h2 : (1 < s.size ∧ ((s.extract 0 2).toList == [47, 47]) = false) ∨ ¬ 1 < s.size) (r3 : Hid (run dgI (L s) = 0)) (r2 : 0 < run wdI (L s)) (hcon : Hid (kws.contains ((L s).take (run wdI (L s))) = true)) : Calls Tryz.prog 22 #[.string s] w (RTok s 104 (run wdI (L s)) w) := by
  have bs1 : (s.size : Int) ≤ 1100000 := by omega
  have bs0 : (0 : Int) < s.size := by omega
  have K0 : Hid (∀ W, Calls Tryz.prog 41 #[.string s, .int .i64 0] W fun e w' => e = .returned (.int .i64 0) ∧ w' = W) := fun W => by have := rrun_0 s W hs; rw [r0.out] at this; exact this
  have K3 : Hid (∀ W, Calls Tryz.prog 41 #[.string s, .int .i64 3] W fun e w' => e = .returned (.int .i64 0) ∧ w' = W) := fun W => by have := rrun_3 s W hs; rw [r3.out] at this; exact this
  have K2 := Lib.hid (fun W => rrun_2 s W hs)
  have l2 : (run wdI (L s) : Int) ≤ s.size := by have := class_in (p := wdI) (s := s); omega
  have p0 : (0 : Int) < run wdI (L s) := by omega
  generalize run wdI (L s) = n at *
  have hn : n ≤ s.size := by omega
  have HX : Hid (L (s.extract 0 n) = (L s).take n) := by show _ = _; rw [take_is, L_bs]
  have K14 := Lib.hid (fun W => rkeys_some W)
  have K37 : Hid (∀ b W, Strs W W.heap.size (some ⟨b, 0, none⟩) kws → Calls Tryz.prog 42 #[.slice (some ⟨b, 0, none⟩) 22 22, .string (s.extract 0 n)] W fun e w' => e = .returned (.bool true) ∧ Below W.heap.size W w') := fun b W h => by
    have := rcontains_any kws (some ⟨b, 0, none⟩) 22 (s.extract 0 n) W (by decide) h
    rw [HX.out, hcon.out] at this
    exact this.mono fun e w' h => ⟨h.1, by rw [h.2]; exact Below.refl _ _⟩
  rcases h2 with ⟨h3, h2⟩ | h3
  · have h4 : (1 : Int) < s.size := by omega
    clear h3
    go_enter Tryz.func22, Tryz.ntmps22
    go_wp2_with fail
    have HB := Lib.hid (begun s w)
    generalize ((w.alloc (.cells #[.string s] 9)).alloc (.cells #[.int .i64 0, .string ⟨#[]⟩] 32)) = w2 at *
    obtain ⟨c0, _, _⟩ := HB.out
    refine (K0.out _).mono ?_
    rintro e w1 ⟨rfl, rfl⟩
    go_wp2_with fail
    refine (K3.out _).mono ?_
    rintro e w1 ⟨rfl, rfl⟩
    go_wp2_with fail
    refine (K2.out _).mono ?_
    rintro e w1 ⟨rfl, rfl⟩
    go_wp2_with fail
    have hlt := World.block_lt_of_cell? _ _ HB.out.1
    go_region_with (first
      | (go_at_call 43; refine (K14.out _).mono ?_; rintro e w4 ⟨b4, rfl, HS4, hb40⟩; have hb4 := below_drew' hb40; have d0 := (hb4.cell (p := ⟨w.heap.size, 0, none⟩) hlt).trans c0; have HB4 := Lib.hid (HB.out.to hb4); clear hb40)
      | (go_at_call 42; refine (K37.out _ _ HS4.out).mono ?_; rintro e w5 ⟨rfl, hb5⟩))
    all_goals
      have HB5 := Lib.hid (HB4.out.to hb5)
      have d5 := HB5.out.1
      go_wp2_with fail
      refine ((closure_any 104 n w.heap.size s w5 hs (by first | exact hn | omega | exact class_in) HB5.out.1)).mono ?_
      rintro e w9 ⟨rfl, hb9⟩
      have HB9 := Lib.hid (HB5.out.to hb9)
      obtain ⟨z0, z1, z2, z3, z4⟩ := HB9.out.2.1
      have s0 := HB9.out.2.1.put0
      have s1 := HB9.out.2.1.put1
      go_wp2_with fail
      refine bodyPost_ret (by simp [results, Tryz.results22, go_sem, s0, s1]; try rfl) rfl ?_
      exact ⟨rfl, HB9.out.stored _ _⟩
  · have h4 : ¬ (1 : Int) < s.size := by omega
    clear h3
    go_enter Tryz.func22, Tryz.ntmps22
    go_wp2_with fail
    have HB := Lib.hid (begun s w)
    generalize ((w.alloc (.cells #[.string s] 9)).alloc (.cells #[.int .i64 0, .string ⟨#[]⟩] 32)) = w2 at *
    obtain ⟨c0, _, _⟩ := HB.out
    refine (K0.out _).mono ?_
    rintro e w1 ⟨rfl, rfl⟩
    go_wp2_with fail
    refine (K3.out _).mono ?_
    rintro e w1 ⟨rfl, rfl⟩
    go_wp2_with fail
    refine (K2.out _).mono ?_
    rintro e w1 ⟨rfl, rfl⟩
    go_wp2_with fail
    have hlt := World.block_lt_of_cell? _ _ HB.out.1
    go_region_with (first
      | (go_at_call 43; refine (K14.out _).mono ?_; rintro e w4 ⟨b4, rfl, HS4, hb40⟩; have hb4 := below_drew' hb40; have d0 := (hb4.cell (p := ⟨w.heap.size, 0, none⟩) hlt).trans c0; have HB4 := Lib.hid (HB.out.to hb4); clear hb40)
      | (go_at_call 42; refine (K37.out _ _ HS4.out).mono ?_; rintro e w5 ⟨rfl, hb5⟩))
    all_goals
      have HB5 := Lib.hid (HB4.out.to hb5)
      have d5 := HB5.out.1
      go_wp2_with fail
      refine ((closure_any 104 n w.heap.size s w5 hs (by first | exact hn | omega | exact class_in) HB5.out.1)).mono ?_
      rintro e w9 ⟨rfl, hb9⟩
      have HB9 := Lib.hid (HB5.out.to hb9)
      obtain ⟨z0, z1, z2, z3, z4⟩ := HB9.out.2.1
      have s0 := HB9.out.2.1.put0
      have s1 := HB9.out.2.1.put1
      go_wp2_with fail
      refine bodyPost_ret (by simp [results, Tryz.results22, go_sem, s0, s1]; try rfl) rfl ?_
      exact ⟨rfl, HB9.out.stored _ _⟩
end
end Go.Proofs.YtbomilleckgalaaGreat.Lx

namespace Go.Proofs.YtbomilleckgalaaGreat.Lx
open Go.RowKit
section
variable {s : ByteArray}

set_option maxHeartbeats 2000000 in
set_option maxRecDepth 100000 in
theorem r_word (w : World) (hs : s.size ≤ 1100000) (hne : 0 < s.size) (r0 : Hid (run spI (L s) = 0)) (h2 : (1 < s.size ∧ ((s.extract 0 2).toList == [47, 47]) = false) ∨ ¬ 1 < s.size) (r3 : Hid (run dgI (L s) = 0)) (r2 : 0 < run wdI (L s)) (hcon : Hid (kws.contains ((L s).take (run wdI (L s))) = false)) : Calls Tryz.prog 22 #[.string s] w (RTok s 103 (run wdI (L s)) w) := by
  have bs1 : (s.size : Int) ≤ 1100000 := by omega
  have bs0 : (0 : Int) < s.size := by omega
  have K0 : Hid (∀ W, Calls Tryz.prog 41 #[.string s, .int .i64 0] W fun e w' => e = .returned (.int .i64 0) ∧ w' = W) := fun W => by have := rrun_0 s W hs; rw [r0.out] at this; exact this
  have K3 : Hid (∀ W, Calls Tryz.prog 41 #[.string s, .int .i64 3] W fun e w' => e = .returned (.int .i64 0) ∧ w' = W) := fun W => by have := rrun_3 s W hs; rw [r3.out] at this; exact this
  have K2 := Lib.hid (fun W => rrun_2 s W hs)
  have l2 : (run wdI (L s) : Int) ≤ s.size := by have := class_in (p := wdI) (s := s); omega
  have p0 : (0 : Int) < run wdI (L s) := by omega
  generalize run wdI (L s) = n at *
  have hn : n ≤ s.size := by omega
  have HX : Hid (L (s.extract 0 n) = (L s).take n) := by show _ = _; rw [take_is, L_bs]
  have K14 := Lib.hid (fun W => rkeys_some W)
  have K37 : Hid (∀ b W, Strs W W.heap.size (some ⟨b, 0, none⟩) kws → Calls Tryz.prog 42 #[.slice (some ⟨b, 0, none⟩) 22 22, .string (s.extract 0 n)] W fun e w' => e = .returned (.bool false) ∧ Below W.heap.size W w') := fun b W h => by
    have := rcontains_any kws (some ⟨b, 0, none⟩) 22 (s.extract 0 n) W (by decide) h
    rw [HX.out, hcon.out] at this
    exact this.mono fun e w' h => ⟨h.1, by rw [h.2]; exact Below.refl _ _⟩
  rcases h2 with ⟨h3, h2⟩ | h3
  · have h4 : (1 : Int) < s.size := by omega
    clear h3
    go_enter Tryz.func22, Tryz.ntmps22
    go_wp2_with fail
    have HB := Lib.hid (begun s w)
    generalize ((w.alloc (.cells #[.string s] 9)).alloc (.cells #[.int .i64 0, .string ⟨#[]⟩] 32)) = w2 at *
    obtain ⟨c0, _, _⟩ := HB.out
    refine (K0.out _).mono ?_
    rintro e w1 ⟨rfl, rfl⟩
    go_wp2_with fail
    refine (K3.out _).mono ?_
    rintro e w1 ⟨rfl, rfl⟩
    go_wp2_with fail
    refine (K2.out _).mono ?_
    rintro e w1 ⟨rfl, rfl⟩
    go_wp2_with fail
    have hlt := World.block_lt_of_cell? _ _ HB.out.1
    go_region_with (first
      | (go_at_call 43; refine (K14.out _).mono ?_; rintro e w4 ⟨b4, rfl, HS4, hb40⟩; have hb4 := below_drew' hb40; have d0 := (hb4.cell (p := ⟨w.heap.size, 0, none⟩) hlt).trans c0; have HB4 := Lib.hid (HB.out.to hb4); clear hb40)
      | (go_at_call 42; refine (K37.out _ _ HS4.out).mono ?_; rintro e w5 ⟨rfl, hb5⟩))
    all_goals
      have HB5 := Lib.hid (HB4.out.to hb5)
      have d5 := HB5.out.1
      go_wp2_with fail
      refine ((closure_any 103 n w.heap.size s w5 hs (by first | exact hn | omega | exact class_in) HB5.out.1)).mono ?_
      rintro e w9 ⟨rfl, hb9⟩
      have HB9 := Lib.hid (HB5.out.to hb9)
      obtain ⟨z0, z1, z2, z3, z4⟩ := HB9.out.2.1
      have s0 := HB9.out.2.1.put0
      have s1 := HB9.out.2.1.put1
      go_wp2_with fail
      refine bodyPost_ret (by simp [results, Tryz.results22, go_sem, s0, s1]; try rfl) rfl ?_
      exact ⟨rfl, HB9.out.stored _ _⟩
  · have h4 : ¬ (1 : Int) < s.size := by omega
    clear h3
    go_enter Tryz.func22, Tryz.ntmps22
    go_wp2_with fail
    have HB := Lib.hid (begun s w)
    generalize ((w.alloc (.cells #[.string s] 9)).alloc (.cells #[.int .i64 0, .string ⟨#[]⟩] 32)) = w2 at *
    obtain ⟨c0, _, _⟩ := HB.out
    refine (K0.out _).mono ?_
    rintro e w1 ⟨rfl, rfl⟩
    go_wp2_with fail
    refine (K3.out _).mono ?_
    rintro e w1 ⟨rfl, rfl⟩
    go_wp2_with fail
    refine (K2.out _).mono ?_
    rintro e w1 ⟨rfl, rfl⟩
    go_wp2_with fail
    have hlt := World.block_lt_of_cell? _ _ HB.out.1
    go_region_with (first
      | (go_at_call 43; refine (K14.out _).mono ?_; rintro e w4 ⟨b4, rfl, HS4, hb40⟩; have hb4 := below_drew' hb40; have d0 := (hb4.cell (p := ⟨w.heap.size, 0, none⟩) hlt).trans c0; have HB4 := Lib.hid (HB.out.to hb4); clear hb40)
      | (go_at_call 42; refine (K37.out _ _ HS4.out).mono ?_; rintro e w5 ⟨rfl, hb5⟩))
    all_goals
      have HB5 := Lib.hid (HB4.out.to hb5)
      have d5 := HB5.out.1
      go_wp2_with fail
      refine ((closure_any 103 n w.heap.size s w5 hs (by first | exact hn | omega | exact class_in) HB5.out.1)).mono ?_
      rintro e w9 ⟨rfl, hb9⟩
      have HB9 := Lib.hid (HB5.out.to hb9)
      obtain ⟨z0, z1, z2, z3, z4⟩ := HB9.out.2.1
      have s0 := HB9.out.2.1.put0
      have s1 := HB9.out.2.1.put1
      go_wp2_with fail
      refine bodyPost_ret (by simp [results, Tryz.results22, go_sem, s0, s1]; try rfl) rfl ?_
      exact ⟨rfl, HB9.out.stored _ _⟩
end
end Go.Proofs.YtbomilleckgalaaGreat.Lx

namespace Go.Proofs.YtbomilleckgalaaGreat.Lx
open Go.RowKit

/-- What is no space, comment, number, word or quote. -/
def pu (l : List UInt8) : Int × Nat := if pairs.contains (l.take 2) then (107, 2) else if singles.contains (l.headD 0) then (107, 1) else (108, 1)

theorem pair_len : ∀ p ∈ pairs, p.length = 2 := by decide

theorem puncts_at {k : Nat} {p : List UInt8} (h : puncts[k]? = some p) : (k < 6 ∧ p ∈ pairs) ∨ (6 ≤ k ∧ ∃ d ∈ singles, p = [d]) := by
  unfold puncts at h
  rcases Nat.lt_or_ge k 6 with hk | hk
  · rw [List.getElem?_append_left (by exact hk)] at h
    exact .inl ⟨hk, List.mem_of_getElem? h⟩
  · rw [List.getElem?_append_right (by exact hk)] at h
    obtain ⟨d, hd, e⟩ := List.mem_map.1 (List.mem_of_getElem? h)
    exact .inr ⟨hk, d, hd, e.symm⟩

theorem pair_at {p : List UInt8} (h : p ∈ pairs) : ∃ j, j < 6 ∧ puncts[j]? = some p := by
  obtain ⟨j, hj⟩ := List.mem_iff_getElem?.1 h
  have hlt : j < 6 := (List.getElem?_eq_some_iff.1 hj).1
  exact ⟨j, hlt, by unfold puncts; rw [List.getElem?_append_left (by exact hlt)]; exact hj⟩

theorem single_at {d : UInt8} (h : d ∈ singles) : ∃ j : Nat, puncts[j]? = some [d] := by
  have : [d] ∈ puncts := List.mem_append_right _ (List.mem_map.2 ⟨d, h, rfl⟩)
  exact List.mem_iff_getElem?.1 this

theorem punct_hit {l p : List UInt8} {k : Nat} (hno : ∀ (j : Nat) q, j < k → puncts[j]? = some q → l.take q.length ≠ q) (hk : puncts[k]? = some p) (hm : l.take p.length = p) : pu l = (107, p.length) := by
  unfold pu
  rcases puncts_at hk with ⟨_, hp⟩ | ⟨hk6, d, hd, rfl⟩
  · have h2 := pair_len p hp
    rw [h2] at hm ⊢
    rw [hm, if_pos (by simpa using hp)]
  · cases l with
    | nil => simp at hm
    | cons c r =>
      obtain rfl : c = d := by simpa using hm
      rw [if_neg, if_pos (by simpa using hd)]
      · rfl
      · intro h
        have hmem : (c :: r).take 2 ∈ pairs := by simpa using h
        obtain ⟨j, hj, hj2⟩ := pair_at hmem
        exact hno j _ (by omega) hj2 (by rw [pair_len _ hmem])

theorem punct_miss {l : List UInt8} (hl : l ≠ []) (hno : ∀ (j : Nat) q, puncts[j]? = some q → l.take q.length ≠ q) : pu l = (108, 1) := by
  unfold pu
  rw [if_neg, if_neg]
  · intro h
    cases l with
    | nil => exact hl rfl
    | cons c r =>
      have hd : c ∈ singles := by simpa using h
      obtain ⟨j, hj⟩ := single_at hd
      exact hno j _ hj (by simp)
  · intro h
    have hmem : l.take 2 ∈ pairs := by simpa using h
    obtain ⟨j, _, hj2⟩ := pair_at hmem
    exact hno j _ hj2 (by rw [pair_len _ hmem])

theorem puncts_some (w : World) : Calls Tryz.prog 45 #[] w fun e w' => ∃ b, e = .returned (.slice (some ⟨b, 0, none⟩) 26 26) ∧ Hid (Strs w' w'.heap.size (some ⟨b, 0, none⟩) puncts) ∧ Below w.heap.size w w' :=
  (puncts_any w).mono fun e w' h => by
    obtain ⟨rfl, rfl⟩ := h
    exact ⟨_, rfl, pu_strs w, pu_below w⟩

section
variable {s : ByteArray} {c : UInt8}

set_option maxHeartbeats 2000000 in
set_option maxRecDepth 100000 in
theorem r_quote (w : World) (hs : s.size ≤ 1100000) (hne : 0 < s.size) (r0 : Hid (run spI (L s) = 0)) (h2 : (1 < s.size ∧ ((s.extract 0 2).toList == [47, 47]) = false) ∨ ¬ 1 < s.size) (r3 : Hid (run dgI (L s) = 0)) (r2 : Hid (run wdI (L s) = 0)) (hc : s[0]'hne = c) (g : ((c.toNat : Int) == 34) = true) (r4 : 0 < lit ((L s).drop 1) 1 false) : Calls Tryz.prog 22 #[.string s] w (RTok s 106 (lit ((L s).drop 1) 1 false) w) := by
  have bs1 : (s.size : Int) ≤ 1100000 := by omega
  have bs0 : (0 : Int) < s.size := by omega
  have K0 : Hid (∀ W, Calls Tryz.prog 41 #[.string s, .int .i64 0] W fun e w' => e = .returned (.int .i64 0) ∧ w' = W) := fun W => by have := rrun_0 s W hs; rw [r0.out] at this; exact this
  have K3 : Hid (∀ W, Calls Tryz.prog 41 #[.string s, .int .i64 3] W fun e w' => e = .returned (.int .i64 0) ∧ w' = W) := fun W => by have := rrun_3 s W hs; rw [r3.out] at this; exact this
  have K2 : Hid (∀ W, Calls Tryz.prog 41 #[.string s, .int .i64 2] W fun e w' => e = .returned (.int .i64 0) ∧ w' = W) := fun W => by have := rrun_2 s W hs; rw [r2.out] at this; exact this
  have K38 := Lib.hid (fun W => literal_any s W hs)
  have hn1 : lit ((L s).drop 1) 1 false ≤ s.size := by
    have := lit_le ((L s).drop 1) 1 false
    rw [List.length_drop, L_len] at this
    omega
  have p0 : (0 : Int) < lit ((L s).drop 1) 1 false := by omega
  generalize lit ((L s).drop 1) 1 false = n at *
  have hn : n ≤ s.size := hn1
  rcases h2 with ⟨h3, h2⟩ | h3
  · have h4 : (1 : Int) < s.size := by omega
    clear h3
    go_enter Tryz.func22, Tryz.ntmps22
    go_wp2_with fail
    have HB := Lib.hid (begun s w)
    generalize ((w.alloc (.cells #[.string s] 9)).alloc (.cells #[.int .i64 0, .string ⟨#[]⟩] 32)) = w2 at *
    obtain ⟨c0, _, _⟩ := HB.out
    refine (K0.out _).mono ?_
    rintro e w1 ⟨rfl, rfl⟩
    go_wp2_with fail
    refine (K3.out _).mono ?_
    rintro e w1 ⟨rfl, rfl⟩
    go_wp2_with fail
    refine (K2.out _).mono ?_
    rintro e w1 ⟨rfl, rfl⟩
    go_wp2_with fail
    refine (K38.out _).mono ?_
    rintro e w1 ⟨rfl, rfl⟩
    go_wp2_with fail
    refine ((closure_any 106 n w.heap.size s w1 hs (by first | exact hn | omega | exact class_in) HB.out.1)).mono ?_
    rintro e w9 ⟨rfl, hb9⟩
    have HB9 := Lib.hid (HB.out.to hb9)
    obtain ⟨z0, z1, z2, z3, z4⟩ := HB9.out.2.1
    have s0 := HB9.out.2.1.put0
    have s1 := HB9.out.2.1.put1
    go_wp2_with fail
    refine bodyPost_ret (by simp [results, Tryz.results22, go_sem, s0, s1]; try rfl) rfl ?_
    exact ⟨rfl, HB9.out.stored _ _⟩
  · have h4 : ¬ (1 : Int) < s.size := by omega
    clear h3
    go_enter Tryz.func22, Tryz.ntmps22
    go_wp2_with fail
    have HB := Lib.hid (begun s w)
    generalize ((w.alloc (.cells #[.string s] 9)).alloc (.cells #[.int .i64 0, .string ⟨#[]⟩] 32)) = w2 at *
    obtain ⟨c0, _, _⟩ := HB.out
    refine (K0.out _).mono ?_
    rintro e w1 ⟨rfl, rfl⟩
    go_wp2_with fail
    refine (K3.out _).mono ?_
    rintro e w1 ⟨rfl, rfl⟩
    go_wp2_with fail
    refine (K2.out _).mono ?_
    rintro e w1 ⟨rfl, rfl⟩
    go_wp2_with fail
    refine (K38.out _).mono ?_
    rintro e w1 ⟨rfl, rfl⟩
    go_wp2_with fail
    refine ((closure_any 106 n w.heap.size s w1 hs (by first | exact hn | omega | exact class_in) HB.out.1)).mono ?_
    rintro e w9 ⟨rfl, hb9⟩
    have HB9 := Lib.hid (HB.out.to hb9)
    obtain ⟨z0, z1, z2, z3, z4⟩ := HB9.out.2.1
    have s0 := HB9.out.2.1.put0
    have s1 := HB9.out.2.1.put1
    go_wp2_with fail
    refine bodyPost_ret (by simp [results, Tryz.results22, go_sem, s0, s1]; try rfl) rfl ?_
    exact ⟨rfl, HB9.out.stored _ _⟩

set_option maxHeartbeats 2000000 in
set_option maxRecDepth 100000 in
theorem r_bad (w : World) (hs : s.size ≤ 1100000) (hne : 0 < s.size) (r0 : Hid (run spI (L s) = 0)) (h2 : (1 < s.size ∧ ((s.extract 0 2).toList == [47, 47]) = false) ∨ ¬ 1 < s.size) (r3 : Hid (run dgI (L s) = 0)) (r2 : Hid (run wdI (L s) = 0)) (hc : s[0]'hne = c) (g : ((c.toNat : Int) == 34) = true) (r4 : Hid (lit ((L s).drop 1) 1 false = 0)) : Calls Tryz.prog 22 #[.string s] w (RTok s 108 (run nnI (L s)) w) := by
  have bs1 : (s.size : Int) ≤ 1100000 := by omega
  have bs0 : (0 : Int) < s.size := by omega
  have K0 : Hid (∀ W, Calls Tryz.prog 41 #[.string s, .int .i64 0] W fun e w' => e = .returned (.int .i64 0) ∧ w' = W) := fun W => by have := rrun_0 s W hs; rw [r0.out] at this; exact this
  have K3 : Hid (∀ W, Calls Tryz.prog 41 #[.string s, .int .i64 3] W fun e w' => e = .returned (.int .i64 0) ∧ w' = W) := fun W => by have := rrun_3 s W hs; rw [r3.out] at this; exact this
  have K2 : Hid (∀ W, Calls Tryz.prog 41 #[.string s, .int .i64 2] W fun e w' => e = .returned (.int .i64 0) ∧ w' = W) := fun W => by have := rrun_2 s W hs; rw [r2.out] at this; exact this
  have K38 := Lib.hid (fun W => literal_any s W hs)
  have hn1 : lit ((L s).drop 1) 1 false ≤ s.size := by
    have := lit_le ((L s).drop 1) 1 false
    rw [List.length_drop, L_len] at this
    omega
  have K1 := Lib.hid (fun W => rrun_1 s W hs)
  have l1 : (run nnI (L s) : Int) ≤ s.size := by have := class_in (p := nnI) (s := s); omega
  rw [r4.out] at K38 hn1
  generalize run nnI (L s) = n at *
  have hn : n ≤ s.size := by omega
  rcases h2 with ⟨h3, h2⟩ | h3
  · have h4 : (1 : Int) < s.size := by omega
    clear h3
    go_enter Tryz.func22, Tryz.ntmps22
    go_wp2_with fail
    have HB := Lib.hid (begun s w)
    generalize ((w.alloc (.cells #[.string s] 9)).alloc (.cells #[.int .i64 0, .string ⟨#[]⟩] 32)) = w2 at *
    obtain ⟨c0, _, _⟩ := HB.out
    refine (K0.out _).mono ?_
    rintro e w1 ⟨rfl, rfl⟩
    go_wp2_with fail
    refine (K3.out _).mono ?_
    rintro e w1 ⟨rfl, rfl⟩
    go_wp2_with fail
    refine (K2.out _).mono ?_
    rintro e w1 ⟨rfl, rfl⟩
    go_wp2_with fail
    refine (K38.out _).mono ?_
    rintro e w1 ⟨rfl, rfl⟩
    go_wp2_with fail
    refine (K1.out _).mono ?_
    rintro e w1 ⟨rfl, rfl⟩
    go_wp2_with fail
    refine ((closure_any 108 n w.heap.size s w1 hs (by first | exact hn | omega | exact class_in) HB.out.1)).mono ?_
    rintro e w9 ⟨rfl, hb9⟩
    have HB9 := Lib.hid (HB.out.to hb9)
    obtain ⟨z0, z1, z2, z3, z4⟩ := HB9.out.2.1
    have s0 := HB9.out.2.1.put0
    have s1 := HB9.out.2.1.put1
    go_wp2_with fail
    refine bodyPost_ret (by simp [results, Tryz.results22, go_sem, s0, s1]; try rfl) rfl ?_
    exact ⟨rfl, HB9.out.stored _ _⟩
  · have h4 : ¬ (1 : Int) < s.size := by omega
    clear h3
    go_enter Tryz.func22, Tryz.ntmps22
    go_wp2_with fail
    have HB := Lib.hid (begun s w)
    generalize ((w.alloc (.cells #[.string s] 9)).alloc (.cells #[.int .i64 0, .string ⟨#[]⟩] 32)) = w2 at *
    obtain ⟨c0, _, _⟩ := HB.out
    refine (K0.out _).mono ?_
    rintro e w1 ⟨rfl, rfl⟩
    go_wp2_with fail
    refine (K3.out _).mono ?_
    rintro e w1 ⟨rfl, rfl⟩
    go_wp2_with fail
    refine (K2.out _).mono ?_
    rintro e w1 ⟨rfl, rfl⟩
    go_wp2_with fail
    refine (K38.out _).mono ?_
    rintro e w1 ⟨rfl, rfl⟩
    go_wp2_with fail
    refine (K1.out _).mono ?_
    rintro e w1 ⟨rfl, rfl⟩
    go_wp2_with fail
    refine ((closure_any 108 n w.heap.size s w1 hs (by first | exact hn | omega | exact class_in) HB.out.1)).mono ?_
    rintro e w9 ⟨rfl, hb9⟩
    have HB9 := Lib.hid (HB.out.to hb9)
    obtain ⟨z0, z1, z2, z3, z4⟩ := HB9.out.2.1
    have s0 := HB9.out.2.1.put0
    have s1 := HB9.out.2.1.put1
    go_wp2_with fail
    refine bodyPost_ret (by simp [results, Tryz.results22, go_sem, s0, s1]; try rfl) rfl ?_
    exact ⟨rfl, HB9.out.stored _ _⟩
end
end Go.Proofs.YtbomilleckgalaaGreat.Lx

namespace Go.Proofs.YtbomilleckgalaaGreat.Lx
open Go.RowKit
section
variable {s : ByteArray} {c : UInt8}

set_option maxHeartbeats 2000000 in
set_option maxRecDepth 100000 in
theorem r_rest (w : World) (hs : s.size ≤ 1100000) (hne : 0 < s.size) (r0 : Hid (run spI (L s) = 0)) (h2 : (1 < s.size ∧ ((s.extract 0 2).toList == [47, 47]) = false) ∨ ¬ 1 < s.size) (r3 : Hid (run dgI (L s) = 0)) (r2 : Hid (run wdI (L s) = 0)) (hc : s[0]'hne = c) (g : ((c.toNat : Int) == 34) = false) (hl : Hid (L s ≠ [])) : Calls Tryz.prog 22 #[.string s] w (RTok s (pu (L s)).1 (pu (L s)).2 w) := by
  have bs1 : (s.size : Int) ≤ 1100000 := by omega
  have bs0 : (0 : Int) < s.size := by omega
  have K0 : Hid (∀ W, Calls Tryz.prog 41 #[.string s, .int .i64 0] W fun e w' => e = .returned (.int .i64 0) ∧ w' = W) := fun W => by have := rrun_0 s W hs; rw [r0.out] at this; exact this
  have K3 : Hid (∀ W, Calls Tryz.prog 41 #[.string s, .int .i64 3] W fun e w' => e = .returned (.int .i64 0) ∧ w' = W) := fun W => by have := rrun_3 s W hs; rw [r3.out] at this; exact this
  have K2 : Hid (∀ W, Calls Tryz.prog 41 #[.string s, .int .i64 2] W fun e w' => e = .returned (.int .i64 0) ∧ w' = W) := fun W => by have := rrun_2 s W hs; rw [r2.out] at this; exact this
  have K39 := Lib.hid (fun W => puncts_some W)
  rcases h2 with ⟨h3, h2⟩ | h3
  · have h4 : (1 : Int) < s.size := by omega
    clear h3
    go_enter Tryz.func22, Tryz.ntmps22
    go_wp2_with fail
    have HB := Lib.hid (begun s w)
    generalize ((w.alloc (.cells #[.string s] 9)).alloc (.cells #[.int .i64 0, .string ⟨#[]⟩] 32)) = w2 at *
    obtain ⟨c0, _, _⟩ := HB.out
    refine (K0.out _).mono ?_
    rintro e w1 ⟨rfl, rfl⟩
    go_wp2_with fail
    refine (K3.out _).mono ?_
    rintro e w1 ⟨rfl, rfl⟩
    go_wp2_with fail
    refine (K2.out _).mono ?_
    rintro e w1 ⟨rfl, rfl⟩
    go_wp2_with fail
    refine (K39.out _).mono ?_
    rintro e w3 ⟨b3, rfl, HS3, hb3⟩
    have HB3 := Lib.hid (HB.out.to hb3)
    have c3 := HB3.out.1
    clear HB c0
    go_wp2_with fail
    go_loop [68] (fun i => ∃ k : Nat, k ≤ 26 ∧ i = .int .i64 k ∧ Hid (∀ (j : Nat) q, j < k → puncts[j]? = some q → (L s).take q.length ≠ q)) (fun i => 26 - (intOf i).toNat)
    case atStart => exact ⟨0, Nat.zero_le _, rfl, fun j q h => by omega⟩
    case round =>
      obtain ⟨k, hk, rfl, hno⟩ := hrel
      by_cases hlt : k < 26
      · obtain ⟨p, hp⟩ : ∃ p, puncts[k]? = some p := ⟨_, List.getElem?_eq_getElem (show k < puncts.length from hlt)⟩
        obtain ⟨b, o, hbo, _, p0⟩ := HS3.out k p hp
        cases hbo
        have hk0 : (0 : Int) ≤ (k : Int) := by omega
        have hk1 : (k : Int) < 26 := by omega
        have HP := Lib.hid hp
        have hz := bs_size p
        have hpl : p.length ≤ 2 := by
          rcases puncts_at hp with ⟨_, h⟩ | ⟨_, d, _, h⟩
          · rw [pair_len p h]; exact Nat.le_refl _
          · rw [h]; simp
        have HE : Hid (∀ m, m = p.length → m ≤ s.size → ((s.extract 0 m).toList == (bs p).toList) = decide ((L s).take p.length = p)) := by
          rintro m rfl _
          rw [ByteArray.toList_eq, ByteArray.toList_eq, take_is]
          show (L (bs _) == L (bs _)) = _
          rw [L_bs, L_bs]
          by_cases h : (L s).take p.length = p
          · rw [decide_eq_true h, h]; simp
          · rw [decide_eq_false h]; simpa using h
        rw [Nat.zero_add] at p0
        clear hp
        by_cases hm : (L s).take p.length = p
        · have hle : p.length ≤ s.size := by
            have := congrArg List.length hm
            rw [List.length_take, L_len] at this
            omega
          have HH := Lib.hid (punct_hit hno.out HP.out hm)
          have he := HE.out (bs p).size hz (by omega)
          rw [decide_eq_true hm] at he
          rw [← hz] at hle HH
          have hle2 : ((bs p).size : Int) ≤ s.size := by omega
          clear HE HP hno hm
          generalize bs p = z at *
          have hle3 : (z.size : Int) ≤ 2 := by omega
          clear hz
          go_wp2_with fail
          refine ((closure_any 107 z.size w.heap.size s w3 hs (by first | exact hn | omega | exact class_in) HB3.out.1)).mono ?_
          rintro e w9 ⟨rfl, hb9⟩
          have HB9 := Lib.hid (HB3.out.to hb9)
          obtain ⟨z0, z1, z2, z3, z4⟩ := HB9.out.2.1
          have s0 := HB9.out.2.1.put0
          have s1 := HB9.out.2.1.put1
          go_wp2_with fail
          refine bodyPost_ret (by simp [results, Tryz.results22, go_sem, s0, s1]; try rfl) rfl ?_
          exact ⟨by rw [HH.out], HB9.out.stored _ _⟩
        · have hno2 : Hid (∀ (j : Nat) q, j < k + 1 → puncts[j]? = some q → (L s).take q.length ≠ q) := by
            intro j q hj hq
            by_cases hjk : j = k
            · subst hjk
              rw [HP.out] at hq
              cases hq
              exact hm
            · exact hno.out j q (by omega) hq
          have hlen : ((bs p).size ≤ s.size ∧ ((s.extract 0 (bs p).size).toList == (bs p).toList) = false) ∨ ¬ (bs p).size ≤ s.size := by
            by_cases h : (bs p).size ≤ s.size
            · exact .inl ⟨h, by rw [HE.out _ hz h]; exact decide_eq_false hm⟩
            · exact .inr h
          rw [← hz] at hpl
          clear HE HP hno hm hz
          generalize bs p = z at *
          have hle3 : (z.size : Int) ≤ 2 := by omega
          rcases hlen with ⟨h1, h2⟩ | h1
          · have hle2 : (z.size : Int) ≤ s.size := by omega
            go_wp2_with fail
            go_round
            case rel => exact ⟨k + 1, by omega, by go_num, hno2⟩
            case measure => simp [intOf]; omega
          · have hle2 : ¬ (z.size : Int) ≤ s.size := by omega
            go_wp2_with fail
            go_round
            case rel => exact ⟨k + 1, by omega, by go_num, hno2⟩
            case measure => simp [intOf]; omega
      · obtain rfl : k = 26 := by omega
        have HH : Hid (pu (L s) = (108, 1)) := punct_miss hl.out (fun j q hj => hno.out j q (by have := (List.getElem?_eq_some_iff.1 hj).1; exact this) hj)
        clear hno HS3
        go_wp2_with fail
        refine ((closure_any 108 1 w.heap.size s w3 hs (by first | exact hn | omega | exact class_in) HB3.out.1)).mono ?_
        rintro e w9 ⟨rfl, hb9⟩
        have HB9 := Lib.hid (HB3.out.to hb9)
        obtain ⟨z0, z1, z2, z3, z4⟩ := HB9.out.2.1
        have s0 := HB9.out.2.1.put0
        have s1 := HB9.out.2.1.put1
        go_wp2_with fail
        refine bodyPost_ret (by simp [results, Tryz.results22, go_sem, s0, s1]; try rfl) rfl ?_
        exact ⟨by rw [HH.out], HB9.out.stored _ _⟩
  · have h4 : ¬ (1 : Int) < s.size := by omega
    clear h3
    go_enter Tryz.func22, Tryz.ntmps22
    go_wp2_with fail
    have HB := Lib.hid (begun s w)
    generalize ((w.alloc (.cells #[.string s] 9)).alloc (.cells #[.int .i64 0, .string ⟨#[]⟩] 32)) = w2 at *
    obtain ⟨c0, _, _⟩ := HB.out
    refine (K0.out _).mono ?_
    rintro e w1 ⟨rfl, rfl⟩
    go_wp2_with fail
    refine (K3.out _).mono ?_
    rintro e w1 ⟨rfl, rfl⟩
    go_wp2_with fail
    refine (K2.out _).mono ?_
    rintro e w1 ⟨rfl, rfl⟩
    go_wp2_with fail
    refine (K39.out _).mono ?_
    rintro e w3 ⟨b3, rfl, HS3, hb3⟩
    have HB3 := Lib.hid (HB.out.to hb3)
    have c3 := HB3.out.1
    clear HB c0
    go_wp2_with fail
    go_loop [68] (fun i => ∃ k : Nat, k ≤ 26 ∧ i = .int .i64 k ∧ Hid (∀ (j : Nat) q, j < k → puncts[j]? = some q → (L s).take q.length ≠ q)) (fun i => 26 - (intOf i).toNat)
    case atStart => exact ⟨0, Nat.zero_le _, rfl, fun j q h => by omega⟩
    case round =>
      obtain ⟨k, hk, rfl, hno⟩ := hrel
      by_cases hlt : k < 26
      · obtain ⟨p, hp⟩ : ∃ p, puncts[k]? = some p := ⟨_, List.getElem?_eq_getElem (show k < puncts.length from hlt)⟩
        obtain ⟨b, o, hbo, _, p0⟩ := HS3.out k p hp
        cases hbo
        have hk0 : (0 : Int) ≤ (k : Int) := by omega
        have hk1 : (k : Int) < 26 := by omega
        have HP := Lib.hid hp
        have hz := bs_size p
        have hpl : p.length ≤ 2 := by
          rcases puncts_at hp with ⟨_, h⟩ | ⟨_, d, _, h⟩
          · rw [pair_len p h]; exact Nat.le_refl _
          · rw [h]; simp
        have HE : Hid (∀ m, m = p.length → m ≤ s.size → ((s.extract 0 m).toList == (bs p).toList) = decide ((L s).take p.length = p)) := by
          rintro m rfl _
          rw [ByteArray.toList_eq, ByteArray.toList_eq, take_is]
          show (L (bs _) == L (bs _)) = _
          rw [L_bs, L_bs]
          by_cases h : (L s).take p.length = p
          · rw [decide_eq_true h, h]; simp
          · rw [decide_eq_false h]; simpa using h
        rw [Nat.zero_add] at p0
        clear hp
        by_cases hm : (L s).take p.length = p
        · have hle : p.length ≤ s.size := by
            have := congrArg List.length hm
            rw [List.length_take, L_len] at this
            omega
          have HH := Lib.hid (punct_hit hno.out HP.out hm)
          have he := HE.out (bs p).size hz (by omega)
          rw [decide_eq_true hm] at he
          rw [← hz] at hle HH
          have hle2 : ((bs p).size : Int) ≤ s.size := by omega
          clear HE HP hno hm
          generalize bs p = z at *
          have hle3 : (z.size : Int) ≤ 2 := by omega
          clear hz
          go_wp2_with fail
          refine ((closure_any 107 z.size w.heap.size s w3 hs (by first | exact hn | omega | exact class_in) HB3.out.1)).mono ?_
          rintro e w9 ⟨rfl, hb9⟩
          have HB9 := Lib.hid (HB3.out.to hb9)
          obtain ⟨z0, z1, z2, z3, z4⟩ := HB9.out.2.1
          have s0 := HB9.out.2.1.put0
          have s1 := HB9.out.2.1.put1
          go_wp2_with fail
          refine bodyPost_ret (by simp [results, Tryz.results22, go_sem, s0, s1]; try rfl) rfl ?_
          exact ⟨by rw [HH.out], HB9.out.stored _ _⟩
        · have hno2 : Hid (∀ (j : Nat) q, j < k + 1 → puncts[j]? = some q → (L s).take q.length ≠ q) := by
            intro j q hj hq
            by_cases hjk : j = k
            · subst hjk
              rw [HP.out] at hq
              cases hq
              exact hm
            · exact hno.out j q (by omega) hq
          have hlen : ((bs p).size ≤ s.size ∧ ((s.extract 0 (bs p).size).toList == (bs p).toList) = false) ∨ ¬ (bs p).size ≤ s.size := by
            by_cases h : (bs p).size ≤ s.size
            · exact .inl ⟨h, by rw [HE.out _ hz h]; exact decide_eq_false hm⟩
            · exact .inr h
          rw [← hz] at hpl
          clear HE HP hno hm hz
          generalize bs p = z at *
          have hle3 : (z.size : Int) ≤ 2 := by omega
          rcases hlen with ⟨h1, h2⟩ | h1
          · have hle2 : (z.size : Int) ≤ s.size := by omega
            go_wp2_with fail
            go_round
            case rel => exact ⟨k + 1, by omega, by go_num, hno2⟩
            case measure => simp [intOf]; omega
          · have hle2 : ¬ (z.size : Int) ≤ s.size := by omega
            go_wp2_with fail
            go_round
            case rel => exact ⟨k + 1, by omega, by go_num, hno2⟩
            case measure => simp [intOf]; omega
      · obtain rfl : k = 26 := by omega
        have HH : Hid (pu (L s) = (108, 1)) := punct_miss hl.out (fun j q hj => hno.out j q (by have := (List.getElem?_eq_some_iff.1 hj).1; exact this) hj)
        clear hno HS3
        go_wp2_with fail
        refine ((closure_any 108 1 w.heap.size s w3 hs (by first | exact hn | omega | exact class_in) HB3.out.1)).mono ?_
        rintro e w9 ⟨rfl, hb9⟩
        have HB9 := Lib.hid (HB3.out.to hb9)
        obtain ⟨z0, z1, z2, z3, z4⟩ := HB9.out.2.1
        have s0 := HB9.out.2.1.put0
        have s1 := HB9.out.2.1.put1
        go_wp2_with fail
        refine bodyPost_ret (by simp [results, Tryz.results22, go_sem, s0, s1]; try rfl) rfl ?_
        exact ⟨by rw [HH.out], HB9.out.stored _ _⟩
end
end Go.Proofs.YtbomilleckgalaaGreat.Lx

namespace Go.Proofs.YtbomilleckgalaaGreat.Lx
open Go.RowKit

theorem two_yes {s : ByteArray} (h : (L s).take 2 = [47, 47]) : 1 < s.size ∧ ((s.extract 0 2).toList == [47, 47]) = true := by
  refine ⟨?_, ?_⟩
  · have := congrArg List.length h
    rw [List.length_take, L_len] at this
    simp at this
    omega
  · rw [ByteArray.toList_eq, take_is]
    show (L (bs _) == _) = _
    rw [L_bs, h]; rfl

theorem two_no {s : ByteArray} (h : ¬ (L s).take 2 = [47, 47]) : (1 < s.size ∧ ((s.extract 0 2).toList == [47, 47]) = false) ∨ ¬ 1 < s.size := by
  by_cases h1 : 1 < s.size
  · refine .inl ⟨h1, ?_⟩
    rw [ByteArray.toList_eq, take_is]
    show (L (bs _) == _) = _
    rw [L_bs]
    simpa using h
  · exact .inr h1

theorem pos_run {p : Int → Bool} {c : UInt8} {r : List UInt8} (h : p c.toNat = true) : 0 < run p (c :: r) := by rw [run_cons h]; omega

theorem rfirst_any (s : ByteArray) (w : World) (hs : s.size ≤ 1100000) (hne : 0 < s.size) : Calls Tryz.prog 22 #[.string s] w (RTok s (tokK (L s)) (tokN (L s)) w) := by
  obtain ⟨c, hc⟩ : ∃ c, s[0]'hne = c := ⟨_, rfl⟩
  have hat := at_L s 0 hne
  rw [hc] at hat
  obtain ⟨r, hr⟩ : ∃ r, L s = c :: r := by
    cases h : L s with
    | nil => rw [h] at hat; simp at hat
    | cons x r => rw [h] at hat; simp at hat; exact ⟨r, by rw [hat]⟩
  have hl : Hid (L s ≠ []) := by show _ ≠ _; rw [hr]; simp
  have key : ∀ (k : Int) (n : Nat), tok0 (c :: r) = (k, n) → ¬ k = 103 → Calls Tryz.prog 22 #[.string s] w (RTok s k n w) → Calls Tryz.prog 22 #[.string s] w (RTok s (tokK (L s)) (tokN (L s)) w) := by
    intro k n h h103 C
    have e : tok0 (L s) = (k, n) := by rw [hr]; exact h
    have e1 : tokK (L s) = k := by rw [tokK_keep (by rw [e]; exact h103), e]
    have e2 : tokN (L s) = n := by rw [tokN, e]
    rw [e1, e2]
    exact C
  cases h1 : spI (c.toNat : Int) with
  | true => exact key _ _ (by rw [tok0, if_pos h1, hr]) (by decide) (r_space w hs hne (by rw [hr]; exact pos_run h1))
  | false =>
    have g1 : ¬ spI (c.toNat : Int) = true := by simp [h1]
    have z0 : Hid (run spI (L s) = 0) := by show _ = _; rw [hr]; exact run_zero h1
    by_cases h2 : (c :: r).take 2 = [47, 47]
    · obtain ⟨t1, t2⟩ := two_yes (s := s) (by rw [hr]; exact h2)
      exact key _ _ (by rw [tok0, if_neg g1, if_pos h2, hr]) (by decide) (r_comment w hs hne z0 t1 t2)
    · have d2 := two_no (s := s) (by rw [hr]; exact h2)
      cases h3 : dgI (c.toNat : Int) with
      | true => exact key _ _ (by rw [tok0, if_neg g1, if_neg h2, if_pos h3, hr]) (by decide) (r_digit w hs hne z0 d2 (by rw [hr]; exact pos_run h3))
      | false =>
        have g3 : ¬ dgI (c.toNat : Int) = true := by simp [h3]
        have z3 : Hid (run dgI (L s) = 0) := by show _ = _; rw [hr]; exact run_zero h3
        cases h4 : wdI (c.toNat : Int) with
        | true =>
          have p2 : 0 < run wdI (L s) := by rw [hr]; exact pos_run h4
          have e : tok0 (L s) = (103, run wdI (L s)) := by rw [hr, tok0, if_neg g1, if_neg h2, if_neg g3, if_pos h4]
          have e2 : tokN (L s) = run wdI (L s) := by rw [tokN, e]
          cases hcon : kws.contains ((L s).take (run wdI (L s))) with
          | true =>
            rw [tokK_key (by rw [e]) (by rw [e]; exact hcon), e2]
            exact r_key w hs hne z0 d2 z3 p2 hcon
          | false =>
            rw [tokK_word (by rw [e]) (by rw [e]; exact hcon), e2]
            exact r_word w hs hne z0 d2 z3 p2 hcon
        | false =>
          have g4 : ¬ wdI (c.toNat : Int) = true := by simp [h4]
          have z2 : Hid (run wdI (L s) = 0) := by show _ = _; rw [hr]; exact run_zero h4
          by_cases h5 : c = 34
          · have g5 : ((c.toNat : Int) == 34) = true := by rw [h5]; rfl
            have el : lit ((L s).drop 1) 1 false = lit r 1 false := by rw [hr]; rfl
            by_cases h6 : lit r 1 false = 0
            · exact key _ _ (by rw [tok0, if_neg g1, if_neg h2, if_neg g3, if_neg g4, if_pos h5, if_pos h6, hr]) (by decide) (r_bad w hs hne z0 d2 z3 z2 hc g5 (by show _ = _; rw [el]; exact h6))
            · exact key _ _ (by rw [tok0, if_neg g1, if_neg h2, if_neg g3, if_neg g4, if_pos h5, if_neg h6, el]) (by decide) (r_quote w hs hne z0 d2 z3 z2 hc g5 (by rw [el]; omega))
          · have g5 : ((c.toNat : Int) == 34) = false := by
              have : ¬ (c.toNat : Int) = 34 := fun e => h5 (byte_eq (d := 34) (by rw [e]; rfl))
              simpa using this
            refine key (pu (L s)).1 (pu (L s)).2 ?_ ?_ (r_rest w hs hne z0 d2 z3 z2 hc g5 hl)
            · rw [tok0, if_neg g1, if_neg h2, if_neg g3, if_neg g4, if_neg h5, hr, pu]
              rfl
            · rw [pu]
              (repeat' split) <;> decide

/-- What the reference's Tokens hands back. -/
def RToks (s : ByteArray) (w : World) (e : Ending) (w' : World) : Prop := ∃ v, e = .returned v ∧ Hid (OwnsT w' w.heap.size v (T (L s))) ∧ Below w.heap.size w w'

set_option maxHeartbeats 2000000 in
set_option maxRecDepth 100000 in
theorem rtokens_any (s : ByteArray) (w : World) (hs : s.size ≤ 1100000) : Calls Tryz.prog 8 #[.string s] w (RToks s w) := by
  obtain ⟨i0, hi, hz0, hz1, hz2⟩ := info_parts info_tok
  have g0 : (s.size : Int) ≤ 1100000 := by omega
  go_enter Tryz.func8, Tryz.ntmps8
  go_wp2_with fail
  go_loopw [0, 3] (fun rv v wr => ∃ (acc : List Tk) (ρ : ByteArray), rv = .string ρ ∧ acc.length + ρ.size ≤ 1100000 ∧ Hid (T (L s) = acc ++ T (L ρ)) ∧ Hid (OwnsT wr w.heap.size v acc) ∧ Below w.heap.size w wr)
    (fun rv _ _ => strSize rv)
  case atStart => exact ⟨[], s, rfl, by simp; omega, rfl, OwnsT.nil _ _, Below.refl _ _⟩
  case round =>
    obtain ⟨acc, ρ, rfl, hlen, hT, hown, hb⟩ := hrel
    have hzw := hb.size
    by_cases hne : 0 < ρ.size
    · have hne2 : (0 : Int) < ρ.size := by omega
      have K23 := Lib.hid (rfirst_any ρ wr (by omega) hne)
      have hr : L ρ ≠ [] := by intro h; have := L_len ρ; rw [h] at this; simp at this; omega
      have hbd := tokN_bound hr
      rw [L_len] at hbd
      have HTc := Lib.hid (T_cons hr)
      unfold RTok at K23
      generalize tokK (L ρ) = k at *
      generalize tokN (L ρ) = n at *
      have HX : Hid (ρ.extract 0 n = bs ((L ρ).take n)) := take_is ρ n
      have HTn : Hid (T (L s) = (acc ++ [(k, (L ρ).take n)]) ++ T (L (ρ.extract n ρ.size))) := by
        show _ = _
        rw [hT.out, HTc.out, drop_is, L_bs, List.append_assoc]; rfl
      have hzx : (ρ.extract 0 n).size = n := by simp; omega
      have hzn : (ρ.extract n ρ.size).size = ρ.size - n := by simp
      have HM : Hid (acc.length + 1 + (ρ.extract n ρ.size).size ≤ 1100000) := by show _ ≤ _; rw [hzn]; omega
      have HMs : Hid ((ρ.extract n ρ.size).size < ρ.size) := by show _ < _; rw [hzn]; omega
      have HN : Hid (∀ X : ByteArray, X = ρ.extract 0 n → X.size = n) := fun X h => by rw [h]; exact hzx
      have b1 : (1 : Int) ≤ n := by omega
      have b2 : (n : Int) ≤ ρ.size := by omega
      have b3 : (ρ.size : Int) ≤ 1100000 := by omega
      clear hT hr HTc hzn hzx
      obtain ⟨X, hX⟩ : ∃ X, X = ρ.extract 0 n := ⟨_, rfl⟩
      have hXn := HN.out X hX
      rw [← hX] at HX K23
      clear HN hX
      obtain ⟨hbd1, hbd2⟩ := hbd
      go_wp2_with fail
      refine K23.out.mono ?_
      rintro e w2 ⟨rfl, hb2⟩
      have hb20 := hb.trans (hb2.mono hzw)
      have hy2 := hb20.size
      have HO2 : Hid (OwnsT w2 w.heap.size u3 acc) := ownsT_below hown.out hb2
      have HOW : Hid (OwnsT (w2.alloc (.cells #[.int .i64 k, .string X] 32)) w.heap.size u3 acc) := HO2.out.alloc _
      have BW : Below w.heap.size w (w2.alloc (.cells #[.int .i64 k, .string X] 32)) := hb20.alloc hy2 _
      clear K23 hown
      go_wp2_with (at_builtin; refine wpList_append_own _ rfl _ _ 24 rfl w.heap.size 32 i0 _ 2 24 Tryz.underlying24 hi hz0 hz1 hz2 rfl (by decide) _ _ _ rfl (HOW.out.alloc _) ⟨w2.heap.size + 1, 0, none⟩ 1 1 [.int .i64 k, .string X] rfl rfl (World.news_of_block (alloc_at (by simp) _)) (by simp [Value.oneCell']) (by unfold maxLen; first | omega | (simp; done)) (by first | omega | (simp; done)) (by first | omega | (simp; omega) | (simp; done)) ?_)
      intro v' w5 hown' hgrow _
      have hown5 : Hid (OwnsT w5 w.heap.size v' (acc ++ [(k, (L ρ).take n)])) := by
        show World.ownsRow _ _ _ _ _ _ _
        rw [cellsT_append, List.length_append]
        have e : cellsT [(k, (L ρ).take n)] = [.int .i64 k, .string X] := by rw [HX.out]; rfl
        rw [e]
        exact hown'
      have hb5 : Below w.heap.size w w5 := (BW.alloc (by first | omega | (simp; omega)) _).grown hgrow (by first | omega | (simp; omega)) (fun j hj => (HOW.out.lt j hj).1)
      have hblk : w5.heap[w2.heap.size]? = some (.cells #[.int .i64 k, .string X] 32 (0, 0)) := by
        rw [hgrow.block w2.heap.size (by simp; omega) (fun h => by have := (HO2.out.lt _ h.symm).2; omega), Below.heap_alloc _ _ _ (by simp)]
        exact heap_alloc_new w2 _
      have c1 : w5.cell? ⟨w2.heap.size, 1, none⟩ = some (.string X) := by rw [Lib.cell_of_heap hblk]; rfl
      clear hown' hgrow HOW HO2 hblk
      have hXi : (X.size : Int) = n := by omega
      go_wp2_with fail
      go_roundw
      case rel => exact ⟨_, _, rfl, by rw [List.length_append]; exact HM.out, HTn, hown5, hb5⟩
      case measure => exact HMs.out
    · obtain rfl : ρ = ⟨#[]⟩ := by
        have : L ρ = [] := List.eq_nil_of_length_eq_zero (by rw [L_len]; omega)
        rw [← bs_L ρ, this]; rfl
      have hT2 : Hid (T (L s) = acc) := by
        show _ = _
        rw [hT.out]
        exact List.append_nil _
      have hown2 : Hid (OwnsT wr w.heap.size u3 (T (L s))) := by rw [hT2.out]; exact hown
      clear hT hown hT2
      go_wp2_with fail
      go_ret
      exact ⟨_, rfl, hown2, hb⟩
end Go.Proofs.YtbomilleckgalaaGreat.Lx
