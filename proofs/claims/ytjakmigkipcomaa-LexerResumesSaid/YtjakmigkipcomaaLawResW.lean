/-
  Tokenizing can start at every token's start: LexerResumes's walk, for every source and every number.
-/
import Derived.Test.YtjakmigkipcomaaEx
import Derived.Test.YtjakmigkipcomaaKeep
namespace Go.Proofs.Ytjakmigkipcomaa.lawRes
open Go.RowKit

set_option maxHeartbeats 1000000 in
set_option maxRecDepth 100000 in
theorem walk_long (s : ByteArray) (n : Int) (w : World) (hs : s.size ≤ maxLen) (hl : 2000 < s.size) : Calls Try.prog 5 #[.string s, .int .i64 n] w fun e w' => e = .returned (.bool true) ∧ Below w.heap.size w w' := by
  have g0 : (2000 : Int) < s.size := by omega
  have g1 : (s.size : Int) ≤ 9223372036854775807 := by unfold maxLen at hs; omega
  have K8 := Lib.hid (fun W => tokenize_long s W hl hs)
  clear hs hl
  go_enter Try.func5, Try.ntmps5
  go_wp2_with fail
  refine (ex_keep w).mono ?_
  rintro e w1 ⟨rfl, hb1⟩
  go_wp2_with fail
  refine (K8.out w1).mono ?_
  rintro e w2 ⟨rfl, rfl⟩
  go_wp2_with fail
  refine (ex_keep _).mono ?_
  rintro e w3 ⟨rfl, hb3⟩
  have B3 := hb1.trans (hb3.mono hb1.size)
  go_wp2_with fail
  go_ret
  exact ⟨rfl, B3⟩

set_option maxHeartbeats 1000000 in
set_option maxRecDepth 100000 in
theorem walk_none (s : ByteArray) (n : Int) (w : World) (hl : s.size ≤ 2000) (h0 : Hid (T (L s) = [])) : Calls Try.prog 5 #[.string s, .int .i64 n] w fun e w' => e = .returned (.bool true) ∧ Below w.heap.size w w' := by
  have K8 := Lib.hid (fun W => tokenize_any s W hl)
  unfold Toks at K8
  rw [h0.out] at K8
  go_enter Try.func5, Try.ntmps5
  go_wp2_with fail
  refine (ex_keep w).mono ?_
  rintro e w1 ⟨rfl, hb1⟩
  go_wp2_with fail
  refine (K8.out w1).mono ?_
  rintro e w2 ⟨v, rfl, ho2, hb2⟩
  have B2 := hb1.trans (hb2.mono hb1.size)
  obtain ⟨a, cap, rfl, hcap, _, _⟩ := ho2.out.tks
  clear K8 ho2 hb1 hb2
  go_wp2_with fail
  refine (ex_keep w2).mono ?_
  rintro e w3 ⟨rfl, hb3⟩
  have B3 := B2.trans (hb3.mono B2.size)
  go_wp2_with fail
  go_ret
  exact ⟨rfl, B3⟩

theorem glue_drop (l : List Tk) (k : Nat) : (glue (l.drop k)).length ≤ (glue l).length := by
  have : glue l = glue (l.take k) ++ glue (l.drop k) := by
    unfold glue
    rw [← List.flatMap_append, List.take_append_drop]
  rw [this, List.length_append]; omega

theorem source_n (n : Nat) (l : List Tk) (a : Option Addr) (cap : Nat) (w : World) (hn : n = l.length) (hl : l.length ≤ 100000) (hg : (glue l).length ≤ 50000) (h : Tks w w.heap.size a l) :
    Calls Try.prog 16 #[.slice a n cap] w fun e w' => e = .returned (.string (bs (glue l))) ∧ Below w.heap.size w w' := by
  subst hn
  exact source_any l a cap w hl hg h

theorem equal_n (n : Nat) (l : List Tk) (a1 : Option Addr) (c1 : Nat) (a2 : Option Addr) (c2 : Nat) (w : World) (hn : n = l.length) (hl : l.length ≤ 1000000) (h1 : Tks w w.heap.size a1 l) (h2 : Tks w w.heap.size a2 l) :
    Calls Try.prog 11 #[.slice a1 n c1, .slice a2 n c2] w fun e w' => e = .returned (.bool true) ∧ Below w.heap.size w w' := by
  subst hn
  exact equal_toks l a1 c1 a2 c2 w hl h1 h2

set_option maxHeartbeats 2000000 in
set_option maxRecDepth 100000 in
theorem walk_some (s : ByteArray) (n : Int) (w : World) (hl : s.size ≤ 2000) (hn : -9223372036854775808 ≤ n ∧ n ≤ 9223372036854775807) (h0 : Hid (T (L s) ≠ [])) : Calls Try.prog 5 #[.string s, .int .i64 n] w fun e w' => e = .returned (.bool true) ∧ Below w.heap.size w w' := by
  have K8 := Lib.hid (fun W => tokenize_any s W hl)
  have hlen := T_length _ (L s) (Nat.le_refl _)
  rw [L_len] at hlen
  have HG : Hid (glue (T (L s)) = L s) := glue_T _ (L s) (Nat.le_refl _)
  have HR := Lib.hid (fun k => T_resumes k (L s))
  unfold Toks at K8
  generalize T (L s) = l at *
  have hpos : 1 ≤ l.length := List.length_pos_iff.2 h0.out
  have HGl : Hid ((glue l).length ≤ 2000) := by show _ ≤ _; rw [HG.out, L_len]; exact hl
  have hi1 : (1 : Int) ≤ l.length := by omega
  have hi2 : (l.length : Int) ≤ 2000 := by omega
  have hi3 : ((l.length : Int) == 0) = false := by simpa using h0.out
  have KM := Lib.hid (fun W => mod_any n (l.length + 1) W (by omega) (by omega) hn)
  rw [show ((l.length + 1 : Nat) : Int) = (l.length : Int) + 1 from by omega] at KM
  clear HG hn
  go_enter Try.func5, Try.ntmps5
  go_wp2_with fail
  refine (ex_keep w).mono ?_
  rintro e w1 ⟨rfl, hb1⟩
  go_wp2_with fail
  refine (K8.out w1).mono ?_
  rintro e w2 ⟨v, rfl, ho2, hb2⟩
  have B2 := hb1.trans (hb2.mono hb1.size)
  obtain ⟨a, cap, rfl, hcap, ht, hsome⟩ := ho2.out.tks
  obtain ⟨b, o, rfl⟩ := hsome h0.out
  have HT := Lib.hid ht
  clear K8 ho2 hb1 hb2 ht hsome
  have hc1 : (l.length : Int) ≤ cap := by omega
  go_wp2_with fail
  refine (KM.out w2).mono ?_
  rintro e w3 ⟨k, rfl, hk, rfl⟩
  have HT3 := HT
  have B3 := B2
  have hk1 : (k : Int) ≤ l.length := by omega
  have hk2 : (k : Int) ≤ cap := by omega
  by_cases hkc : k < cap
  · have hk3 : (k : Int) < cap := by omega
    have HD := Lib.hid (HT3.out.drop k)
    clear HT3 HT B2
    go_wp2_with fail
    refine ((source_n _ (l.drop k) _ _ w3 (by rw [List.length_drop]) (by rw [List.length_drop]; omega) (by have := glue_drop l k; have := HGl.out; omega) HD.out)).mono ?_
    rintro e w4 ⟨rfl, hb4⟩
    have B4 := B3.trans (hb4.mono B3.size)
    have HD4 := Lib.hid (HD.out.to hb4)
    have K8' := Lib.hid (tokenize_any (bs (glue (l.drop k))) w4 (by rw [bs_size]; have := glue_drop l k; have := HGl.out; omega))
    unfold Toks at K8'
    rw [L_bs, HR.out k] at K8'
    generalize bs (glue (l.drop k)) = q at *
    clear B3 HD hb4
    go_wp2_with fail
    refine K8'.out.mono ?_
    rintro e w5 ⟨v5, rfl, ho5, hb5⟩
    have B5 := B4.trans (hb5.mono B4.size)
    have HD5 := Lib.hid (HD4.out.to hb5)
    obtain ⟨a5, cap5, rfl, hcap5, ht5, _⟩ := ho5.out.tks
    have HE5 := Lib.hid ht5
    rw [List.length_drop] at hcap5
    clear K8' ho5 hb5 B4 HD4 ht5
    rw [List.length_drop]
    go_wp2_with fail
    refine (ex_keep w5).mono ?_
    rintro e w6 ⟨rfl, hb6⟩
    have B6 := B5.trans (hb6.mono B5.size)
    have HD6 := Lib.hid (HD5.out.to hb6)
    have HE6 := Lib.hid (HE5.out.to hb6)
    clear B5 HD5 HE5 hb6
    go_wp2_with fail
    refine ((equal_n _ (l.drop k) _ _ _ _ w6 (by rw [List.length_drop]) (by rw [List.length_drop]; omega) HE6.out HD6.out)).mono ?_
    rintro e w7 ⟨rfl, hb7⟩
    have B7 := B6.trans (hb7.mono B6.size)
    clear B6 HD6 HE6 hb7
    go_wp2_with fail
    go_ret
    exact ⟨rfl, B7⟩
  · obtain rfl : cap = l.length := by omega
    obtain rfl : k = l.length := by omega
    have HD : Hid (Tks w3 w3.heap.size (some ⟨b, o, none⟩) (l.drop l.length)) := by show Tks _ _ _ _; rw [List.drop_length]; exact Tks.nil
    clear HT3 HT B2
    go_wp2_with fail
    refine ((source_n _ (l.drop l.length) _ _ w3 (by rw [List.length_drop]; omega) (by rw [List.length_drop]; omega) (by have := glue_drop l l.length; have := HGl.out; omega) HD.out)).mono ?_
    rintro e w4 ⟨rfl, hb4⟩
    have B4 := B3.trans (hb4.mono B3.size)
    have HD4 := Lib.hid (HD.out.to hb4)
    have K8' := Lib.hid (tokenize_any (bs (glue (l.drop l.length))) w4 (by rw [bs_size]; have := glue_drop l l.length; have := HGl.out; omega))
    unfold Toks at K8'
    rw [L_bs, HR.out l.length] at K8'
    generalize bs (glue (l.drop l.length)) = q at *
    clear B3 HD hb4
    go_wp2_with fail
    refine K8'.out.mono ?_
    rintro e w5 ⟨v5, rfl, ho5, hb5⟩
    have B5 := B4.trans (hb5.mono B4.size)
    have HD5 := Lib.hid (HD4.out.to hb5)
    obtain ⟨a5, cap5, rfl, hcap5, ht5, _⟩ := ho5.out.tks
    have HE5 := Lib.hid ht5
    rw [List.length_drop] at hcap5
    clear K8' ho5 hb5 B4 HD4 ht5
    rw [List.length_drop]
    go_wp2_with fail
    refine (ex_keep w5).mono ?_
    rintro e w6 ⟨rfl, hb6⟩
    have B6 := B5.trans (hb6.mono B5.size)
    have HD6 := Lib.hid (HD5.out.to hb6)
    have HE6 := Lib.hid (HE5.out.to hb6)
    clear B5 HD5 HE5 hb6
    go_wp2_with fail
    refine ((equal_n _ (l.drop l.length) _ _ _ _ w6 (by rw [List.length_drop]; omega) (by rw [List.length_drop]; omega) HE6.out HD6.out)).mono ?_
    rintro e w7 ⟨rfl, hb7⟩
    have B7 := B6.trans (hb7.mono B6.size)
    clear B6 HD6 HE6 hb7
    go_wp2_with fail
    go_ret
    exact ⟨rfl, B7⟩
theorem walk (s : ByteArray) (n : Int) (w : World) (hs : s.size ≤ maxLen) (hn : -9223372036854775808 ≤ n ∧ n ≤ 9223372036854775807) : Calls Try.prog 5 #[.string s, .int .i64 n] w fun e w' => e = .returned (.bool true) ∧ Below w.heap.size w w' := by
  by_cases h : s.size ≤ 2000
  · by_cases h0 : T (L s) = []
    · exact walk_none s n w h h0
    · exact walk_some s n w h hn h0
  · exact walk_long s n w hs (by omega)
end Go.Proofs.Ytjakmigkipcomaa.lawRes
