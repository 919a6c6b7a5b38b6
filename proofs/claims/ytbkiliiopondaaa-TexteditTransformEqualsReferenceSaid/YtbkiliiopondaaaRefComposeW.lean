/-
  Compose returns the same result and error as the reference: TexteditComposeEqualsReference, for every source and every two lists of edits; sources are cut to 300 bytes as the law cuts them.
-/
import Derived.Test.YtbkiliiopondaaaRefComp
import Derived.Test.YtbkiliiopondaaaExL
import Derived.Test.YtbkiliiopondaaaEqual
import Derived.Test.YtbkiliiopondaaaOpenR
namespace Go.Proofs.Ytbkiliiopondaaa.refCompose
open Go.RowKit

theorem equal_zero (w : World) (b : Option Addr) (c : Nat) (b' : Option Addr) (c' : Nat) : Calls Try.prog 15 #[.slice b 0 c, .slice b' 0 c'] w fun e w' => e = .returned (.bool true) ∧ Below w.heap.size w w' :=
  equal_same [] b c b' c' w (by simp) (fun i x hx => by simp at hx) (fun i x hx => by simp at hx)

theorem refapply_any (s : ByteArray) (a : Option Addr) (cap : Nat) (l : List Ed) (he : errV s.size l = 0) (W : World) (hW : Eds W W.heap.size a l) :
    Calls Try.prog 21 #[.string s, .slice a l.length cap] W fun e w' => e = .returned (.string (applyS s l)) ∧ Below W.heap.size W w' := by
  obtain ⟨hn, hl5, hsep, hfit⟩ := errV_zero he
  have hord : Ord s.size 0 l := sep_ord (p := 0) (by omega) (by omega) hsep
  have hts : tsum l ≤ 200000 := by
    have h6 := (sep_inside (by omega) hsep).dsum_le hn hl5 l.length
    rw [List.take_length] at h6
    have h8 := of_decide_eq_true hfit
    omega
  exact (refapp_any s a cap l W hord hl5 (by omega) hts hW).mono fun e w' ⟨he, n, hn⟩ => ⟨he, hn ▸ below_drewN' (Below.refl _ _) n⟩

theorem canonV_short {n : Int} {l : List Tb} (h : ¬ (50 : Int) < (canonL n l).length) : canonB n l = true ∧ canonV n l = canonL n l := by
  constructor
  · exact decide_eq_true (by omega)
  · rw [canonV, if_pos (by omega)]
theorem canonV_long {n : Int} {l : List Tb} (h : (50 : Int) < (canonL n l).length) : canonB n l = false ∧ canonV n l = [] := by
  constructor
  · exact decide_eq_false (by omega)
  · rw [canonV, if_neg (by omega)]

set_option maxHeartbeats 1000000 in
set_option maxRecDepth 100000 in
theorem bigger (s S : ByteArray) (a1 : Option Addr) (c1 : Nat) (l1 : List Ed) (a2 : Option Addr) (c2 : Nat) (l2 : List Ed) (w : World) (HS : Hid (S.size ≤ maxLen)) (HL1 : Hid (l1.length ≤ maxLen)) (HL2 : Hid (l2.length ≤ maxLen)) (HR1 : Hid (Reach l1)) (_HR2 : Hid (Reach l2)) (E0 : Hid (Eds w w.heap.size a1 l1)) (F0 : Hid (Eds w w.heap.size a2 l2)) (hle : ¬ (s.size : Int) ≤ 2000) (hSs : S = s) (he1 : errV S.size l1 ≠ 0) :
    Calls Try.prog 10 #[.string s, .slice a1 l1.length c1, .slice a2 l2.length c2] w fun e w' => e = .returned (.bool true) ∧ Below w.heap.size w w' := by
  subst hSs
  have K1 : Hid (∀ W, Eds W W.heap.size a1 l1 → Eds W W.heap.size a2 l2 → Calls Try.prog 16 #[.string S, .slice a1 l1.length c1, .slice a2 l2.length c2] W fun e w' => ∃ b c, e = .returned (.tuple #[.slice b 0 c, .int .i64 (errV S.size l1)]) ∧ Below W.heap.size W w') := fun W h1 h2 => by
    have hE : compErr S l1 l2 = errV S.size l1 := by rw [compErr, if_pos he1]
    have := compose_fails S a1 c1 l1 a2 c2 l2 (by rw [hE]; exact he1) HS.out HL1.out HL2.out W h1 h2
    rw [hE] at this
    exact this
  have K2 : Hid (∀ W, Eds W W.heap.size a1 l1 → Calls Try.prog 20 #[.string S, .slice a1 l1.length c1] W fun e w' => e = .returned (.int .i64 (errV S.size l1)) ∧ Below W.heap.size W w') := fun W hW => refval_any S a1 c1 l1 W HS.out HL1.out HR1.out hW
  generalize errV S.size l1 = v at *
  have hv1 : (v == 0) = false := by simpa using he1
  clear he1
  go_enter Try.func10, Try.ntmps10
  go_wp2_with fail
  refine (examples_law w).mono ?_
  rintro e w1 ⟨rfl, hb⟩
  have B1 := hb
  have E1 := Lib.hid (E0.out.to hb)
  have F1 := Lib.hid (F0.out.to hb)
  clear E0 F0 hb
  go_wp2_with fail
  refine (K1.out w1 E1.out F1.out).mono ?_
  rintro e w2 ⟨b1, c1, rfl, hb⟩
  have B2 := B1.trans (hb.mono B1.size)
  have E2 := Lib.hid (E1.out.to hb)
  have F2 := Lib.hid (F1.out.to hb)
  clear E1 F1 hb B1 K1
  go_wp2_with fail
  refine (K2.out w2 E2.out).mono ?_
  rintro e w3 ⟨rfl, hb⟩
  have B3 := B2.trans (hb.mono B2.size)
  clear E2 F2 hb B2 K2
  go_wp2_with fail
  refine (equal_zero w3 _ _ _ _).mono ?_
  rintro e w4 ⟨rfl, hb⟩
  have B4 := B3.trans (hb.mono B3.size)
  clear hb B3
  go_wp2_with fail
  go_ret
  exact ⟨rfl, B4⟩

set_option maxHeartbeats 1000000 in
set_option maxRecDepth 100000 in
theorem first_bad (s S : ByteArray) (a1 : Option Addr) (c1 : Nat) (l1 : List Ed) (a2 : Option Addr) (c2 : Nat) (l2 : List Ed) (w : World) (HS : Hid (S.size ≤ maxLen)) (HL1 : Hid (l1.length ≤ maxLen)) (HL2 : Hid (l2.length ≤ maxLen)) (HR1 : Hid (Reach l1)) (_HR2 : Hid (Reach l2)) (E0 : Hid (Eds w w.heap.size a1 l1)) (F0 : Hid (Eds w w.heap.size a2 l2)) (hle : (s.size : Int) ≤ 2000) (HS0 : Hid (S = s.extract 0 (min (s.size : Int) 300).toNat)) (he1 : errV S.size l1 ≠ 0) :
    Calls Try.prog 10 #[.string s, .slice a1 l1.length c1, .slice a2 l2.length c2] w fun e w' => e = .returned (.bool true) ∧ Below w.heap.size w w' := by
  have K1 : Hid (∀ W, Eds W W.heap.size a1 l1 → Eds W W.heap.size a2 l2 → Calls Try.prog 16 #[.string S, .slice a1 l1.length c1, .slice a2 l2.length c2] W fun e w' => ∃ b c, e = .returned (.tuple #[.slice b 0 c, .int .i64 (errV S.size l1)]) ∧ Below W.heap.size W w') := fun W h1 h2 => by
    have hE : compErr S l1 l2 = errV S.size l1 := by rw [compErr, if_pos he1]
    have := compose_fails S a1 c1 l1 a2 c2 l2 (by rw [hE]; exact he1) HS.out HL1.out HL2.out W h1 h2
    rw [hE] at this
    exact this
  have K2 : Hid (∀ W, Eds W W.heap.size a1 l1 → Calls Try.prog 20 #[.string S, .slice a1 l1.length c1] W fun e w' => e = .returned (.int .i64 (errV S.size l1)) ∧ Below W.heap.size W w') := fun W hW => refval_any S a1 c1 l1 W HS.out HL1.out HR1.out hW
  generalize errV S.size l1 = v at *
  have hv1 : (v == 0) = false := by simpa using he1
  clear he1
  go_enter Try.func10, Try.ntmps10
  go_wp2_with fail
  refine (examples_law w).mono ?_
  rintro e w1 ⟨rfl, hb⟩
  have B1 := hb
  have E1 := Lib.hid (E0.out.to hb)
  have F1 := Lib.hid (F0.out.to hb)
  clear E0 F0 hb
  go_wp2_with fail
  rw [← HS0.out]
  refine (K1.out w1 E1.out F1.out).mono ?_
  rintro e w2 ⟨b1, c1, rfl, hb⟩
  have B2 := B1.trans (hb.mono B1.size)
  have E2 := Lib.hid (E1.out.to hb)
  have F2 := Lib.hid (F1.out.to hb)
  clear E1 F1 hb B1 K1
  go_wp2_with fail
  refine (K2.out w2 E2.out).mono ?_
  rintro e w3 ⟨rfl, hb⟩
  have B3 := B2.trans (hb.mono B2.size)
  clear E2 F2 hb B2 K2
  go_wp2_with fail
  refine (equal_zero w3 _ _ _ _).mono ?_
  rintro e w4 ⟨rfl, hb⟩
  have B4 := B3.trans (hb.mono B3.size)
  clear hb B3
  go_wp2_with fail
  go_ret
  exact ⟨rfl, B4⟩

set_option maxHeartbeats 1000000 in
set_option maxRecDepth 100000 in
theorem second_bad (s S : ByteArray) (a1 : Option Addr) (c1 : Nat) (l1 : List Ed) (a2 : Option Addr) (c2 : Nat) (l2 : List Ed) (w : World) (HS : Hid (S.size ≤ maxLen)) (HL1 : Hid (l1.length ≤ maxLen)) (HL2 : Hid (l2.length ≤ maxLen)) (HR1 : Hid (Reach l1)) (HR2 : Hid (Reach l2)) (E0 : Hid (Eds w w.heap.size a1 l1)) (F0 : Hid (Eds w w.heap.size a2 l2)) (hle : (s.size : Int) ≤ 2000) (HS0 : Hid (S = s.extract 0 (min (s.size : Int) 300).toNat)) (he1 : errV S.size l1 = 0) (he2 : errV (applyS S l1).size l2 ≠ 0) :
    Calls Try.prog 10 #[.string s, .slice a1 l1.length c1, .slice a2 l2.length c2] w fun e w' => e = .returned (.bool true) ∧ Below w.heap.size w w' := by
  have K1 : Hid (∀ W, Eds W W.heap.size a1 l1 → Eds W W.heap.size a2 l2 → Calls Try.prog 16 #[.string S, .slice a1 l1.length c1, .slice a2 l2.length c2] W fun e w' => ∃ b c, e = .returned (.tuple #[.slice b 0 c, .int .i64 (errV (applyS S l1).size l2)]) ∧ Below W.heap.size W w') := fun W h1 h2 => by
    have hE : compErr S l1 l2 = errV (applyS S l1).size l2 := by rw [compErr, if_neg (by simp [he1]), if_pos he2]
    have := compose_fails S a1 c1 l1 a2 c2 l2 (by rw [hE]; exact he2) HS.out HL1.out HL2.out W h1 h2
    rw [hE] at this
    exact this
  have K2 : Hid (∀ W, Eds W W.heap.size a1 l1 → Calls Try.prog 20 #[.string S, .slice a1 l1.length c1] W fun e w' => e = .returned (.int .i64 0) ∧ Below W.heap.size W w') := fun W hW => by
    have := refval_any S a1 c1 l1 W HS.out HL1.out HR1.out hW
    rw [he1] at this
    exact this
  have K3 : Hid (∀ W, Eds W W.heap.size a1 l1 → Calls Try.prog 21 #[.string S, .slice a1 l1.length c1] W fun e w' => e = .returned (.string (applyS S l1)) ∧ Below W.heap.size W w') := fun W hW => refapply_any S a1 c1 l1 he1 W hW
  have hm := applyS_le he1
  have K4 : Hid (∀ W, Eds W W.heap.size a2 l2 → Calls Try.prog 20 #[.string (applyS S l1), .slice a2 l2.length c2] W fun e w' => e = .returned (.int .i64 (errV (applyS S l1).size l2)) ∧ Below W.heap.size W w') := fun W hW => refval_any (applyS S l1) a2 c2 l2 W (le_max hm) HL2.out HR2.out hW
  generalize errV (applyS S l1).size l2 = v at *
  have hv1 : (v == 0) = false := by simpa using he2
  clear he1 he2 hm
  generalize applyS S l1 = m at *
  go_enter Try.func10, Try.ntmps10
  go_wp2_with fail
  refine (examples_law w).mono ?_
  rintro e w1 ⟨rfl, hb⟩
  have B1 := hb
  have E1 := Lib.hid (E0.out.to hb)
  have F1 := Lib.hid (F0.out.to hb)
  clear E0 F0 hb
  go_wp2_with fail
  rw [← HS0.out]
  refine (K1.out w1 E1.out F1.out).mono ?_
  rintro e w2 ⟨b1, c1, rfl, hb⟩
  have B2 := B1.trans (hb.mono B1.size)
  have E2 := Lib.hid (E1.out.to hb)
  have F2 := Lib.hid (F1.out.to hb)
  clear E1 F1 hb B1 K1
  go_wp2_with fail
  refine (K2.out w2 E2.out).mono ?_
  rintro e w3 ⟨rfl, hb⟩
  have B3 := B2.trans (hb.mono B2.size)
  have E3 := Lib.hid (E2.out.to hb)
  have F3 := Lib.hid (F2.out.to hb)
  clear E2 F2 hb B2 K2
  go_wp2_with fail
  refine (K3.out w3 E3.out).mono ?_
  rintro e w4 ⟨rfl, hb⟩
  have B4 := B3.trans (hb.mono B3.size)
  have F4 := Lib.hid (F3.out.to hb)
  clear E3 F3 hb B3 K3
  go_wp2_with fail
  refine (K4.out w4 F4.out).mono ?_
  rintro e w5 ⟨rfl, hb⟩
  have B5 := B4.trans (hb.mono B4.size)
  clear F4 hb B4 K4
  go_wp2_with fail
  refine (equal_zero w5 _ _ _ _).mono ?_
  rintro e w6 ⟨rfl, hb⟩
  have B6 := B5.trans (hb.mono B5.size)
  clear hb B5
  go_wp2_with fail
  go_ret
  exact ⟨rfl, B6⟩

set_option maxHeartbeats 1000000 in
set_option maxRecDepth 100000 in
theorem too_many (s S : ByteArray) (a1 : Option Addr) (c1 : Nat) (l1 : List Ed) (a2 : Option Addr) (c2 : Nat) (l2 : List Ed) (w : World) (HS : Hid (S.size ≤ maxLen)) (HL1 : Hid (l1.length ≤ maxLen)) (HL2 : Hid (l2.length ≤ maxLen)) (HR1 : Hid (Reach l1)) (HR2 : Hid (Reach l2)) (E0 : Hid (Eds w w.heap.size a1 l1)) (F0 : Hid (Eds w w.heap.size a2 l2)) (hle : (s.size : Int) ≤ 2000) (HS0 : Hid (S = s.extract 0 (min (s.size : Int) 300).toNat)) (he1 : errV S.size l1 = 0) (he2 : errV (applyS S l1).size l2 = 0) (h50 : (50 : Int) < (compL S l1 l2).length) :
    Calls Try.prog 10 #[.string s, .slice a1 l1.length c1, .slice a2 l2.length c2] w fun e w' => e = .returned (.bool true) ∧ Below w.heap.size w w' := by
  have K1 : Hid (∀ W, Eds W W.heap.size a1 l1 → Eds W W.heap.size a2 l2 → Calls Try.prog 16 #[.string S, .slice a1 l1.length c1, .slice a2 l2.length c2] W fun e w' => ∃ b c, e = .returned (.tuple #[.slice b 0 c, .int .i64 2]) ∧ Below W.heap.size W w') := fun W h1 h2 => by
    have hE : compErr S l1 l2 = 2 := by rw [compErr, if_neg (by simp [he1]), if_neg (by simp [he2]), if_pos h50]
    have := compose_fails S a1 c1 l1 a2 c2 l2 (by rw [hE]; decide) HS.out HL1.out HL2.out W h1 h2
    rw [hE] at this
    exact this
  have K2 : Hid (∀ W, Eds W W.heap.size a1 l1 → Calls Try.prog 20 #[.string S, .slice a1 l1.length c1] W fun e w' => e = .returned (.int .i64 0) ∧ Below W.heap.size W w') := fun W hW => by
    have := refval_any S a1 c1 l1 W HS.out HL1.out HR1.out hW
    rw [he1] at this
    exact this
  have K3 : Hid (∀ W, Eds W W.heap.size a1 l1 → Calls Try.prog 21 #[.string S, .slice a1 l1.length c1] W fun e w' => e = .returned (.string (applyS S l1)) ∧ Below W.heap.size W w') := fun W hW => refapply_any S a1 c1 l1 he1 W hW
  have hm := applyS_le he1
  have K4 : Hid (∀ W, Eds W W.heap.size a2 l2 → Calls Try.prog 20 #[.string (applyS S l1), .slice a2 l2.length c2] W fun e w' => e = .returned (.int .i64 0) ∧ Below W.heap.size W w') := fun W hW => by
    have := refval_any (applyS S l1) a2 c2 l2 W (le_max hm) HL2.out HR2.out hW
    rw [he2] at this
    exact this
  have K5 : Hid (∀ W, Eds W W.heap.size a1 l1 → Eds W W.heap.size a2 l2 → Calls Try.prog 23 #[.string S, .slice a1 l1.length c1, .slice a2 l2.length c2] W fun e w' => ∃ b c, e = .returned (.tuple #[.slice b 0 c, .bool false]) ∧ Below W.heap.size W w') := fun W h1 h2 => by
    refine (refcomp_any S a1 c1 l1 a2 c2 l2 W he1 he2 h1 h2).mono ?_
    rintro e w' ⟨v, rfl, ho, hb⟩
    obtain ⟨g1, g2⟩ := canonV_long (n := S.size) (l := finalT S l1 l2) h50
    rw [g1]
    rw [g2] at ho
    obtain ⟨b, c, rfl⟩ := owns_form ho.out
    exact ⟨b, c, rfl, hb⟩
  clear he1 he2 hm h50
  generalize applyS S l1 = m at *
  go_enter Try.func10, Try.ntmps10
  go_wp2_with fail
  refine (examples_law w).mono ?_
  rintro e w1 ⟨rfl, hb⟩
  have B1 := hb
  have E1 := Lib.hid (E0.out.to hb)
  have F1 := Lib.hid (F0.out.to hb)
  clear E0 F0 hb
  go_wp2_with fail
  rw [← HS0.out]
  refine (K1.out w1 E1.out F1.out).mono ?_
  rintro e w2 ⟨b1, c1, rfl, hb⟩
  have B2 := B1.trans (hb.mono B1.size)
  have E2 := Lib.hid (E1.out.to hb)
  have F2 := Lib.hid (F1.out.to hb)
  clear E1 F1 hb B1 K1
  go_wp2_with fail
  refine (K2.out w2 E2.out).mono ?_
  rintro e w3 ⟨rfl, hb⟩
  have B3 := B2.trans (hb.mono B2.size)
  have E3 := Lib.hid (E2.out.to hb)
  have F3 := Lib.hid (F2.out.to hb)
  clear E2 F2 hb B2 K2
  go_wp2_with fail
  refine (K3.out w3 E3.out).mono ?_
  rintro e w4 ⟨rfl, hb⟩
  have B4 := B3.trans (hb.mono B3.size)
  have E4 := Lib.hid (E3.out.to hb)
  have F4 := Lib.hid (F3.out.to hb)
  clear E3 F3 hb B3 K3
  go_wp2_with fail
  refine (K4.out w4 F4.out).mono ?_
  rintro e w5 ⟨rfl, hb⟩
  have B5 := B4.trans (hb.mono B4.size)
  have E5 := Lib.hid (E4.out.to hb)
  have F5 := Lib.hid (F4.out.to hb)
  clear E4 F4 hb B4 K4
  go_wp2_with fail
  refine (K5.out w5 E5.out F5.out).mono ?_
  rintro e w6 ⟨b2, c2, rfl, hb⟩
  have B6 := B5.trans (hb.mono B5.size)
  clear E5 F5 hb B5 K5
  go_wp2_with fail
  refine (equal_zero w6 _ _ _ _).mono ?_
  rintro e w7 ⟨rfl, hb⟩
  have B7 := B6.trans (hb.mono B6.size)
  clear hb B6
  go_wp2_with fail
  go_ret
  exact ⟨rfl, B7⟩

set_option maxHeartbeats 1000000 in
set_option maxRecDepth 100000 in
theorem all_good (s S : ByteArray) (a1 : Option Addr) (c1 : Nat) (l1 : List Ed) (a2 : Option Addr) (c2 : Nat) (l2 : List Ed) (w : World) (HS : Hid (S.size ≤ maxLen)) (HL1 : Hid (l1.length ≤ maxLen)) (HL2 : Hid (l2.length ≤ maxLen)) (HR1 : Hid (Reach l1)) (HR2 : Hid (Reach l2)) (E0 : Hid (Eds w w.heap.size a1 l1)) (F0 : Hid (Eds w w.heap.size a2 l2)) (hle : (s.size : Int) ≤ 2000) (HS0 : Hid (S = s.extract 0 (min (s.size : Int) 300).toNat)) (he1 : errV S.size l1 = 0) (he2 : errV (applyS S l1).size l2 = 0) (h50 : ¬ (50 : Int) < (compL S l1 l2).length) :
    Calls Try.prog 10 #[.string s, .slice a1 l1.length c1, .slice a2 l2.length c2] w fun e w' => e = .returned (.bool true) ∧ Below w.heap.size w w' := by
  have hce : compErr S l1 l2 = 0 := by rw [compErr, if_neg (by simp [he1]), if_neg (by simp [he2]), if_neg h50]
  have K1 := Lib.hid (compose_zero S a1 c1 l1 a2 c2 l2 hce HS.out HL1.out HL2.out)
  have K2 : Hid (∀ W, Eds W W.heap.size a1 l1 → Calls Try.prog 20 #[.string S, .slice a1 l1.length c1] W fun e w' => e = .returned (.int .i64 0) ∧ Below W.heap.size W w') := fun W hW => by
    have := refval_any S a1 c1 l1 W HS.out HL1.out HR1.out hW
    rw [he1] at this
    exact this
  have K3 : Hid (∀ W, Eds W W.heap.size a1 l1 → Calls Try.prog 21 #[.string S, .slice a1 l1.length c1] W fun e w' => e = .returned (.string (applyS S l1)) ∧ Below W.heap.size W w') := fun W hW => refapply_any S a1 c1 l1 he1 W hW
  have hm := applyS_le he1
  have K4 : Hid (∀ W, Eds W W.heap.size a2 l2 → Calls Try.prog 20 #[.string (applyS S l1), .slice a2 l2.length c2] W fun e w' => e = .returned (.int .i64 0) ∧ Below W.heap.size W w') := fun W hW => by
    have := refval_any (applyS S l1) a2 c2 l2 W (le_max hm) HL2.out HR2.out hW
    rw [he2] at this
    exact this
  have K5 : Hid (∀ W, Eds W W.heap.size a1 l1 → Eds W W.heap.size a2 l2 → Calls Try.prog 23 #[.string S, .slice a1 l1.length c1, .slice a2 l2.length c2] W fun e w' => ∃ b c, e = .returned (.tuple #[.slice b (compL S l1 l2).length c, .bool true]) ∧ Hid (Eds w' w'.heap.size b (compL S l1 l2)) ∧ Below W.heap.size W w') := fun W h1 h2 => by
    refine (refcomp_any S a1 c1 l1 a2 c2 l2 W he1 he2 h1 h2).mono ?_
    rintro e w' ⟨v, rfl, ho, hb⟩
    obtain ⟨g1, g2⟩ := canonV_short (n := S.size) (l := finalT S l1 l2) h50
    rw [g1]
    rw [g2] at ho
    obtain ⟨b, c, rfl, hE⟩ := ho.out.eds (valid_ok (by omega) (comp_valid hce).1)
    exact ⟨b, c, rfl, hE, hb⟩
  have K6 := Lib.hid (fun b c b' c' W => equal_same (compL S l1 l2) b c b' c' W (by omega))
  clear he1 he2 hm h50 hce
  generalize applyS S l1 = m at *
  generalize compL S l1 l2 = n at *
  generalize hnl : n.length = nl at *
  clear hnl
  go_enter Try.func10, Try.ntmps10
  go_wp2_with fail
  refine (examples_law w).mono ?_
  rintro e w1 ⟨rfl, hb⟩
  have B1 := hb
  have E1 := Lib.hid (E0.out.to hb)
  have F1 := Lib.hid (F0.out.to hb)
  clear E0 F0 hb
  go_wp2_with fail
  rw [← HS0.out]
  refine (K1.out w1 E1.out F1.out).mono ?_
  rintro e w2 ⟨b1, c1, rfl, G2, hb⟩
  have B2 := B1.trans (hb.mono B1.size)
  have E2 := Lib.hid (E1.out.to hb)
  have F2 := Lib.hid (F1.out.to hb)
  clear E1 F1 hb B1 K1
  go_wp2_with fail
  refine (K2.out w2 E2.out).mono ?_
  rintro e w3 ⟨rfl, hb⟩
  have B3 := B2.trans (hb.mono B2.size)
  have E3 := Lib.hid (E2.out.to hb)
  have F3 := Lib.hid (F2.out.to hb)
  have G3 := Lib.hid (G2.out.to hb)
  clear E2 F2 G2 hb B2 K2
  go_wp2_with fail
  refine (K3.out w3 E3.out).mono ?_
  rintro e w4 ⟨rfl, hb⟩
  have B4 := B3.trans (hb.mono B3.size)
  have E4 := Lib.hid (E3.out.to hb)
  have F4 := Lib.hid (F3.out.to hb)
  have G4 := Lib.hid (G3.out.to hb)
  clear E3 F3 G3 hb B3 K3
  go_wp2_with fail
  refine (K4.out w4 F4.out).mono ?_
  rintro e w5 ⟨rfl, hb⟩
  have B5 := B4.trans (hb.mono B4.size)
  have E5 := Lib.hid (E4.out.to hb)
  have F5 := Lib.hid (F4.out.to hb)
  have G5 := Lib.hid (G4.out.to hb)
  clear E4 F4 G4 hb B4 K4
  go_wp2_with fail
  refine (K5.out w5 E5.out F5.out).mono ?_
  rintro e w6 ⟨b2, c2, rfl, H6, hb⟩
  have B6 := B5.trans (hb.mono B5.size)
  have G6 := Lib.hid (G5.out.to hb)
  clear E5 F5 G5 hb B5 K5
  go_wp2_with fail
  refine (K6.out b1 c1 b2 c2 w6 G6.out H6.out).mono ?_
  rintro e w7 ⟨rfl, hb⟩
  have B7 := B6.trans (hb.mono B6.size)
  clear G6 H6 hb B6 K6
  go_wp2_with fail
  go_ret
  exact ⟨rfl, B7⟩

theorem walk (s : ByteArray) (a1 : Option Addr) (c1 : Nat) (l1 : List Ed) (a2 : Option Addr) (c2 : Nat) (l2 : List Ed) (w : World) (hs : s.size ≤ maxLen) (hl1 : l1.length ≤ maxLen) (hl2 : l2.length ≤ maxLen) (hr1 : Reach l1) (hr2 : Reach l2) (h1 : Eds w w.heap.size a1 l1) (h2 : Eds w w.heap.size a2 l2) :
    Calls Try.prog 10 #[.string s, .slice a1 l1.length c1, .slice a2 l2.length c2] w fun e w' => e = .returned (.bool true) ∧ Below w.heap.size w w' := by
  by_cases hle : (s.size : Int) ≤ 2000
  · have hS : (s.extract 0 (min (s.size : Int) 300).toNat).size ≤ maxLen := by rw [ByteArray.size_extract]; omega
    by_cases he1 : errV (s.extract 0 (min (s.size : Int) 300).toNat).size l1 = 0
    · by_cases he2 : errV (applyS (s.extract 0 (min (s.size : Int) 300).toNat) l1).size l2 = 0
      · by_cases h50 : (50 : Int) < (compL (s.extract 0 (min (s.size : Int) 300).toNat) l1 l2).length
        · exact too_many s _ a1 c1 l1 a2 c2 l2 w hS hl1 hl2 hr1 hr2 h1 h2 hle rfl he1 he2 h50
        · exact all_good s _ a1 c1 l1 a2 c2 l2 w hS hl1 hl2 hr1 hr2 h1 h2 hle rfl he1 he2 h50
      · exact second_bad s _ a1 c1 l1 a2 c2 l2 w hS hl1 hl2 hr1 hr2 h1 h2 hle rfl he1 he2
    · exact first_bad s _ a1 c1 l1 a2 c2 l2 w hS hl1 hl2 hr1 hr2 h1 h2 hle rfl he1
  · exact bigger s s a1 c1 l1 a2 c2 l2 w hs hl1 hl2 hr1 hr2 h1 h2 hle rfl (by unfold errV; rw [if_pos (Or.inl (by omega))]; decide)
end Go.Proofs.Ytbkiliiopondaaa.refCompose
