/-
  Transform returns the same results and error as the reference: TexteditTransformEqualsReference, for every source and every two lists of edits; sources are cut to 300 bytes as the law cuts them.
-/
import Derived.Test.YtbkiliiopondaaaRefMerge
import Derived.Test.YtbkiliiopondaaaRefComposeW
namespace Go.Proofs.Ytbkiliiopondaaa.refTransform
open Go.RowKit
open Go.Proofs.Ytbkiliiopondaaa.refCompose

theorem _root_.Go.Proofs.Ytbkiliiopondaaa.Tbs.to {w w' : World} {a : Option Addr} {l : List Tb} (h : Tbs w w.heap.size a l) (hb : Below w.heap.size w w') : Tbs w' w'.heap.size a l := (h.below hb).up hb.size

theorem flat_mo {src : List UInt8} {L R : List Ed} (m : Nat) : (flat (mo src L R) 0 m).length ≤ (flat (off src L) 0 m).length + (flat (off src R) 0 m).length := by
  induction m with
  | zero => simp [flat]
  | succ m ih =>
    rw [flat_succ, flat_succ, flat_succ, List.length_append, List.length_append, List.length_append]
    have : (mo src L R (0 + m)).length ≤ (off src L (0 + m)).length + (off src R (0 + m)).length := by
      simp only [mo, off, List.length_append]
      cases delF L (0 + m) <;> cases delF R (0 + m) <;> simp <;> omega
    omega

theorem mrg_facts {S : ByteArray} {L R : List Ed} (h1 : errV S.size L = 0) (h2 : errV S.size R = 0) :
    (mrgS S L R).rl = (applyS S R).size ∧ (mrgS S L R).ll = (applyS S L).size ∧ Rising (applyS S R).size 0 (mrgS S L R).fr ∧ Rising (applyS S L).size 0 (mrgS S L R).fl ∧
      (∀ x, x ∈ (mrgS S L R).fr → -1 ≤ x.o) ∧ (∀ x, x ∈ (mrgS S L R).fl → -1 ≤ x.o) ∧ (mrgS S L R).fr.length ≤ 4000 ∧ (mrgS S L R).fl.length ≤ 4000 := by
  obtain ⟨_, _, hsL, _⟩ := errV_zero h1
  obtain ⟨_, _, hsR, _⟩ := errV_zero h2
  have e := str_length S
  have fL := flat_all (src := S.data.toList) (l := L) (by rw [e]; exact hsL)
  have fR := flat_all (src := S.data.toList) (l := R) (by rw [e]; exact hsR)
  obtain ⟨a1, a2, ⟨a3, a4⟩, a5, a6⟩ := mrg_all (src := S.data.toList) (L := L) (R := R) (S.size + 1) (by rw [e]; omega)
  have hmo := flat_mo (src := S.data.toList) (L := L) (R := R) (S.size + 1)
  rw [e] at fL fR
  rw [fL] at a3 a4 hmo
  rw [fR] at a5 a6 hmo
  have zL := applyS_le h1
  have zR := applyS_le h2
  rw [applyS_size] at zL zR
  have q1 := congrArg List.length a1
  have q2 := congrArg List.length a2
  rw [List.length_map] at q1 q2
  obtain ⟨_, _, o1, o2⟩ := mrg_or S.data.toList L R (S.size + 1)
  have r1 := good_rising (p := 0) (by omega) a5 (fun x hx ho => (a5.2 x hx ho).1)
  have r2 := good_rising (p := 0) (by omega) a3 (fun x hx ho => (a3.2 x hx ho).1)
  rw [applyS_size, applyS_size]
  exact ⟨a6, a4, r1, r2, fun x hx => (o2 x hx).1, fun x hx => (o1 x hx).1, by show (mrg _ _ _ _).fr.length ≤ _; omega, by show (mrg _ _ _ _).fl.length ≤ _; omega⟩

set_option maxHeartbeats 1000000 in
set_option maxRecDepth 100000 in
theorem bigger (s S : ByteArray) (a1 : Option Addr) (c1 : Nat) (L : List Ed) (a2 : Option Addr) (c2 : Nat) (R : List Ed) (w : World) (HS : Hid (S.size ≤ maxLen)) (HL1 : Hid (L.length ≤ maxLen)) (HL2 : Hid (R.length ≤ maxLen)) (HR1 : Hid (Reach L)) (_HR2 : Hid (Reach R)) (E0 : Hid (Eds w w.heap.size a1 L)) (F0 : Hid (Eds w w.heap.size a2 R)) (hle : ¬ (s.size : Int) ≤ 2000) (hSs : S = s) (he1 : errV S.size L ≠ 0) :
    Calls Try.prog 11 #[.string s, .slice a1 L.length c1, .slice a2 R.length c2] w fun e w' => e = .returned (.bool true) ∧ Below w.heap.size w w' := by
  subst hSs
  have K1 : Hid (∀ W, Eds W W.heap.size a1 L → Eds W W.heap.size a2 R → Calls Try.prog 17 #[.string S, .slice a1 L.length c1, .slice a2 R.length c2] W fun e w' => ∃ b c b' c', e = .returned (.tuple #[.slice b 0 c, .slice b' 0 c', .int .i64 (errV S.size L)]) ∧ Below W.heap.size W w') := fun W h1 h2 => by
    have hE : trErr S L R = errV S.size L := by rw [trErr, if_pos he1]
    have := transform_fails S a1 c1 L a2 c2 R (by rw [hE]; exact he1) HS.out HL1.out HL2.out W h1 h2
    rw [hE] at this
    exact this
  have K2 : Hid (∀ W, Eds W W.heap.size a1 L → Calls Try.prog 20 #[.string S, .slice a1 L.length c1] W fun e w' => e = .returned (.int .i64 (errV S.size L)) ∧ Below W.heap.size W w') := fun W hW => by
    have := refval_any S a1 c1 L W HS.out HL1.out HR1.out hW
    exact this
  generalize errV S.size L = v at *
  have hv1 : (v == 0) = false := by simpa using he1
  clear he1
  go_enter Try.func11, Try.ntmps11
  go_wp2_with fail
  refine (examples_law w).mono ?_
  rintro e w1 ⟨rfl, hb⟩
  have B1 := hb
  have E1 := Lib.hid (E0.out.to hb)
  have F1 := Lib.hid (F0.out.to hb)
  clear E0 F0 hb
  go_wp2_with fail
  refine (K1.out w1 E1.out F1.out).mono ?_
  rintro e w2 ⟨b1, c1, b2, c2, rfl, hb⟩
  have B2 := B1.trans (hb.mono B1.size)
  have E2 := Lib.hid (E1.out.to hb)
  have F2 := Lib.hid (F1.out.to hb)
  clear E1 F1 hb B1 K1
  go_wp2_with fail
  refine (K2.out w2 E2.out).mono ?_
  rintro e w3 ⟨rfl, hb⟩
  have B3 := B2.trans (hb.mono B2.size)
  clear E2 F2 hb B2 K2
  go_wp2_with fail
  refine (equal_zero w3 _ _ _ _).mono ?_
  rintro e w4 ⟨rfl, hb⟩
  have B4 := B3.trans (hb.mono B3.size)
  clear hb B3
  go_wp2_with fail
  refine (equal_zero w4 _ _ _ _).mono ?_
  rintro e w5 ⟨rfl, hb⟩
  have B5 := B4.trans (hb.mono B4.size)
  clear hb B4
  go_wp2_with fail
  go_ret
  exact ⟨rfl, B5⟩

set_option maxHeartbeats 1000000 in
set_option maxRecDepth 100000 in
theorem first_bad (s S : ByteArray) (a1 : Option Addr) (c1 : Nat) (L : List Ed) (a2 : Option Addr) (c2 : Nat) (R : List Ed) (w : World) (HS : Hid (S.size ≤ maxLen)) (HL1 : Hid (L.length ≤ maxLen)) (HL2 : Hid (R.length ≤ maxLen)) (HR1 : Hid (Reach L)) (_HR2 : Hid (Reach R)) (E0 : Hid (Eds w w.heap.size a1 L)) (F0 : Hid (Eds w w.heap.size a2 R)) (hle : (s.size : Int) ≤ 2000) (HS0 : Hid (S = s.extract 0 (min (s.size : Int) 300).toNat)) (he1 : errV S.size L ≠ 0) :
    Calls Try.prog 11 #[.string s, .slice a1 L.length c1, .slice a2 R.length c2] w fun e w' => e = .returned (.bool true) ∧ Below w.heap.size w w' := by
  have K1 : Hid (∀ W, Eds W W.heap.size a1 L → Eds W W.heap.size a2 R → Calls Try.prog 17 #[.string S, .slice a1 L.length c1, .slice a2 R.length c2] W fun e w' => ∃ b c b' c', e = .returned (.tuple #[.slice b 0 c, .slice b' 0 c', .int .i64 (errV S.size L)]) ∧ Below W.heap.size W w') := fun W h1 h2 => by
    have hE : trErr S L R = errV S.size L := by rw [trErr, if_pos he1]
    have := transform_fails S a1 c1 L a2 c2 R (by rw [hE]; exact he1) HS.out HL1.out HL2.out W h1 h2
    rw [hE] at this
    exact this
  have K2 : Hid (∀ W, Eds W W.heap.size a1 L → Calls Try.prog 20 #[.string S, .slice a1 L.length c1] W fun e w' => e = .returned (.int .i64 (errV S.size L)) ∧ Below W.heap.size W w') := fun W hW => by
    have := refval_any S a1 c1 L W HS.out HL1.out HR1.out hW
    exact this
  generalize errV S.size L = v at *
  have hv1 : (v == 0) = false := by simpa using he1
  clear he1
  go_enter Try.func11, Try.ntmps11
  go_wp2_with fail
  refine (examples_law w).mono ?_
  rintro e w1 ⟨rfl, hb⟩
  have B1 := hb
  have E1 := Lib.hid (E0.out.to hb)
  have F1 := Lib.hid (F0.out.to hb)
  clear E0 F0 hb
  go_wp2_with fail
  rw [← HS0.out]
  refine (K1.out w1 E1.out F1.out).mono ?_
  rintro e w2 ⟨b1, c1, b2, c2, rfl, hb⟩
  have B2 := B1.trans (hb.mono B1.size)
  have E2 := Lib.hid (E1.out.to hb)
  have F2 := Lib.hid (F1.out.to hb)
  clear E1 F1 hb B1 K1
  go_wp2_with fail
  refine (K2.out w2 E2.out).mono ?_
  rintro e w3 ⟨rfl, hb⟩
  have B3 := B2.trans (hb.mono B2.size)
  clear E2 F2 hb B2 K2
  go_wp2_with fail
  refine (equal_zero w3 _ _ _ _).mono ?_
  rintro e w4 ⟨rfl, hb⟩
  have B4 := B3.trans (hb.mono B3.size)
  clear hb B3
  go_wp2_with fail
  refine (equal_zero w4 _ _ _ _).mono ?_
  rintro e w5 ⟨rfl, hb⟩
  have B5 := B4.trans (hb.mono B4.size)
  clear hb B4
  go_wp2_with fail
  go_ret
  exact ⟨rfl, B5⟩

set_option maxHeartbeats 1000000 in
set_option maxRecDepth 100000 in
theorem second_bad (s S : ByteArray) (a1 : Option Addr) (c1 : Nat) (L : List Ed) (a2 : Option Addr) (c2 : Nat) (R : List Ed) (w : World) (HS : Hid (S.size ≤ maxLen)) (HL1 : Hid (L.length ≤ maxLen)) (HL2 : Hid (R.length ≤ maxLen)) (HR1 : Hid (Reach L)) (HR2 : Hid (Reach R)) (E0 : Hid (Eds w w.heap.size a1 L)) (F0 : Hid (Eds w w.heap.size a2 R)) (hle : (s.size : Int) ≤ 2000) (HS0 : Hid (S = s.extract 0 (min (s.size : Int) 300).toNat)) (he1 : errV S.size L = 0) (he2 : errV S.size R ≠ 0) :
    Calls Try.prog 11 #[.string s, .slice a1 L.length c1, .slice a2 R.length c2] w fun e w' => e = .returned (.bool true) ∧ Below w.heap.size w w' := by
  have K1 : Hid (∀ W, Eds W W.heap.size a1 L → Eds W W.heap.size a2 R → Calls Try.prog 17 #[.string S, .slice a1 L.length c1, .slice a2 R.length c2] W fun e w' => ∃ b c b' c', e = .returned (.tuple #[.slice b 0 c, .slice b' 0 c', .int .i64 (errV S.size R)]) ∧ Below W.heap.size W w') := fun W h1 h2 => by
    have hE : trErr S L R = errV S.size R := by rw [trErr, if_neg (by simp [he1]), if_pos he2]
    have := transform_fails S a1 c1 L a2 c2 R (by rw [hE]; exact he2) HS.out HL1.out HL2.out W h1 h2
    rw [hE] at this
    exact this
  have K2 : Hid (∀ W, Eds W W.heap.size a1 L → Calls Try.prog 20 #[.string S, .slice a1 L.length c1] W fun e w' => e = .returned (.int .i64 (0)) ∧ Below W.heap.size W w') := fun W hW => by
    have := refval_any S a1 c1 L W HS.out HL1.out HR1.out hW
    rw [he1] at this
    exact this
  have K3 : Hid (∀ W, Eds W W.heap.size a2 R → Calls Try.prog 20 #[.string S, .slice a2 R.length c2] W fun e w' => e = .returned (.int .i64 (errV S.size R)) ∧ Below W.heap.size W w') := fun W hW => by
    have := refval_any S a2 c2 R W HS.out HL2.out HR2.out hW
    exact this
  generalize errV S.size R = v at *
  have hv1 : (v == 0) = false := by simpa using he2
  clear he1 he2
  go_enter Try.func11, Try.ntmps11
  go_wp2_with fail
  refine (examples_law w).mono ?_
  rintro e w1 ⟨rfl, hb⟩
  have B1 := hb
  have E1 := Lib.hid (E0.out.to hb)
  have F1 := Lib.hid (F0.out.to hb)
  clear E0 F0 hb
  go_wp2_with fail
  rw [← HS0.out]
  refine (K1.out w1 E1.out F1.out).mono ?_
  rintro e w2 ⟨b1, c1, b2, c2, rfl, hb⟩
  have B2 := B1.trans (hb.mono B1.size)
  have E2 := Lib.hid (E1.out.to hb)
  have F2 := Lib.hid (F1.out.to hb)
  clear E1 F1 hb B1 K1
  go_wp2_with fail
  refine (K2.out w2 E2.out).mono ?_
  rintro e w3 ⟨rfl, hb⟩
  have B3 := B2.trans (hb.mono B2.size)
  have F3 := Lib.hid (F2.out.to hb)
  clear E2 F2 hb B2 K2
  go_wp2_with fail
  refine (K3.out w3 F3.out).mono ?_
  rintro e w4 ⟨rfl, hb⟩
  have B4 := B3.trans (hb.mono B3.size)
  clear F3 hb B3 K3
  go_wp2_with fail
  refine (equal_zero w4 _ _ _ _).mono ?_
  rintro e w5 ⟨rfl, hb⟩
  have B5 := B4.trans (hb.mono B4.size)
  clear hb B4
  go_wp2_with fail
  refine (equal_zero w5 _ _ _ _).mono ?_
  rintro e w6 ⟨rfl, hb⟩
  have B6 := B5.trans (hb.mono B5.size)
  clear hb B5
  go_wp2_with fail
  go_ret
  exact ⟨rfl, B6⟩

set_option maxHeartbeats 1000000 in
set_option maxRecDepth 100000 in
theorem too_long (s S : ByteArray) (a1 : Option Addr) (c1 : Nat) (L : List Ed) (a2 : Option Addr) (c2 : Nat) (R : List Ed) (w : World) (HS : Hid (S.size ≤ maxLen)) (HL1 : Hid (L.length ≤ maxLen)) (HL2 : Hid (R.length ≤ maxLen)) (HR1 : Hid (Reach L)) (HR2 : Hid (Reach R)) (E0 : Hid (Eds w w.heap.size a1 L)) (F0 : Hid (Eds w w.heap.size a2 R)) (hle : (s.size : Int) ≤ 2000) (HS0 : Hid (S = s.extract 0 (min (s.size : Int) 300).toNat)) (he1 : errV S.size L = 0) (he2 : errV S.size R = 0) (h20 : (2000 : Int) < (mrgS S L R).fl.length) :
    Calls Try.prog 11 #[.string s, .slice a1 L.length c1, .slice a2 R.length c2] w fun e w' => e = .returned (.bool true) ∧ Below w.heap.size w w' := by
  have K1 : Hid (∀ W, Eds W W.heap.size a1 L → Eds W W.heap.size a2 R → Calls Try.prog 17 #[.string S, .slice a1 L.length c1, .slice a2 R.length c2] W fun e w' => ∃ b c b' c', e = .returned (.tuple #[.slice b 0 c, .slice b' 0 c', .int .i64 (2)]) ∧ Below W.heap.size W w') := fun W h1 h2 => by
    have hE : trErr S L R = 2 := by rw [trErr, if_neg (by simp [he1]), if_neg (by simp [he2]), if_pos h20]
    have := transform_fails S a1 c1 L a2 c2 R (by rw [hE]; decide) HS.out HL1.out HL2.out W h1 h2
    rw [hE] at this
    exact this
  obtain ⟨m1, m2, m3, m4, m5, m6, m7, m8⟩ := mrg_facts he1 he2
  obtain ⟨hn, hL5, hsL, _⟩ := errV_zero he1
  obtain ⟨_, hR5, hsR, _⟩ := errV_zero he2
  have htL := valid_tsum (by omega) he1
  have htR := valid_tsum (by omega) he2
  have K2 : Hid (∀ W, Eds W W.heap.size a1 L → Calls Try.prog 20 #[.string S, .slice a1 L.length c1] W fun e w' => e = .returned (.int .i64 (0)) ∧ Below W.heap.size W w') := fun W hW => by
    have := refval_any S a1 c1 L W HS.out HL1.out HR1.out hW
    rw [he1] at this
    exact this
  have K3 : Hid (∀ W, Eds W W.heap.size a2 R → Calls Try.prog 20 #[.string S, .slice a2 R.length c2] W fun e w' => e = .returned (.int .i64 (0)) ∧ Below W.heap.size W w') := fun W hW => by
    have := refval_any S a2 c2 R W HS.out HL2.out HR2.out hW
    rw [he2] at this
    exact this
  have K4 : Hid (∀ W, Eds W W.heap.size a1 L → Eds W W.heap.size a2 R → Calls Try.prog 24 #[.string S, .slice a1 L.length c1, .slice a2 R.length c2, .bool false] W fun e w' => ∃ b c, e = .returned (.slice b (mrgS S L R).fr.length c) ∧ Hid (Tbs w' w'.heap.size b (mrgS S L R).fr) ∧ Below W.heap.size W w') := fun W h1 h2 => by
    refine (refmerge_F S a1 c1 L a2 c2 R W (by omega) hL5 hR5 htL htR hsL hsR h1 h2).mono ?_
    rintro e w' ⟨v, rfl, ho, hb⟩
    obtain ⟨b, c, rfl, _, _, hT⟩ := ho.out.tbs
    exact ⟨b, c, rfl, hT, hb⟩
  have K5 : Hid (∀ W, Eds W W.heap.size a1 L → Eds W W.heap.size a2 R → Calls Try.prog 24 #[.string S, .slice a1 L.length c1, .slice a2 R.length c2, .bool true] W fun e w' => ∃ b c, e = .returned (.slice b (mrgS S L R).fl.length c) ∧ Hid (Tbs w' w'.heap.size b (mrgS S L R).fl) ∧ Below W.heap.size W w') := fun W h1 h2 => by
    refine (refmerge_T S a1 c1 L a2 c2 R W (by omega) hL5 hR5 htL htR hsL hsR h1 h2).mono ?_
    rintro e w' ⟨v, rfl, ho, hb⟩
    obtain ⟨b, c, rfl, _, _, hT⟩ := ho.out.tbs
    exact ⟨b, c, rfl, hT, hb⟩
  have K6 : Hid (∀ W, Eds W W.heap.size a2 R → Calls Try.prog 21 #[.string S, .slice a2 R.length c2] W fun e w' => e = .returned (.string (applyS S R)) ∧ Below W.heap.size W w') := fun W hW => refapply_any S a2 c2 R he2 W hW
  have K8 : Hid (∀ W, Eds W W.heap.size a1 L → Calls Try.prog 21 #[.string S, .slice a1 L.length c1] W fun e w' => e = .returned (.string (applyS S L)) ∧ Below W.heap.size W w') := fun W hW => refapply_any S a1 c1 L he1 W hW
  have zL := applyS_le he1
  have zR := applyS_le he2
  have K7 : Hid (∀ W b c, Tbs W W.heap.size b (mrgS S L R).fr → Calls Try.prog 25 #[.int .i64 (applyS S R).size, .slice b (mrgS S L R).fr.length c] W fun e w' => ∃ v, e = .returned (.tuple #[v, .bool (canonB (applyS S R).size (mrgS S L R).fr)]) ∧ Below W.heap.size W w') := fun W b c hT => by
    refine (refcanon_any (applyS S R).size b c (mrgS S L R).fr W (by omega) (by omega) (by omega) m5 m3 hT).mono ?_
    rintro e w' ⟨v, rfl, _, hb⟩
    exact ⟨v, rfl, hb⟩
  have K9 : Hid (∀ W b c, Tbs W W.heap.size b (mrgS S L R).fl → Calls Try.prog 25 #[.int .i64 (applyS S L).size, .slice b (mrgS S L R).fl.length c] W fun e w' => ∃ v, e = .returned (.tuple #[v, .bool (canonB (applyS S L).size (mrgS S L R).fl)]) ∧ Below W.heap.size W w') := fun W b c hT => by
    refine (refcanon_any (applyS S L).size b c (mrgS S L R).fl W (by omega) (by omega) (by omega) m6 m4 hT).mono ?_
    rintro e w' ⟨v, rfl, _, hb⟩
    exact ⟨v, rfl, hb⟩
  clear m1 m2 m3 m4 m5 m6 hn hsL hsR htL htR zL zR he1 he2
  generalize applyS S L = xl at *
  generalize applyS S R = xr at *
  generalize canonB xr.size (mrgS S L R).fr = lb at *
  generalize canonB xl.size (mrgS S L R).fl = rb at *
  generalize (mrgS S L R).fl = fl at *
  generalize (mrgS S L R).fr = fr at *
  go_enter Try.func11, Try.ntmps11
  go_wp2_with fail
  refine (examples_law w).mono ?_
  rintro e w1 ⟨rfl, hb⟩
  have B1 := hb
  have E1 := Lib.hid (E0.out.to hb)
  have F1 := Lib.hid (F0.out.to hb)
  clear E0 F0 hb
  go_wp2_with fail
  rw [← HS0.out]
  refine (K1.out w1 E1.out F1.out).mono ?_
  rintro e w2 ⟨b1, c1, b2, c2, rfl, hb⟩
  have B2 := B1.trans (hb.mono B1.size)
  have E2 := Lib.hid (E1.out.to hb)
  have F2 := Lib.hid (F1.out.to hb)
  clear E1 F1 hb B1 K1
  go_wp2_with fail
  refine (K2.out w2 E2.out).mono ?_
  rintro e w3 ⟨rfl, hb⟩
  have B3 := B2.trans (hb.mono B2.size)
  have E3 := Lib.hid (E2.out.to hb)
  have F3 := Lib.hid (F2.out.to hb)
  clear E2 F2 hb B2 K2
  go_wp2_with fail
  refine (K3.out w3 F3.out).mono ?_
  rintro e w4 ⟨rfl, hb⟩
  have B4 := B3.trans (hb.mono B3.size)
  have E4 := Lib.hid (E3.out.to hb)
  have F4 := Lib.hid (F3.out.to hb)
  clear E3 F3 hb B3 K3
  go_wp2_with fail
  refine (K4.out w4 E4.out F4.out).mono ?_
  rintro e w5 ⟨b4, c4, rfl, X5, hb⟩
  have B5 := B4.trans (hb.mono B4.size)
  have E5 := Lib.hid (E4.out.to hb)
  have F5 := Lib.hid (F4.out.to hb)
  clear E4 F4 hb B4 K4
  go_wp2_with fail
  refine (K5.out w5 E5.out F5.out).mono ?_
  rintro e w6 ⟨b5, c5, rfl, Y6, hb⟩
  have B6 := B5.trans (hb.mono B5.size)
  have E6 := Lib.hid (E5.out.to hb)
  have F6 := Lib.hid (F5.out.to hb)
  have X6 := Lib.hid (X5.out.to hb)
  clear E5 F5 X5 hb B5 K5
  go_wp2_with fail
  refine (K6.out w6 F6.out).mono ?_
  rintro e w7 ⟨rfl, hb⟩
  have B7 := B6.trans (hb.mono B6.size)
  have E7 := Lib.hid (E6.out.to hb)
  have X7 := Lib.hid (X6.out.to hb)
  have Y7 := Lib.hid (Y6.out.to hb)
  clear E6 F6 X6 Y6 hb B6 K6
  go_wp2_with fail
  refine (K7.out w7 b4 c4 X7.out).mono ?_
  rintro e w8 ⟨v7, rfl, hb⟩
  have B8 := B7.trans (hb.mono B7.size)
  have E8 := Lib.hid (E7.out.to hb)
  have Y8 := Lib.hid (Y7.out.to hb)
  clear E7 X7 Y7 hb B7 K7
  go_wp2_with fail
  refine (K8.out w8 E8.out).mono ?_
  rintro e w9 ⟨rfl, hb⟩
  have B9 := B8.trans (hb.mono B8.size)
  have Y9 := Lib.hid (Y8.out.to hb)
  clear E8 Y8 hb B8 K8
  go_wp2_with fail
  refine (K9.out w9 b5 c5 Y9.out).mono ?_
  rintro e w10 ⟨v9, rfl, hb⟩
  have B10 := B9.trans (hb.mono B9.size)
  clear Y9 hb B9 K9
  go_wp2_with fail
  refine (equal_zero w10 _ _ _ _).mono ?_
  rintro e w11 ⟨rfl, hb⟩
  have B11 := B10.trans (hb.mono B10.size)
  clear hb B10
  go_wp2_with fail
  refine (equal_zero w11 _ _ _ _).mono ?_
  rintro e w12 ⟨rfl, hb⟩
  have B12 := B11.trans (hb.mono B11.size)
  clear hb B11
  go_wp2_with fail
  go_ret
  exact ⟨rfl, B12⟩

set_option maxHeartbeats 1000000 in
set_option maxRecDepth 100000 in
theorem too_many (s S : ByteArray) (a1 : Option Addr) (c1 : Nat) (L : List Ed) (a2 : Option Addr) (c2 : Nat) (R : List Ed) (w : World) (HS : Hid (S.size ≤ maxLen)) (HL1 : Hid (L.length ≤ maxLen)) (HL2 : Hid (R.length ≤ maxLen)) (HR1 : Hid (Reach L)) (HR2 : Hid (Reach R)) (E0 : Hid (Eds w w.heap.size a1 L)) (F0 : Hid (Eds w w.heap.size a2 R)) (hle : (s.size : Int) ≤ 2000) (HS0 : Hid (S = s.extract 0 (min (s.size : Int) 300).toNat)) (he1 : errV S.size L = 0) (he2 : errV S.size R = 0) (h20 : ¬ (2000 : Int) < (mrgS S L R).fl.length) (h50 : (50 : Int) < (leftR S L R).length ∨ (50 : Int) < (rightR S L R).length) :
    Calls Try.prog 11 #[.string s, .slice a1 L.length c1, .slice a2 R.length c2] w fun e w' => e = .returned (.bool true) ∧ Below w.heap.size w w' := by
  have K1 : Hid (∀ W, Eds W W.heap.size a1 L → Eds W W.heap.size a2 R → Calls Try.prog 17 #[.string S, .slice a1 L.length c1, .slice a2 R.length c2] W fun e w' => ∃ b c b' c', e = .returned (.tuple #[.slice b 0 c, .slice b' 0 c', .int .i64 (2)]) ∧ Below W.heap.size W w') := fun W h1 h2 => by
    have hE : trErr S L R = 2 := by rw [trErr, if_neg (by simp [he1]), if_neg (by simp [he2]), if_neg h20, if_pos h50]
    have := transform_fails S a1 c1 L a2 c2 R (by rw [hE]; decide) HS.out HL1.out HL2.out W h1 h2
    rw [hE] at this
    exact this
  obtain ⟨m1, m2, m3, m4, m5, m6, m7, m8⟩ := mrg_facts he1 he2
  obtain ⟨hn, hL5, hsL, _⟩ := errV_zero he1
  obtain ⟨_, hR5, hsR, _⟩ := errV_zero he2
  have htL := valid_tsum (by omega) he1
  have htR := valid_tsum (by omega) he2
  have K2 : Hid (∀ W, Eds W W.heap.size a1 L → Calls Try.prog 20 #[.string S, .slice a1 L.length c1] W fun e w' => e = .returned (.int .i64 (0)) ∧ Below W.heap.size W w') := fun W hW => by
    have := refval_any S a1 c1 L W HS.out HL1.out HR1.out hW
    rw [he1] at this
    exact this
  have K3 : Hid (∀ W, Eds W W.heap.size a2 R → Calls Try.prog 20 #[.string S, .slice a2 R.length c2] W fun e w' => e = .returned (.int .i64 (0)) ∧ Below W.heap.size W w') := fun W hW => by
    have := refval_any S a2 c2 R W HS.out HL2.out HR2.out hW
    rw [he2] at this
    exact this
  have K4 : Hid (∀ W, Eds W W.heap.size a1 L → Eds W W.heap.size a2 R → Calls Try.prog 24 #[.string S, .slice a1 L.length c1, .slice a2 R.length c2, .bool false] W fun e w' => ∃ b c, e = .returned (.slice b (mrgS S L R).fr.length c) ∧ Hid (Tbs w' w'.heap.size b (mrgS S L R).fr) ∧ Below W.heap.size W w') := fun W h1 h2 => by
    refine (refmerge_F S a1 c1 L a2 c2 R W (by omega) hL5 hR5 htL htR hsL hsR h1 h2).mono ?_
    rintro e w' ⟨v, rfl, ho, hb⟩
    obtain ⟨b, c, rfl, _, _, hT⟩ := ho.out.tbs
    exact ⟨b, c, rfl, hT, hb⟩
  have K5 : Hid (∀ W, Eds W W.heap.size a1 L → Eds W W.heap.size a2 R → Calls Try.prog 24 #[.string S, .slice a1 L.length c1, .slice a2 R.length c2, .bool true] W fun e w' => ∃ b c, e = .returned (.slice b (mrgS S L R).fl.length c) ∧ Hid (Tbs w' w'.heap.size b (mrgS S L R).fl) ∧ Below W.heap.size W w') := fun W h1 h2 => by
    refine (refmerge_T S a1 c1 L a2 c2 R W (by omega) hL5 hR5 htL htR hsL hsR h1 h2).mono ?_
    rintro e w' ⟨v, rfl, ho, hb⟩
    obtain ⟨b, c, rfl, _, _, hT⟩ := ho.out.tbs
    exact ⟨b, c, rfl, hT, hb⟩
  have K6 : Hid (∀ W, Eds W W.heap.size a2 R → Calls Try.prog 21 #[.string S, .slice a2 R.length c2] W fun e w' => e = .returned (.string (applyS S R)) ∧ Below W.heap.size W w') := fun W hW => refapply_any S a2 c2 R he2 W hW
  have K8 : Hid (∀ W, Eds W W.heap.size a1 L → Calls Try.prog 21 #[.string S, .slice a1 L.length c1] W fun e w' => e = .returned (.string (applyS S L)) ∧ Below W.heap.size W w') := fun W hW => refapply_any S a1 c1 L he1 W hW
  have zL := applyS_le he1
  have zR := applyS_le he2
  have K7 : Hid (∀ W b c, Tbs W W.heap.size b (mrgS S L R).fr → Calls Try.prog 25 #[.int .i64 (applyS S R).size, .slice b (mrgS S L R).fr.length c] W fun e w' => ∃ v, e = .returned (.tuple #[v, .bool (canonB (applyS S R).size (mrgS S L R).fr)]) ∧ Below W.heap.size W w') := fun W b c hT => by
    refine (refcanon_any (applyS S R).size b c (mrgS S L R).fr W (by omega) (by omega) (by omega) m5 m3 hT).mono ?_
    rintro e w' ⟨v, rfl, _, hb⟩
    exact ⟨v, rfl, hb⟩
  have K9 : Hid (∀ W b c, Tbs W W.heap.size b (mrgS S L R).fl → Calls Try.prog 25 #[.int .i64 (applyS S L).size, .slice b (mrgS S L R).fl.length c] W fun e w' => ∃ v, e = .returned (.tuple #[v, .bool (canonB (applyS S L).size (mrgS S L R).fl)]) ∧ Below W.heap.size W w') := fun W b c hT => by
    refine (refcanon_any (applyS S L).size b c (mrgS S L R).fl W (by omega) (by omega) (by omega) m6 m4 hT).mono ?_
    rintro e w' ⟨v, rfl, _, hb⟩
    exact ⟨v, rfl, hb⟩
  have hb2 : canonB (applyS S R).size (mrgS S L R).fr = false ∨ (canonB (applyS S R).size (mrgS S L R).fr = true ∧ canonB (applyS S L).size (mrgS S L R).fl = false) := by
    have e1 : leftR S L R = canonL (applyS S R).size (mrgS S L R).fr := by rw [leftR, m1]
    have e2 : rightR S L R = canonL (applyS S L).size (mrgS S L R).fl := by rw [rightR, m2]
    rw [e1, e2] at h50
    by_cases h51 : (50 : Int) < (canonL (applyS S R).size (mrgS S L R).fr).length
    · exact .inl (canonV_long h51).1
    · exact .inr ⟨(canonV_short h51).1, (canonV_long (by omega)).1⟩
  clear h50
  clear m1 m2 m3 m4 m5 m6 hn hsL hsR htL htR zL zR he1 he2
  generalize applyS S L = xl at *
  generalize applyS S R = xr at *
  generalize canonB xr.size (mrgS S L R).fr = lb at *
  generalize canonB xl.size (mrgS S L R).fl = rb at *
  generalize (mrgS S L R).fl = fl at *
  generalize (mrgS S L R).fr = fr at *
  rcases hb2 with rfl | ⟨rfl, rfl⟩
  · go_enter Try.func11, Try.ntmps11
    go_wp2_with fail
    refine (examples_law w).mono ?_
    rintro e w1 ⟨rfl, hb⟩
    have B1 := hb
    have E1 := Lib.hid (E0.out.to hb)
    have F1 := Lib.hid (F0.out.to hb)
    clear E0 F0 hb
    go_wp2_with fail
    rw [← HS0.out]
    refine (K1.out w1 E1.out F1.out).mono ?_
    rintro e w2 ⟨b1, c1, b2, c2, rfl, hb⟩
    have B2 := B1.trans (hb.mono B1.size)
    have E2 := Lib.hid (E1.out.to hb)
    have F2 := Lib.hid (F1.out.to hb)
    clear E1 F1 hb B1 K1
    go_wp2_with fail
    refine (K2.out w2 E2.out).mono ?_
    rintro e w3 ⟨rfl, hb⟩
    have B3 := B2.trans (hb.mono B2.size)
    have E3 := Lib.hid (E2.out.to hb)
    have F3 := Lib.hid (F2.out.to hb)
    clear E2 F2 hb B2 K2
    go_wp2_with fail
    refine (K3.out w3 F3.out).mono ?_
    rintro e w4 ⟨rfl, hb⟩
    have B4 := B3.trans (hb.mono B3.size)
    have E4 := Lib.hid (E3.out.to hb)
    have F4 := Lib.hid (F3.out.to hb)
    clear E3 F3 hb B3 K3
    go_wp2_with fail
    refine (K4.out w4 E4.out F4.out).mono ?_
    rintro e w5 ⟨b4, c4, rfl, X5, hb⟩
    have B5 := B4.trans (hb.mono B4.size)
    have E5 := Lib.hid (E4.out.to hb)
    have F5 := Lib.hid (F4.out.to hb)
    clear E4 F4 hb B4 K4
    go_wp2_with fail
    refine (K5.out w5 E5.out F5.out).mono ?_
    rintro e w6 ⟨b5, c5, rfl, Y6, hb⟩
    have B6 := B5.trans (hb.mono B5.size)
    have E6 := Lib.hid (E5.out.to hb)
    have F6 := Lib.hid (F5.out.to hb)
    have X6 := Lib.hid (X5.out.to hb)
    clear E5 F5 X5 hb B5 K5
    go_wp2_with fail
    refine (K6.out w6 F6.out).mono ?_
    rintro e w7 ⟨rfl, hb⟩
    have B7 := B6.trans (hb.mono B6.size)
    have E7 := Lib.hid (E6.out.to hb)
    have X7 := Lib.hid (X6.out.to hb)
    have Y7 := Lib.hid (Y6.out.to hb)
    clear E6 F6 X6 Y6 hb B6 K6
    go_wp2_with fail
    refine (K7.out w7 b4 c4 X7.out).mono ?_
    rintro e w8 ⟨v7, rfl, hb⟩
    have B8 := B7.trans (hb.mono B7.size)
    have E8 := Lib.hid (E7.out.to hb)
    have Y8 := Lib.hid (Y7.out.to hb)
    clear E7 X7 Y7 hb B7 K7
    go_wp2_with fail
    refine (K8.out w8 E8.out).mono ?_
    rintro e w9 ⟨rfl, hb⟩
    have B9 := B8.trans (hb.mono B8.size)
    have Y9 := Lib.hid (Y8.out.to hb)
    clear E8 Y8 hb B8 K8
    go_wp2_with fail
    refine (K9.out w9 b5 c5 Y9.out).mono ?_
    rintro e w10 ⟨v9, rfl, hb⟩
    have B10 := B9.trans (hb.mono B9.size)
    clear Y9 hb B9 K9
    go_wp2_with fail
    refine (equal_zero w10 _ _ _ _).mono ?_
    rintro e w11 ⟨rfl, hb⟩
    have B11 := B10.trans (hb.mono B10.size)
    clear hb B10
    go_wp2_with fail
    refine (equal_zero w11 _ _ _ _).mono ?_
    rintro e w12 ⟨rfl, hb⟩
    have B12 := B11.trans (hb.mono B11.size)
    clear hb B11
    go_wp2_with fail
    go_ret
    exact ⟨rfl, B12⟩
  · go_enter Try.func11, Try.ntmps11
    go_wp2_with fail
    refine (examples_law w).mono ?_
    rintro e w1 ⟨rfl, hb⟩
    have B1 := hb
    have E1 := Lib.hid (E0.out.to hb)
    have F1 := Lib.hid (F0.out.to hb)
    clear E0 F0 hb
    go_wp2_with fail
    rw [← HS0.out]
    refine (K1.out w1 E1.out F1.out).mono ?_
    rintro e w2 ⟨b1, c1, b2, c2, rfl, hb⟩
    have B2 := B1.trans (hb.mono B1.size)
    have E2 := Lib.hid (E1.out.to hb)
    have F2 := Lib.hid (F1.out.to hb)
    clear E1 F1 hb B1 K1
    go_wp2_with fail
    refine (K2.out w2 E2.out).mono ?_
    rintro e w3 ⟨rfl, hb⟩
    have B3 := B2.trans (hb.mono B2.size)
    have E3 := Lib.hid (E2.out.to hb)
    have F3 := Lib.hid (F2.out.to hb)
    clear E2 F2 hb B2 K2
    go_wp2_with fail
    refine (K3.out w3 F3.out).mono ?_
    rintro e w4 ⟨rfl, hb⟩
    have B4 := B3.trans (hb.mono B3.size)
    have E4 := Lib.hid (E3.out.to hb)
    have F4 := Lib.hid (F3.out.to hb)
    clear E3 F3 hb B3 K3
    go_wp2_with fail
    refine (K4.out w4 E4.out F4.out).mono ?_
    rintro e w5 ⟨b4, c4, rfl, X5, hb⟩
    have B5 := B4.trans (hb.mono B4.size)
    have E5 := Lib.hid (E4.out.to hb)
    have F5 := Lib.hid (F4.out.to hb)
    clear E4 F4 hb B4 K4
    go_wp2_with fail
    refine (K5.out w5 E5.out F5.out).mono ?_
    rintro e w6 ⟨b5, c5, rfl, Y6, hb⟩
    have B6 := B5.trans (hb.mono B5.size)
    have E6 := Lib.hid (E5.out.to hb)
    have F6 := Lib.hid (F5.out.to hb)
    have X6 := Lib.hid (X5.out.to hb)
    clear E5 F5 X5 hb B5 K5
    go_wp2_with fail
    refine (K6.out w6 F6.out).mono ?_
    rintro e w7 ⟨rfl, hb⟩
    have B7 := B6.trans (hb.mono B6.size)
    have E7 := Lib.hid (E6.out.to hb)
    have X7 := Lib.hid (X6.out.to hb)
    have Y7 := Lib.hid (Y6.out.to hb)
    clear E6 F6 X6 Y6 hb B6 K6
    go_wp2_with fail
    refine (K7.out w7 b4 c4 X7.out).mono ?_
    rintro e w8 ⟨v7, rfl, hb⟩
    have B8 := B7.trans (hb.mono B7.size)
    have E8 := Lib.hid (E7.out.to hb)
    have Y8 := Lib.hid (Y7.out.to hb)
    clear E7 X7 Y7 hb B7 K7
    go_wp2_with fail
    refine (K8.out w8 E8.out).mono ?_
    rintro e w9 ⟨rfl, hb⟩
    have B9 := B8.trans (hb.mono B8.size)
    have Y9 := Lib.hid (Y8.out.to hb)
    clear E8 Y8 hb B8 K8
    go_wp2_with fail
    refine (K9.out w9 b5 c5 Y9.out).mono ?_
    rintro e w10 ⟨v9, rfl, hb⟩
    have B10 := B9.trans (hb.mono B9.size)
    clear Y9 hb B9 K9
    go_wp2_with fail
    refine (equal_zero w10 _ _ _ _).mono ?_
    rintro e w11 ⟨rfl, hb⟩
    have B11 := B10.trans (hb.mono B10.size)
    clear hb B10
    go_wp2_with fail
    refine (equal_zero w11 _ _ _ _).mono ?_
    rintro e w12 ⟨rfl, hb⟩
    have B12 := B11.trans (hb.mono B11.size)
    clear hb B11
    go_wp2_with fail
    go_ret
    exact ⟨rfl, B12⟩

set_option maxHeartbeats 1000000 in
set_option maxRecDepth 100000 in
theorem all_good (s S : ByteArray) (a1 : Option Addr) (c1 : Nat) (L : List Ed) (a2 : Option Addr) (c2 : Nat) (R : List Ed) (w : World) (HS : Hid (S.size ≤ maxLen)) (HL1 : Hid (L.length ≤ maxLen)) (HL2 : Hid (R.length ≤ maxLen)) (HR1 : Hid (Reach L)) (HR2 : Hid (Reach R)) (E0 : Hid (Eds w w.heap.size a1 L)) (F0 : Hid (Eds w w.heap.size a2 R)) (hle : (s.size : Int) ≤ 2000) (HS0 : Hid (S = s.extract 0 (min (s.size : Int) 300).toNat)) (he1 : errV S.size L = 0) (he2 : errV S.size R = 0) (h20 : ¬ (2000 : Int) < (mrgS S L R).fl.length) (h50 : ¬ ((50 : Int) < (leftR S L R).length ∨ (50 : Int) < (rightR S L R).length)) :
    Calls Try.prog 11 #[.string s, .slice a1 L.length c1, .slice a2 R.length c2] w fun e w' => e = .returned (.bool true) ∧ Below w.heap.size w w' := by
  have hte : trErr S L R = 0 := by rw [trErr, if_neg (by simp [he1]), if_neg (by simp [he2]), if_neg h20, if_neg h50]
  have K1 := Lib.hid (transform_zero S a1 c1 L a2 c2 R hte HS.out HL1.out HL2.out)
  obtain ⟨v1, v2, _, _⟩ := tr_valid hte
  obtain ⟨m1, m2, m3, m4, m5, m6, m7, m8⟩ := mrg_facts he1 he2
  obtain ⟨hn, hL5, hsL, _⟩ := errV_zero he1
  obtain ⟨_, hR5, hsR, _⟩ := errV_zero he2
  have htL := valid_tsum (by omega) he1
  have htR := valid_tsum (by omega) he2
  have K2 : Hid (∀ W, Eds W W.heap.size a1 L → Calls Try.prog 20 #[.string S, .slice a1 L.length c1] W fun e w' => e = .returned (.int .i64 (0)) ∧ Below W.heap.size W w') := fun W hW => by
    have := refval_any S a1 c1 L W HS.out HL1.out HR1.out hW
    rw [he1] at this
    exact this
  have K3 : Hid (∀ W, Eds W W.heap.size a2 R → Calls Try.prog 20 #[.string S, .slice a2 R.length c2] W fun e w' => e = .returned (.int .i64 (0)) ∧ Below W.heap.size W w') := fun W hW => by
    have := refval_any S a2 c2 R W HS.out HL2.out HR2.out hW
    rw [he2] at this
    exact this
  have K4 : Hid (∀ W, Eds W W.heap.size a1 L → Eds W W.heap.size a2 R → Calls Try.prog 24 #[.string S, .slice a1 L.length c1, .slice a2 R.length c2, .bool false] W fun e w' => ∃ b c, e = .returned (.slice b (mrgS S L R).fr.length c) ∧ Hid (Tbs w' w'.heap.size b (mrgS S L R).fr) ∧ Below W.heap.size W w') := fun W h1 h2 => by
    refine (refmerge_F S a1 c1 L a2 c2 R W (by omega) hL5 hR5 htL htR hsL hsR h1 h2).mono ?_
    rintro e w' ⟨v, rfl, ho, hb⟩
    obtain ⟨b, c, rfl, _, _, hT⟩ := ho.out.tbs
    exact ⟨b, c, rfl, hT, hb⟩
  have K5 : Hid (∀ W, Eds W W.heap.size a1 L → Eds W W.heap.size a2 R → Calls Try.prog 24 #[.string S, .slice a1 L.length c1, .slice a2 R.length c2, .bool true] W fun e w' => ∃ b c, e = .returned (.slice b (mrgS S L R).fl.length c) ∧ Hid (Tbs w' w'.heap.size b (mrgS S L R).fl) ∧ Below W.heap.size W w') := fun W h1 h2 => by
    refine (refmerge_T S a1 c1 L a2 c2 R W (by omega) hL5 hR5 htL htR hsL hsR h1 h2).mono ?_
    rintro e w' ⟨v, rfl, ho, hb⟩
    obtain ⟨b, c, rfl, _, _, hT⟩ := ho.out.tbs
    exact ⟨b, c, rfl, hT, hb⟩
  have K6 : Hid (∀ W, Eds W W.heap.size a2 R → Calls Try.prog 21 #[.string S, .slice a2 R.length c2] W fun e w' => e = .returned (.string (applyS S R)) ∧ Below W.heap.size W w') := fun W hW => refapply_any S a2 c2 R he2 W hW
  have K8 : Hid (∀ W, Eds W W.heap.size a1 L → Calls Try.prog 21 #[.string S, .slice a1 L.length c1] W fun e w' => e = .returned (.string (applyS S L)) ∧ Below W.heap.size W w') := fun W hW => refapply_any S a1 c1 L he1 W hW
  have zL := applyS_le he1
  have zR := applyS_le he2
  have e1 : canonL (applyS S R).size (mrgS S L R).fr = leftR S L R := by rw [leftR, m1]
  have e2 : canonL (applyS S L).size (mrgS S L R).fl = rightR S L R := by rw [rightR, m2]
  have K7 : Hid (∀ W b c, Tbs W W.heap.size b (mrgS S L R).fr → Calls Try.prog 25 #[.int .i64 (applyS S R).size, .slice b (mrgS S L R).fr.length c] W fun e w' => ∃ b c, e = .returned (.tuple #[.slice b (leftR S L R).length c, .bool true]) ∧ Hid (Eds w' w'.heap.size b (leftR S L R)) ∧ Below W.heap.size W w') := fun W b c hT => by
    refine (refcanon_any (applyS S R).size b c (mrgS S L R).fr W (by omega) (by omega) (by omega) m5 m3 hT).mono ?_
    rintro e w' ⟨v, rfl, ho, hb⟩
    obtain ⟨g1, g2⟩ := canonV_short (n := (applyS S R).size) (l := (mrgS S L R).fr) (by rw [e1]; exact fun h => h50 (.inl h))
    rw [g1]
    rw [g2, e1] at ho
    obtain ⟨b, c, rfl, hE⟩ := ho.out.eds (valid_ok (by omega) v2)
    exact ⟨b, c, rfl, hE, hb⟩
  have K9 : Hid (∀ W b c, Tbs W W.heap.size b (mrgS S L R).fl → Calls Try.prog 25 #[.int .i64 (applyS S L).size, .slice b (mrgS S L R).fl.length c] W fun e w' => ∃ b c, e = .returned (.tuple #[.slice b (rightR S L R).length c, .bool true]) ∧ Hid (Eds w' w'.heap.size b (rightR S L R)) ∧ Below W.heap.size W w') := fun W b c hT => by
    refine (refcanon_any (applyS S L).size b c (mrgS S L R).fl W (by omega) (by omega) (by omega) m6 m4 hT).mono ?_
    rintro e w' ⟨v, rfl, ho, hb⟩
    obtain ⟨g1, g2⟩ := canonV_short (n := (applyS S L).size) (l := (mrgS S L R).fl) (by rw [e2]; exact fun h => h50 (.inr h))
    rw [g1]
    rw [g2, e2] at ho
    obtain ⟨b, c, rfl, hE⟩ := ho.out.eds (valid_ok (by omega) v1)
    exact ⟨b, c, rfl, hE, hb⟩
  have KA := Lib.hid (fun b c b' c' W => equal_same (leftR S L R) b c b' c' W (by omega))
  have KB := Lib.hid (fun b c b' c' W => equal_same (rightR S L R) b c b' c' W (by omega))
  clear hte v1 v2 e1 e2 h50
  clear m1 m2 m3 m4 m5 m6 hn hsL hsR htL htR zL zR he1 he2
  generalize applyS S L = xl at *
  generalize applyS S R = xr at *
  generalize leftR S L R = ql at *
  generalize rightR S L R = qr at *
  generalize (mrgS S L R).fl = fl at *
  generalize (mrgS S L R).fr = fr at *
  go_enter Try.func11, Try.ntmps11
  go_wp2_with fail
  refine (examples_law w).mono ?_
  rintro e w1 ⟨rfl, hb⟩
  have B1 := hb
  have E1 := Lib.hid (E0.out.to hb)
  have F1 := Lib.hid (F0.out.to hb)
  clear E0 F0 hb
  go_wp2_with fail
  rw [← HS0.out]
  refine (K1.out w1 E1.out F1.out).mono ?_
  rintro e w2 ⟨b1, c1, b2, c2, rfl, G2, H2, hb⟩
  have B2 := B1.trans (hb.mono B1.size)
  have E2 := Lib.hid (E1.out.to hb)
  have F2 := Lib.hid (F1.out.to hb)
  clear E1 F1 hb B1 K1
  go_wp2_with fail
  refine (K2.out w2 E2.out).mono ?_
  rintro e w3 ⟨rfl, hb⟩
  have B3 := B2.trans (hb.mono B2.size)
  have E3 := Lib.hid (E2.out.to hb)
  have F3 := Lib.hid (F2.out.to hb)
  have G3 := Lib.hid (G2.out.to hb)
  have H3 := Lib.hid (H2.out.to hb)
  clear E2 F2 G2 H2 hb B2 K2
  go_wp2_with fail
  refine (K3.out w3 F3.out).mono ?_
  rintro e w4 ⟨rfl, hb⟩
  have B4 := B3.trans (hb.mono B3.size)
  have E4 := Lib.hid (E3.out.to hb)
  have F4 := Lib.hid (F3.out.to hb)
  have G4 := Lib.hid (G3.out.to hb)
  have H4 := Lib.hid (H3.out.to hb)
  clear E3 F3 G3 H3 hb B3 K3
  go_wp2_with fail
  refine (K4.out w4 E4.out F4.out).mono ?_
  rintro e w5 ⟨b4, c4, rfl, X5, hb⟩
  have B5 := B4.trans (hb.mono B4.size)
  have E5 := Lib.hid (E4.out.to hb)
  have F5 := Lib.hid (F4.out.to hb)
  have G5 := Lib.hid (G4.out.to hb)
  have H5 := Lib.hid (H4.out.to hb)
  clear E4 F4 G4 H4 hb B4 K4
  go_wp2_with fail
  refine (K5.out w5 E5.out F5.out).mono ?_
  rintro e w6 ⟨b5, c5, rfl, Y6, hb⟩
  have B6 := B5.trans (hb.mono B5.size)
  have E6 := Lib.hid (E5.out.to hb)
  have F6 := Lib.hid (F5.out.to hb)
  have G6 := Lib.hid (G5.out.to hb)
  have H6 := Lib.hid (H5.out.to hb)
  have X6 := Lib.hid (X5.out.to hb)
  clear E5 F5 G5 H5 X5 hb B5 K5
  go_wp2_with fail
  refine (K6.out w6 F6.out).mono ?_
  rintro e w7 ⟨rfl, hb⟩
  have B7 := B6.trans (hb.mono B6.size)
  have E7 := Lib.hid (E6.out.to hb)
  have G7 := Lib.hid (G6.out.to hb)
  have H7 := Lib.hid (H6.out.to hb)
  have X7 := Lib.hid (X6.out.to hb)
  have Y7 := Lib.hid (Y6.out.to hb)
  clear E6 F6 G6 H6 X6 Y6 hb B6 K6
  go_wp2_with fail
  refine (K7.out w7 b4 c4 X7.out).mono ?_
  rintro e w8 ⟨b7, c7, rfl, P8, hb⟩
  have B8 := B7.trans (hb.mono B7.size)
  have E8 := Lib.hid (E7.out.to hb)
  have G8 := Lib.hid (G7.out.to hb)
  have H8 := Lib.hid (H7.out.to hb)
  have Y8 := Lib.hid (Y7.out.to hb)
  clear E7 G7 H7 X7 Y7 hb B7 K7
  go_wp2_with fail
  refine (K8.out w8 E8.out).mono ?_
  rintro e w9 ⟨rfl, hb⟩
  have B9 := B8.trans (hb.mono B8.size)
  have G9 := Lib.hid (G8.out.to hb)
  have H9 := Lib.hid (H8.out.to hb)
  have Y9 := Lib.hid (Y8.out.to hb)
  have P9 := Lib.hid (P8.out.to hb)
  clear E8 G8 H8 Y8 P8 hb B8 K8
  go_wp2_with fail
  refine (K9.out w9 b5 c5 Y9.out).mono ?_
  rintro e w10 ⟨b9, c9, rfl, Q10, hb⟩
  have B10 := B9.trans (hb.mono B9.size)
  have G10 := Lib.hid (G9.out.to hb)
  have H10 := Lib.hid (H9.out.to hb)
  have P10 := Lib.hid (P9.out.to hb)
  clear G9 H9 Y9 P9 hb B9 K9
  go_wp2_with fail
  refine (KA.out b1 c1 b7 c7 w10 G10.out P10.out).mono ?_
  rintro e w11 ⟨rfl, hb⟩
  have B11 := B10.trans (hb.mono B10.size)
  have H11 := Lib.hid (H10.out.to hb)
  have Q11 := Lib.hid (Q10.out.to hb)
  clear G10 H10 P10 Q10 hb B10 KA
  go_wp2_with fail
  refine (KB.out b2 c2 b9 c9 w11 H11.out Q11.out).mono ?_
  rintro e w12 ⟨rfl, hb⟩
  have B12 := B11.trans (hb.mono B11.size)
  clear H11 Q11 hb B11 KB
  go_wp2_with fail
  go_ret
  exact ⟨rfl, B12⟩

theorem walk (s : ByteArray) (a1 : Option Addr) (c1 : Nat) (L : List Ed) (a2 : Option Addr) (c2 : Nat) (R : List Ed) (w : World) (hs : s.size ≤ maxLen) (hl1 : L.length ≤ maxLen) (hl2 : R.length ≤ maxLen) (hr1 : Reach L) (hr2 : Reach R) (h1 : Eds w w.heap.size a1 L) (h2 : Eds w w.heap.size a2 R) :
    Calls Try.prog 11 #[.string s, .slice a1 L.length c1, .slice a2 R.length c2] w fun e w' => e = .returned (.bool true) ∧ Below w.heap.size w w' := by
  by_cases hle : (s.size : Int) ≤ 2000
  · have hS : (s.extract 0 (min (s.size : Int) 300).toNat).size ≤ maxLen := by rw [ByteArray.size_extract]; omega
    generalize hS0 : s.extract 0 (min (s.size : Int) 300).toNat = S at hS
    by_cases he1 : errV S.size L = 0
    · by_cases he2 : errV S.size R = 0
      · by_cases h20 : (2000 : Int) < (mrgS S L R).fl.length
        · exact too_long s S a1 c1 L a2 c2 R w hS hl1 hl2 hr1 hr2 h1 h2 hle hS0.symm he1 he2 h20
        · by_cases h50 : (50 : Int) < (leftR S L R).length ∨ (50 : Int) < (rightR S L R).length
          · exact too_many s S a1 c1 L a2 c2 R w hS hl1 hl2 hr1 hr2 h1 h2 hle hS0.symm he1 he2 h20 h50
          · exact all_good s S a1 c1 L a2 c2 R w hS hl1 hl2 hr1 hr2 h1 h2 hle hS0.symm he1 he2 h20 h50
      · exact second_bad s S a1 c1 L a2 c2 R w hS hl1 hl2 hr1 hr2 h1 h2 hle hS0.symm he1 he2
    · exact first_bad s S a1 c1 L a2 c2 R w hS hl1 hl2 hr1 hr2 h1 h2 hle hS0.symm he1
  · exact bigger s s a1 c1 L a2 c2 R w hs hl1 hl2 hr1 hr2 h1 h2 hle rfl (by unfold errV; rw [if_pos (Or.inl (by omega))]; decide)
end Go.Proofs.Ytbkiliiopondaaa.refTransform
