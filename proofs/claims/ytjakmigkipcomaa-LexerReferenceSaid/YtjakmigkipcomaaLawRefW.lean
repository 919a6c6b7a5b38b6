/-
  Tokenize, Keywords and IsIdentifier answer as the reference does: LexerReference's walk, for every source.
-/
import Derived.Test.YtjakmigkipcomaaEx
import Derived.Test.YtjakmigkipcomaaRef5
namespace Go.Proofs.Ytjakmigkipcomaa.lawRef
open Go.RowKit

/-- Is s an identifier that is not too long? -/
def isId (s : ByteArray) : Bool := decide (s.size ≤ 30) && oneId (L s)

theorem ident_any (s : ByteArray) (w : World) (hs : s.size ≤ maxLen) : Calls Try.prog 9 #[.string s] w fun e w' => e = .returned (.bool (isId s)) ∧ Below w.heap.size w w' := by
  by_cases h : s.size ≤ 30
  · have e : isId s = oneId (L s) := by unfold isId; rw [decide_eq_true h]; rfl
    rw [e]
    exact ident_short s w h
  · have e : isId s = false := by unfold isId; rw [decide_eq_false h]; rfl
    rw [e]
    exact (ident_long s w (by omega) hs).mono fun e w' h => ⟨h.1, by rw [h.2]; exact Below.refl _ _⟩

theorem id_of (z : Nat) (l : List Tk) (i : Bool) (HI : i = (decide (z ≤ 30) && (decide (l.length = 1) && decide ((l[0]?.map fun x => x.1) = some 103)))) :
    ∃ b : Bool, i = b ∧ ((∃ x, l = [x] ∧ x.1 = 103 ∧ (x.1 == 103) = true ∧ decide ((z : Int) ≤ 30) = b) ∨ (b = false ∧ ((∃ x, l = [x] ∧ (x.1 == 103) = false) ∨ ((l.length : Int) == 1) = false))) := by
  refine ⟨_, rfl, ?_⟩
  match l, HI with
  | [], HI => exact .inr ⟨by rw [HI]; simp, .inr rfl⟩
  | [x], HI =>
    by_cases h : x.1 = 103
    · refine .inl ⟨x, rfl, h, by simp [h], ?_⟩
      rw [HI]
      simp [h]
      omega
    · exact .inr ⟨by rw [HI]; simp [h], .inl ⟨x, rfl, by simpa using h⟩⟩
  | x :: y :: r, HI => exact .inr ⟨by rw [HI]; simp, .inr (by simp; omega)⟩

theorem id_cases (s : ByteArray) : ∃ b : Bool, isId s = b ∧ ((∃ x, T (L s) = [x] ∧ x.1 = 103 ∧ (x.1 == 103) = true ∧ decide ((s.size : Int) ≤ 30) = b) ∨ (b = false ∧ ((∃ x, T (L s) = [x] ∧ (x.1 == 103) = false) ∨ (((T (L s)).length : Int) == 1) = false))) :=
  id_of s.size (T (L s)) (isId s) rfl

set_option maxHeartbeats 1000000 in
set_option maxRecDepth 100000 in
theorem walk_long (s : ByteArray) (w : World) (hs : s.size ≤ maxLen) (hl : 2000 < s.size) : Calls Try.prog 3 #[.string s] w fun e w' => e = .returned (.bool true) ∧ Below w.heap.size w w' := by
  have g0 : (2000 : Int) < s.size := by omega
  have g1 : (s.size : Int) ≤ 9223372036854775807 := by unfold maxLen at hs; omega
  have K8 := Lib.hid (fun W => tokenize_long s W hl hs)
  have K9 := Lib.hid (fun W => ident_long s W (by omega) hs)
  clear hs hl
  go_enter Try.func3, Try.ntmps3
  go_wp2_with fail
  refine (ex_law w).mono ?_
  rintro e w1 ⟨rfl, hb1⟩
  go_wp2_with fail
  refine (K8.out w1).mono ?_
  rintro e w2 ⟨rfl, rfl⟩
  go_wp2_with fail
  refine (K9.out _).mono ?_
  rintro e w3 ⟨rfl, rfl⟩
  go_wp2_with fail
  go_ret
  exact ⟨rfl, hb1⟩

set_option maxHeartbeats 2000000 in
set_option maxRecDepth 100000 in
theorem walk_short (s : ByteArray) (w : World) (hl : s.size ≤ 2000) : Calls Try.prog 3 #[.string s] w fun e w' => e = .returned (.bool true) ∧ Below w.heap.size w w' := by
  have g0 : (s.size : Int) ≤ 2000 := by omega
  have K8 := Lib.hid (fun W => tokenize_any s W hl)
  have K10 := Lib.hid (fun W => rtokens_any s W hl)
  have K9 := Lib.hid (fun W => ident_any s W (by unfold maxLen; omega))
  have hres := id_cases s
  have hlen := T_length _ (L s) (Nat.le_refl _)
  rw [L_len] at hlen
  unfold Toks at K8
  unfold RToks at K10
  generalize T (L s) = l at *
  go_enter Try.func3, Try.ntmps3
  go_wp2_with fail
  refine (ex_law w).mono ?_
  rintro e w1 ⟨rfl, hb1⟩
  go_wp2_with fail
  refine (K8.out w1).mono ?_
  rintro e w2 ⟨v, rfl, ho2, hb2⟩
  have B2 := hb1.trans (hb2.mono hb1.size)
  obtain ⟨a, cap, rfl, hcap, ht, _⟩ := ho2.out.tks
  have HT := Lib.hid ht
  clear K8 ho2 hb1 hb2 ht
  have hci : (l.length : Int) ≤ cap := by omega
  go_wp2_with fail
  refine (K10.out w2).mono ?_
  rintro e w3 ⟨v, rfl, ho3, hb3⟩
  have B3 := B2.trans (hb3.mono B2.size)
  have HT3 := Lib.hid (HT.out.to hb3)
  obtain ⟨a3, cap3, rfl, hcap3, ht3, _⟩ := ho3.out.tks
  have HR3 := Lib.hid ht3
  have KE := Lib.hid (equal_toks l a cap a3 cap3 w3 (by omega) HT3.out ht3)
  clear K10 ho3 hb3 HT B2 HT3
  obtain ⟨b, hb, hres⟩ := hres
  rw [hb] at K9
  clear hb
  rcases hres with ⟨x, rfl, hx, gx, gd⟩ | ⟨rfl, ⟨x, rfl, gx⟩ | g1⟩
  · obtain ⟨bb, oo, rfl, _, p0, p1⟩ := HR3.out 0 x rfl
    rw [Nat.zero_mul, Nat.add_zero] at p0
    clear p1
    cases b with
    | true =>
      clear hx
      go_wp2_with fail
      have KK3 := KE
      refine KK3.out.mono ?_
      rintro e w4 ⟨rfl, hb4⟩
      have B4 := B3.trans (hb4.mono B3.size)
      clear hb4 B3 KE KK3 HR3
      go_wp2_with fail
      refine (keys_any w4).mono ?_
      rintro e w5 ⟨rfl, hw5⟩
      have S5 := Lib.hid (kw_strs w4)
      have hb5 := kw_below w4
      rw [← hw5] at S5 hb5
      have B5 := B4.trans (hb5.mono B4.size)
      clear hw5 hb5 B4
      go_wp2_with fail
      refine (rkeys_any w5).mono ?_
      rintro e w6 ⟨rfl, hw6⟩
      have N6 := Lib.hid (kw_strs w5)
      have hb6 := kw_below w5
      rw [← hw6] at N6 hb6
      have S6 := Lib.hid (S5.out.to hb6)
      have B6 := B5.trans (hb6.mono B5.size)
      clear hw6 hb6 B5 S5
      have KS := Lib.hid (equal_strs kws _ 22 _ 22 w6 (by decide) S6.out N6.out)
      go_wp2_with fail
      refine KS.out.mono ?_
      rintro e w7 ⟨rfl, hb7⟩
      have B7 := B6.trans (hb7.mono B6.size)
      clear hb7 B6 S6 N6 KS
      go_wp2_with fail
      refine (K9.out w7).mono ?_
      rintro e w8 ⟨rfl, hb8⟩
      have B8 := B7.trans (hb8.mono B7.size)
      clear hb8 B7 K9
      go_wp2_with fail
      go_ret
      exact ⟨rfl, B8⟩
    | false =>
      clear hx
      go_wp2_with fail
      have KK3 := KE
      refine KK3.out.mono ?_
      rintro e w4 ⟨rfl, hb4⟩
      have B4 := B3.trans (hb4.mono B3.size)
      clear hb4 B3 KE KK3 HR3
      go_wp2_with fail
      refine (keys_any w4).mono ?_
      rintro e w5 ⟨rfl, hw5⟩
      have S5 := Lib.hid (kw_strs w4)
      have hb5 := kw_below w4
      rw [← hw5] at S5 hb5
      have B5 := B4.trans (hb5.mono B4.size)
      clear hw5 hb5 B4
      go_wp2_with fail
      refine (rkeys_any w5).mono ?_
      rintro e w6 ⟨rfl, hw6⟩
      have N6 := Lib.hid (kw_strs w5)
      have hb6 := kw_below w5
      rw [← hw6] at N6 hb6
      have S6 := Lib.hid (S5.out.to hb6)
      have B6 := B5.trans (hb6.mono B5.size)
      clear hw6 hb6 B5 S5
      have KS := Lib.hid (equal_strs kws _ 22 _ 22 w6 (by decide) S6.out N6.out)
      go_wp2_with fail
      refine KS.out.mono ?_
      rintro e w7 ⟨rfl, hb7⟩
      have B7 := B6.trans (hb7.mono B6.size)
      clear hb7 B6 S6 N6 KS
      go_wp2_with fail
      refine (K9.out w7).mono ?_
      rintro e w8 ⟨rfl, hb8⟩
      have B8 := B7.trans (hb8.mono B7.size)
      clear hb8 B7 K9
      go_wp2_with fail
      go_ret
      exact ⟨rfl, B8⟩
  · obtain ⟨bb, oo, rfl, _, p0, p1⟩ := HR3.out 0 x rfl
    rw [Nat.zero_mul, Nat.add_zero] at p0
    clear p1
    go_wp2_with fail
    have KK3 := KE
    refine KK3.out.mono ?_
    rintro e w4 ⟨rfl, hb4⟩
    have B4 := B3.trans (hb4.mono B3.size)
    clear hb4 B3 KE KK3 HR3
    go_wp2_with fail
    refine (keys_any w4).mono ?_
    rintro e w5 ⟨rfl, hw5⟩
    have S5 := Lib.hid (kw_strs w4)
    have hb5 := kw_below w4
    rw [← hw5] at S5 hb5
    have B5 := B4.trans (hb5.mono B4.size)
    clear hw5 hb5 B4
    go_wp2_with fail
    refine (rkeys_any w5).mono ?_
    rintro e w6 ⟨rfl, hw6⟩
    have N6 := Lib.hid (kw_strs w5)
    have hb6 := kw_below w5
    rw [← hw6] at N6 hb6
    have S6 := Lib.hid (S5.out.to hb6)
    have B6 := B5.trans (hb6.mono B5.size)
    clear hw6 hb6 B5 S5
    have KS := Lib.hid (equal_strs kws _ 22 _ 22 w6 (by decide) S6.out N6.out)
    go_wp2_with fail
    refine KS.out.mono ?_
    rintro e w7 ⟨rfl, hb7⟩
    have B7 := B6.trans (hb7.mono B6.size)
    clear hb7 B6 S6 N6 KS
    go_wp2_with fail
    refine (K9.out w7).mono ?_
    rintro e w8 ⟨rfl, hb8⟩
    have B8 := B7.trans (hb8.mono B7.size)
    clear hb8 B7 K9
    go_wp2_with fail
    go_ret
    exact ⟨rfl, B8⟩
  · generalize hm : l.length = m at *
    have HM := Lib.hid hm
    clear hm
    go_wp2_with fail
    have KK3 := KE
    refine KK3.out.mono ?_
    rintro e w4 ⟨rfl, hb4⟩
    have B4 := B3.trans (hb4.mono B3.size)
    clear hb4 B3 KE KK3 HR3
    go_wp2_with fail
    refine (keys_any w4).mono ?_
    rintro e w5 ⟨rfl, hw5⟩
    have S5 := Lib.hid (kw_strs w4)
    have hb5 := kw_below w4
    rw [← hw5] at S5 hb5
    have B5 := B4.trans (hb5.mono B4.size)
    clear hw5 hb5 B4
    go_wp2_with fail
    refine (rkeys_any w5).mono ?_
    rintro e w6 ⟨rfl, hw6⟩
    have N6 := Lib.hid (kw_strs w5)
    have hb6 := kw_below w5
    rw [← hw6] at N6 hb6
    have S6 := Lib.hid (S5.out.to hb6)
    have B6 := B5.trans (hb6.mono B5.size)
    clear hw6 hb6 B5 S5
    have KS := Lib.hid (equal_strs kws _ 22 _ 22 w6 (by decide) S6.out N6.out)
    go_wp2_with fail
    refine KS.out.mono ?_
    rintro e w7 ⟨rfl, hb7⟩
    have B7 := B6.trans (hb7.mono B6.size)
    clear hb7 B6 S6 N6 KS
    go_wp2_with fail
    refine (K9.out w7).mono ?_
    rintro e w8 ⟨rfl, hb8⟩
    have B8 := B7.trans (hb8.mono B7.size)
    clear hb8 B7 K9
    go_wp2_with fail
    go_ret
    exact ⟨rfl, B8⟩

theorem walk (s : ByteArray) (w : World) (hs : s.size ≤ maxLen) : Calls Try.prog 3 #[.string s] w fun e w' => e = .returned (.bool true) ∧ Below w.heap.size w w' := by
  by_cases h : s.size ≤ 2000
  · exact walk_short s w h
  · exact walk_long s w hs (by omega)
end Go.Proofs.Ytjakmigkipcomaa.lawRef
