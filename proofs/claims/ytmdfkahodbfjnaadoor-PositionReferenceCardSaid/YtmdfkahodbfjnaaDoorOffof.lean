/-
  position.offsetOf by its contract, for either way to count.
-/
import Derived.Test.YtmdfkahodbfjnaaDoorUnit
namespace Go.Proofs.YtmdfkahodbfjnaaDoor
open Go.RowKit

set_option maxHeartbeats 1000000 in
theorem offof_true (s : ByteArray) (ln col : Int) (w : World) (hs : s.size ≤ 1000000) (hT : Tabs w) (hl : -9223372036854775808 ≤ ln ∧ ln ≤ 9223372036854775807) (ho : -9223372036854775808 ≤ col ∧ col ≤ 9223372036854775807) :
    Calls Tryd.prog 24 #[.string s, .agg #[.int .i64 ln, .int .i64 col], .func (.func 21) #[] #[]] w fun e w' => e = .returned (.tuple #[.int .i64 (offV s true ln col).1, .int .i64 (offV s true ln col).2]) ∧ Below w.heap.size w w' := by
  obtain ⟨hl1, hl2⟩ := hl
  obtain ⟨ho1, ho2⟩ := ho
  have HS := Lib.hid (fun W => starts_any s W hs)
  have hlen := Lib.hid (lst_length s s.size)
  have hnls := nl_le s s.size
  have HB : Hid (Below w.heap.size w (w.alloc (.cells #[.int .i64 ln, .int .i64 col] 23))) := (Below.refl _ _).alloc (Nat.le_refl _) _
  have HBK := Lib.hid (heap_alloc_new w (.cells #[.int .i64 ln, .int .i64 col] 23))
  have HZ : Hid ((w.alloc (.cells #[.int .i64 ln, .int .i64 col] 23)).heap.size = w.heap.size + 1) := by show _ = _; simp
  by_cases c1 : ln < 0
  · have HV := Lib.hid (offV_out (s := s) (u := true) (col := col) (.inl c1))
    have d1 : decide (ln < 0) = true := decide_eq_true c1
    go_enter Tryd.func24, Tryd.ntmps24
    go_wp2_with fail
    refine (HS.out _).mono ?_
    rintro e w1 ⟨a, cap, rfl, HI, hb1⟩
    have hz1 := hb1.size
    rw [HZ.out] at hz1
    have k1 := Lib.hid ((hb1.block _ (by rw [HZ.out]; omega)).trans HBK.out)
    have B1 := HB.out.trans (hb1.mono (by rw [HZ.out]; omega))
    clear hb1 HS HB HBK HZ
    have e0 : w1.cell? ⟨w.heap.size, 0, none⟩ = some (.int .i64 ln) := by rw [Lib.cell_of_heap k1.out]; rfl
    have e1 : w1.cell? ⟨w.heap.size, 1, none⟩ = some (.int .i64 col) := by rw [Lib.cell_of_heap k1.out]; rfl
    go_wp2_with fail
    go_ret2
    exact ⟨(by rw [HV.out]; try rfl), B1⟩
  by_cases c2 : (nl s s.size : Int) < ln
  · have HV := Lib.hid (offV_out (s := s) (u := true) (col := col) (.inr c2))
    have c3 : ((lst s s.size).length : Int) ≤ ln := by rw [hlen.out]; omega
    clear c2
    have d1 : decide (ln < 0) = false := decide_eq_false c1
    go_enter Tryd.func24, Tryd.ntmps24
    go_wp2_with fail
    refine (HS.out _).mono ?_
    rintro e w1 ⟨a, cap, rfl, HI, hb1⟩
    have hz1 := hb1.size
    rw [HZ.out] at hz1
    have k1 := Lib.hid ((hb1.block _ (by rw [HZ.out]; omega)).trans HBK.out)
    have B1 := HB.out.trans (hb1.mono (by rw [HZ.out]; omega))
    clear hb1 HS HB HBK HZ
    have e0 : w1.cell? ⟨w.heap.size, 0, none⟩ = some (.int .i64 ln) := by rw [Lib.cell_of_heap k1.out]; rfl
    have e1 : w1.cell? ⟨w.heap.size, 1, none⟩ = some (.int .i64 col) := by rw [Lib.cell_of_heap k1.out]; rfl
    go_wp2_with fail
    go_ret2
    exact ⟨(by rw [HV.out]; try rfl), B1⟩
  obtain ⟨k, rfl⟩ : ∃ k : Nat, ln = k := ⟨ln.toNat, by omega⟩
  have hk : k < (lst s s.size).length := by rw [hlen.out]; omega
  obtain ⟨q, hq⟩ : ∃ q : Nat, (lst s s.size)[k]? = some (q : Int) := by
    obtain ⟨q, e, _⟩ := lst_ls s _ _ _ (List.getElem?_eq_getElem hk)
    exact ⟨q, by rw [List.getElem?_eq_getElem hk, e]⟩
  have hqs : q ≤ s.size := by
    obtain ⟨q', e, h, _⟩ := lst_ls s _ _ _ hq
    omega
  have HP := Lib.hid (offV_in (u := true) (col := col) hq)
  unfold lineAt at HP
  have hspec := le_spec hqs
  obtain ⟨stop, hstop⟩ : ∃ stop, stop = le s q := ⟨_, rfl⟩
  rw [← hstop] at hspec HP
  clear hstop
  obtain ⟨st1, st2, st3, st4⟩ := hspec
  have HST := Lib.hid st3
  have HN := Lib.hid st4
  clear st3 st4
  generalize offV s true k col = V at *
  have HQ := Lib.hid hq
  have HL1 := Lib.hid (And.intro hl1 hl2)
  clear c1 c2 hl1 hl2 hq
  have hk0 : (0 : Int) ≤ k := by omega
  have hk1 : (k : Int) < ((lst s s.size).length : Int) := by omega
  have d1 : decide ((k : Int) < 0) = false := decide_eq_false (by omega)
  have d2 : decide ((lst s s.size).length ≤ k) = false := decide_eq_false (by omega)
  by_cases c3 : col < 0
  · have HV : Hid (V = (0, 1)) := by show _ = _; rw [HP.out, offOf_neg c3]; rfl
    clear HP HST HN
    go_enter Tryd.func24, Tryd.ntmps24
    go_wp2_with fail
    refine (HS.out _).mono ?_
    rintro e w1 ⟨a, cap, rfl, HI, hb1⟩
    have hz1 := hb1.size
    rw [HZ.out] at hz1
    have k1 := Lib.hid ((hb1.block _ (by rw [HZ.out]; omega)).trans HBK.out)
    have B1 := HB.out.trans (hb1.mono (by rw [HZ.out]; omega))
    clear hb1 HS HB HBK HZ
    have e0 : w1.cell? ⟨w.heap.size, 0, none⟩ = some (.int .i64 k) := by rw [Lib.cell_of_heap k1.out]; rfl
    have e1 : w1.cell? ⟨w.heap.size, 1, none⟩ = some (.int .i64 col) := by rw [Lib.cell_of_heap k1.out]; rfl
    obtain ⟨_, b, oo, rfl, hbl, g0⟩ := HI.out k q HQ.out
    clear HI
    go_wp2_with fail
    go_ret2
    exact ⟨(by rw [HV.out]; try rfl), B1⟩
  have d3 : decide (col < 0) = false := decide_eq_false c3
  go_enter Tryd.func24, Tryd.ntmps24
  go_wp2_with fail
  refine (HS.out _).mono ?_
  rintro e w1 ⟨a, cap, rfl, HI, hb1⟩
  have hz1 := hb1.size
  rw [HZ.out] at hz1
  have k1 := Lib.hid ((hb1.block _ (by rw [HZ.out]; omega)).trans HBK.out)
  have B1 := HB.out.trans (hb1.mono (by rw [HZ.out]; omega))
  clear hb1 HS HB HBK HZ
  have e0 : w1.cell? ⟨w.heap.size, 0, none⟩ = some (.int .i64 k) := by rw [Lib.cell_of_heap k1.out]; rfl
  have e1 : w1.cell? ⟨w.heap.size, 1, none⟩ = some (.int .i64 col) := by rw [Lib.cell_of_heap k1.out]; rfl
  obtain ⟨_, b, oo, rfl, hbl, g0⟩ := HI.out k q HQ.out
  clear HI
  go_wp2_with fail
  clear e0 e1 g0
  go_loopw [9, 10] (fun i j wr => ∃ (p c : Nat), i = .int .i64 p ∧ j = .int .i64 c ∧ p ≤ stop ∧ c ≤ 2 * p ∧ q ≤ p ∧ Hid (((c : Int) ≤ col ∧ offOf true col (runes s stop q) 0 q = offOf true col (runes s stop p) c p) ∨ (col < c ∧ offOf true col (runes s stop q) 0 q = (0, 3))) ∧
      Hid (wr.heap[w.heap.size]? = some (.cells #[.int .i64 k, .int .i64 col] 23 (0, 0))) ∧ Below w.heap.size w wr)
    (fun i _ _ => stop - (intOf i).toNat)
  case atStart => exact ⟨q, 0, rfl, rfl, st1, Nat.zero_le _, Nat.le_refl _, .inl ⟨by omega, rfl⟩, k1, B1⟩
  case round =>
    clear k1 B1
    obtain ⟨p, c, rfl, rfl, hps, hcp, hqp, hst, hb0, hb⟩ := hrel
    have hzw := hb.size
    have hz2 := lt_of_block hb0.out
    have e1 : wr.cell? ⟨w.heap.size, 1, none⟩ = some (.int .i64 col) := by rw [Lib.cell_of_heap hb0.out]; rfl
    by_cases hlt : (c : Int) < col
    · have hst2 : Hid (offOf true col (runes s stop q) 0 q = offOf true col (runes s stop p) c p) := by
        rcases hst.out with ⟨_, h⟩ | ⟨h, _⟩
        · exact h
        · omega
      clear hst
      by_cases hend : p = s.size
      · have HV : Hid (V = (0, 1)) := by show _ = _; rw [HP.out, hst2.out, off_end (by omega) (by omega)]; rfl
        clear HP HST HN hst2
        subst hend
        go_wp2_with fail
        go_ret2
        exact ⟨(by rw [HV.out]; try rfl), hb⟩
      have hk : p < s.size := by omega
      have hd0 : ((p : Int) == (s.size : Int)) = false := by simpa using (by omega : ¬ (p : Int) = s.size)
      obtain ⟨x0, hx0⟩ : ∃ x0, s[p]'hk = x0 := ⟨_, rfl⟩
      have hn := Lib.hid (nl_byte hk hx0)
      by_cases hd : (x0.toNat : Int) = 10
      · have hnl : isNl s p = true := hn.out.trans (decide_eq_true hd)
        have hpe : Hid (stop ≤ p) := by
          rcases Nat.lt_or_ge p stop with h | h
          · rw [HN.out p hqp h] at hnl; cases hnl
          · exact h
        have HV : Hid (V = (0, 1)) := by show _ = _; rw [HP.out, hst2.out, off_end hpe.out (by omega)]; rfl
        have hd1 : ((x0.toNat : Int) == 10) = true := by simpa using hd
        clear HP HST HN hst2 hnl hn hpe
        go_wp2_with fail
        go_ret2
        exact ⟨(by rw [HV.out]; try rfl), hb⟩
      have hnl : isNl s p = false := hn.out.trans (decide_eq_false hd)
      have hpe : p < stop := by
        rcases HST.out with h | h
        · omega
        · rcases Nat.lt_or_ge p stop with h2 | h2
          · exact h2
          · obtain rfl : p = stop := by omega
            rw [h] at hnl; cases hnl
      have hd1 : ((x0.toNat : Int) == 10) = false := by simpa using hd
      clear hn hnl
      have HD := Lib.hid (dec_any s p wr hk (hT.fwd hT.2 hb))
      have hd1' := dW_pos hk
      have hd2 := dW_le hpe st2 HST.out
      obtain ⟨r, hr⟩ : ∃ r, (Utf8.decode s p).1 = r := ⟨_, rfl⟩
      rw [hr] at HD
      have hx := wR_dU (l := dW s p) true hr
      have hx2 := wd_pos true s p (dW s p)
      have hx3 : Hid ((c : Int) + wd true ⟨p, dW s p, dU s p⟩ ≤ col → offOf true col (runes s stop q) 0 q = offOf true col (runes s stop (p + dW s p)) (c + wd true ⟨p, dW s p, dU s p⟩) (p + dW s p)) := fun h => by rw [hst2.out, off_go st2 hpe hlt h]
      have hx4 : Hid (col < (c : Int) + wd true ⟨p, dW s p, dU s p⟩ → offOf true col (runes s stop q) 0 q = (0, 3)) := fun h => by rw [hst2.out, off_half st2 hpe hlt h]
      have HU := Lib.hid (fun W => units_any r W)
      rw [← hx] at hx2 hx3 hx4
      generalize wR true r = x at *
      generalize dW s p = d at *
      clear hr hx hst2
      obtain ⟨x1, x2⟩ := hx2
      have hcx : (((c + x : Nat)) : Int) = (c : Int) + x := by omega
      have HCX := Lib.hid hcx
      clear hcx
      go_wp2_with fail
      refine HD.out.mono ?_
      rintro e w2 ⟨rfl, hb2⟩
      clear HD e1
      have g1 := Lib.hid ((hb2.block _ hz2).trans hb0.out)
      have hb3 := hb.trans (hb2.mono hzw)
      clear hb2 hb0 hb
      go_wp2_with fail
      refine (HU.out _).mono ?_
      rintro e w9 ⟨rfl, rfl⟩
      clear HU
      go_wp2_with fail
      go_roundw
      case rel =>
        refine ⟨p + d, c + x, by go_num, by go_num, hd2, by omega, by omega, ?_, g1, hb3⟩
        by_cases h : (c : Int) + x ≤ col
        · exact .inl ⟨by rw [HCX.out]; exact h, hx3.out h⟩
        · exact .inr ⟨by rw [HCX.out]; omega, hx4.out (by omega)⟩
      case measure => simp [intOf]; omega
    · clear hb0
      by_cases hgt : col < (c : Int)
      · have HV : Hid (V = (0, 3)) := by
          rcases hst.out with ⟨h, _⟩ | ⟨_, h⟩
          · omega
          · show _ = _; rw [HP.out, h]; rfl
        clear hst HP HST HN
        go_wp2_with fail
        go_ret2
        exact ⟨(by rw [HV.out]; try rfl), hb⟩
      · have HV : Hid (V = ((p : Int), 0)) := by
          rcases hst.out with ⟨_, h⟩ | ⟨h, _⟩
          · show _ = _; rw [HP.out, h, off_eq st2 (by omega)]
          · omega
        clear hst HP HST HN
        go_wp2_with fail
        go_ret2
        exact ⟨(by rw [HV.out]; try rfl), hb⟩

set_option maxHeartbeats 1000000 in
theorem offof_false (s : ByteArray) (ln col : Int) (w : World) (hs : s.size ≤ 1000000) (hT : Tabs w) (hl : -9223372036854775808 ≤ ln ∧ ln ≤ 9223372036854775807) (ho : -9223372036854775808 ≤ col ∧ col ≤ 9223372036854775807) :
    Calls Tryd.prog 24 #[.string s, .agg #[.int .i64 ln, .int .i64 col], .func (.func 23) #[] #[]] w fun e w' => e = .returned (.tuple #[.int .i64 (offV s false ln col).1, .int .i64 (offV s false ln col).2]) ∧ Below w.heap.size w w' := by
  obtain ⟨hl1, hl2⟩ := hl
  obtain ⟨ho1, ho2⟩ := ho
  have HS := Lib.hid (fun W => starts_any s W hs)
  have hlen := Lib.hid (lst_length s s.size)
  have hnls := nl_le s s.size
  have HB : Hid (Below w.heap.size w (w.alloc (.cells #[.int .i64 ln, .int .i64 col] 23))) := (Below.refl _ _).alloc (Nat.le_refl _) _
  have HBK := Lib.hid (heap_alloc_new w (.cells #[.int .i64 ln, .int .i64 col] 23))
  have HZ : Hid ((w.alloc (.cells #[.int .i64 ln, .int .i64 col] 23)).heap.size = w.heap.size + 1) := by show _ = _; simp
  by_cases c1 : ln < 0
  · have HV := Lib.hid (offV_out (s := s) (u := false) (col := col) (.inl c1))
    have d1 : decide (ln < 0) = true := decide_eq_true c1
    go_enter Tryd.func24, Tryd.ntmps24
    go_wp2_with fail
    refine (HS.out _).mono ?_
    rintro e w1 ⟨a, cap, rfl, HI, hb1⟩
    have hz1 := hb1.size
    rw [HZ.out] at hz1
    have k1 := Lib.hid ((hb1.block _ (by rw [HZ.out]; omega)).trans HBK.out)
    have B1 := HB.out.trans (hb1.mono (by rw [HZ.out]; omega))
    clear hb1 HS HB HBK HZ
    have e0 : w1.cell? ⟨w.heap.size, 0, none⟩ = some (.int .i64 ln) := by rw [Lib.cell_of_heap k1.out]; rfl
    have e1 : w1.cell? ⟨w.heap.size, 1, none⟩ = some (.int .i64 col) := by rw [Lib.cell_of_heap k1.out]; rfl
    go_wp2_with fail
    go_ret2
    exact ⟨(by rw [HV.out]; try rfl), B1⟩
  by_cases c2 : (nl s s.size : Int) < ln
  · have HV := Lib.hid (offV_out (s := s) (u := false) (col := col) (.inr c2))
    have c3 : ((lst s s.size).length : Int) ≤ ln := by rw [hlen.out]; omega
    clear c2
    have d1 : decide (ln < 0) = false := decide_eq_false c1
    go_enter Tryd.func24, Tryd.ntmps24
    go_wp2_with fail
    refine (HS.out _).mono ?_
    rintro e w1 ⟨a, cap, rfl, HI, hb1⟩
    have hz1 := hb1.size
    rw [HZ.out] at hz1
    have k1 := Lib.hid ((hb1.block _ (by rw [HZ.out]; omega)).trans HBK.out)
    have B1 := HB.out.trans (hb1.mono (by rw [HZ.out]; omega))
    clear hb1 HS HB HBK HZ
    have e0 : w1.cell? ⟨w.heap.size, 0, none⟩ = some (.int .i64 ln) := by rw [Lib.cell_of_heap k1.out]; rfl
    have e1 : w1.cell? ⟨w.heap.size, 1, none⟩ = some (.int .i64 col) := by rw [Lib.cell_of_heap k1.out]; rfl
    go_wp2_with fail
    go_ret2
    exact ⟨(by rw [HV.out]; try rfl), B1⟩
  obtain ⟨k, rfl⟩ : ∃ k : Nat, ln = k := ⟨ln.toNat, by omega⟩
  have hk : k < (lst s s.size).length := by rw [hlen.out]; omega
  obtain ⟨q, hq⟩ : ∃ q : Nat, (lst s s.size)[k]? = some (q : Int) := by
    obtain ⟨q, e, _⟩ := lst_ls s _ _ _ (List.getElem?_eq_getElem hk)
    exact ⟨q, by rw [List.getElem?_eq_getElem hk, e]⟩
  have hqs : q ≤ s.size := by
    obtain ⟨q', e, h, _⟩ := lst_ls s _ _ _ hq
    omega
  have HP := Lib.hid (offV_in (u := false) (col := col) hq)
  unfold lineAt at HP
  have hspec := le_spec hqs
  obtain ⟨stop, hstop⟩ : ∃ stop, stop = le s q := ⟨_, rfl⟩
  rw [← hstop] at hspec HP
  clear hstop
  obtain ⟨st1, st2, st3, st4⟩ := hspec
  have HST := Lib.hid st3
  have HN := Lib.hid st4
  clear st3 st4
  generalize offV s false k col = V at *
  have HQ := Lib.hid hq
  have HL1 := Lib.hid (And.intro hl1 hl2)
  clear c1 c2 hl1 hl2 hq
  have hk0 : (0 : Int) ≤ k := by omega
  have hk1 : (k : Int) < ((lst s s.size).length : Int) := by omega
  have d1 : decide ((k : Int) < 0) = false := decide_eq_false (by omega)
  have d2 : decide ((lst s s.size).length ≤ k) = false := decide_eq_false (by omega)
  by_cases c3 : col < 0
  · have HV : Hid (V = (0, 1)) := by show _ = _; rw [HP.out, offOf_neg c3]; rfl
    clear HP HST HN
    go_enter Tryd.func24, Tryd.ntmps24
    go_wp2_with fail
    refine (HS.out _).mono ?_
    rintro e w1 ⟨a, cap, rfl, HI, hb1⟩
    have hz1 := hb1.size
    rw [HZ.out] at hz1
    have k1 := Lib.hid ((hb1.block _ (by rw [HZ.out]; omega)).trans HBK.out)
    have B1 := HB.out.trans (hb1.mono (by rw [HZ.out]; omega))
    clear hb1 HS HB HBK HZ
    have e0 : w1.cell? ⟨w.heap.size, 0, none⟩ = some (.int .i64 k) := by rw [Lib.cell_of_heap k1.out]; rfl
    have e1 : w1.cell? ⟨w.heap.size, 1, none⟩ = some (.int .i64 col) := by rw [Lib.cell_of_heap k1.out]; rfl
    obtain ⟨_, b, oo, rfl, hbl, g0⟩ := HI.out k q HQ.out
    clear HI
    go_wp2_with fail
    go_ret2
    exact ⟨(by rw [HV.out]; try rfl), B1⟩
  have d3 : decide (col < 0) = false := decide_eq_false c3
  go_enter Tryd.func24, Tryd.ntmps24
  go_wp2_with fail
  refine (HS.out _).mono ?_
  rintro e w1 ⟨a, cap, rfl, HI, hb1⟩
  have hz1 := hb1.size
  rw [HZ.out] at hz1
  have k1 := Lib.hid ((hb1.block _ (by rw [HZ.out]; omega)).trans HBK.out)
  have B1 := HB.out.trans (hb1.mono (by rw [HZ.out]; omega))
  clear hb1 HS HB HBK HZ
  have e0 : w1.cell? ⟨w.heap.size, 0, none⟩ = some (.int .i64 k) := by rw [Lib.cell_of_heap k1.out]; rfl
  have e1 : w1.cell? ⟨w.heap.size, 1, none⟩ = some (.int .i64 col) := by rw [Lib.cell_of_heap k1.out]; rfl
  obtain ⟨_, b, oo, rfl, hbl, g0⟩ := HI.out k q HQ.out
  clear HI
  go_wp2_with fail
  clear e0 e1 g0
  go_loopw [9, 10] (fun i j wr => ∃ (p c : Nat), i = .int .i64 p ∧ j = .int .i64 c ∧ p ≤ stop ∧ c ≤ 2 * p ∧ q ≤ p ∧ Hid (((c : Int) ≤ col ∧ offOf false col (runes s stop q) 0 q = offOf false col (runes s stop p) c p) ∨ (col < c ∧ offOf false col (runes s stop q) 0 q = (0, 3))) ∧
      Hid (wr.heap[w.heap.size]? = some (.cells #[.int .i64 k, .int .i64 col] 23 (0, 0))) ∧ Below w.heap.size w wr)
    (fun i _ _ => stop - (intOf i).toNat)
  case atStart => exact ⟨q, 0, rfl, rfl, st1, Nat.zero_le _, Nat.le_refl _, .inl ⟨by omega, rfl⟩, k1, B1⟩
  case round =>
    clear k1 B1
    obtain ⟨p, c, rfl, rfl, hps, hcp, hqp, hst, hb0, hb⟩ := hrel
    have hzw := hb.size
    have hz2 := lt_of_block hb0.out
    have e1 : wr.cell? ⟨w.heap.size, 1, none⟩ = some (.int .i64 col) := by rw [Lib.cell_of_heap hb0.out]; rfl
    by_cases hlt : (c : Int) < col
    · have hst2 : Hid (offOf false col (runes s stop q) 0 q = offOf false col (runes s stop p) c p) := by
        rcases hst.out with ⟨_, h⟩ | ⟨h, _⟩
        · exact h
        · omega
      clear hst
      by_cases hend : p = s.size
      · have HV : Hid (V = (0, 1)) := by show _ = _; rw [HP.out, hst2.out, off_end (by omega) (by omega)]; rfl
        clear HP HST HN hst2
        subst hend
        go_wp2_with fail
        go_ret2
        exact ⟨(by rw [HV.out]; try rfl), hb⟩
      have hk : p < s.size := by omega
      have hd0 : ((p : Int) == (s.size : Int)) = false := by simpa using (by omega : ¬ (p : Int) = s.size)
      obtain ⟨x0, hx0⟩ : ∃ x0, s[p]'hk = x0 := ⟨_, rfl⟩
      have hn := Lib.hid (nl_byte hk hx0)
      by_cases hd : (x0.toNat : Int) = 10
      · have hnl : isNl s p = true := hn.out.trans (decide_eq_true hd)
        have hpe : Hid (stop ≤ p) := by
          rcases Nat.lt_or_ge p stop with h | h
          · rw [HN.out p hqp h] at hnl; cases hnl
          · exact h
        have HV : Hid (V = (0, 1)) := by show _ = _; rw [HP.out, hst2.out, off_end hpe.out (by omega)]; rfl
        have hd1 : ((x0.toNat : Int) == 10) = true := by simpa using hd
        clear HP HST HN hst2 hnl hn hpe
        go_wp2_with fail
        go_ret2
        exact ⟨(by rw [HV.out]; try rfl), hb⟩
      have hnl : isNl s p = false := hn.out.trans (decide_eq_false hd)
      have hpe : p < stop := by
        rcases HST.out with h | h
        · omega
        · rcases Nat.lt_or_ge p stop with h2 | h2
          · exact h2
          · obtain rfl : p = stop := by omega
            rw [h] at hnl; cases hnl
      have hd1 : ((x0.toNat : Int) == 10) = false := by simpa using hd
      clear hn hnl
      have HD := Lib.hid (dec_any s p wr hk (hT.fwd hT.2 hb))
      have hd1' := dW_pos hk
      have hd2 := dW_le hpe st2 HST.out
      obtain ⟨r, hr⟩ : ∃ r, (Utf8.decode s p).1 = r := ⟨_, rfl⟩
      rw [hr] at HD
      have hx := wR_dU (l := dW s p) false hr
      have hx2 := wd_pos false s p (dW s p)
      have hx3 : Hid ((c : Int) + wd false ⟨p, dW s p, dU s p⟩ ≤ col → offOf false col (runes s stop q) 0 q = offOf false col (runes s stop (p + dW s p)) (c + wd false ⟨p, dW s p, dU s p⟩) (p + dW s p)) := fun h => by rw [hst2.out, off_go st2 hpe hlt h]
      have hx4 : Hid (col < (c : Int) + wd false ⟨p, dW s p, dU s p⟩ → offOf false col (runes s stop q) 0 q = (0, 3)) := fun h => by rw [hst2.out, off_half st2 hpe hlt h]
      have HU := Lib.hid (fun W => points_any r W)
      rw [← hx] at hx2 hx3 hx4
      generalize wR false r = x at *
      generalize dW s p = d at *
      clear hr hx hst2
      obtain ⟨x1, x2⟩ := hx2
      have hcx : (((c + x : Nat)) : Int) = (c : Int) + x := by omega
      have HCX := Lib.hid hcx
      clear hcx
      go_wp2_with fail
      refine HD.out.mono ?_
      rintro e w2 ⟨rfl, hb2⟩
      clear HD e1
      have g1 := Lib.hid ((hb2.block _ hz2).trans hb0.out)
      have hb3 := hb.trans (hb2.mono hzw)
      clear hb2 hb0 hb
      go_wp2_with fail
      refine (HU.out _).mono ?_
      rintro e w9 ⟨rfl, rfl⟩
      clear HU
      go_wp2_with fail
      go_roundw
      case rel =>
        refine ⟨p + d, c + x, by go_num, by go_num, hd2, by omega, by omega, ?_, g1, hb3⟩
        by_cases h : (c : Int) + x ≤ col
        · exact .inl ⟨by rw [HCX.out]; exact h, hx3.out h⟩
        · exact .inr ⟨by rw [HCX.out]; omega, hx4.out (by omega)⟩
      case measure => simp [intOf]; omega
    · clear hb0
      by_cases hgt : col < (c : Int)
      · have HV : Hid (V = (0, 3)) := by
          rcases hst.out with ⟨h, _⟩ | ⟨_, h⟩
          · omega
          · show _ = _; rw [HP.out, h]; rfl
        clear hst HP HST HN
        go_wp2_with fail
        go_ret2
        exact ⟨(by rw [HV.out]; try rfl), hb⟩
      · have HV : Hid (V = ((p : Int), 0)) := by
          rcases hst.out with ⟨_, h⟩ | ⟨h, _⟩
          · show _ = _; rw [HP.out, h, off_eq st2 (by omega)]
          · omega
        clear hst HP HST HN
        go_wp2_with fail
        go_ret2
        exact ⟨(by rw [HV.out]; try rfl), hb⟩
end Go.Proofs.YtmdfkahodbfjnaaDoor
