/-
  glossatorref1.OffsetOf by its contract, for either way to count.
-/
import Derived.Test.YtmdfkahodbfjnaaDoorLine
namespace Go.Proofs.YtmdfkahodbfjnaaDoor
open Go.RowKit

set_option maxHeartbeats 2000000 in
set_option maxRecDepth 100000 in
theorem roffof_true (s : ByteArray) (ln col : Int) (w : World) (hs : s.size ≤ 1000000) (hl : -9223372036854775808 ≤ ln ∧ ln ≤ 9223372036854775807) (ho : -9223372036854775808 ≤ col ∧ col ≤ 9223372036854775807) :
    Calls Tryd.prog 16 #[.string s, .agg #[.int .i64 ln, .int .i64 col], .bool true] w fun e w' => e = .returned (.tuple #[.int .i64 (offV s true ln col).1, .int .i64 (offV s true ln col).2]) ∧ Below w.heap.size w w' := by
  obtain ⟨hl1, hl2⟩ := hl
  obtain ⟨ho1, ho2⟩ := ho
  have HS := Lib.hid (fun W => rstarts_any s W hs)
  have hlen := Lib.hid (lst_length s s.size)
  have hnls := nl_le s s.size
  have HB : Hid (Below w.heap.size w (w.alloc (.cells #[.int .i64 ln, .int .i64 col] 23))) := (Below.refl _ _).alloc (Nat.le_refl _) _
  have HBK := Lib.hid (heap_alloc_new w (.cells #[.int .i64 ln, .int .i64 col] 23))
  have HZ : Hid ((w.alloc (.cells #[.int .i64 ln, .int .i64 col] 23)).heap.size = w.heap.size + 1) := by show _ = _; simp
  by_cases c1 : ln < 0
  · have HV := Lib.hid (offV_out (s := s) (u := true) (col := col) (.inl c1))
    have d1 : decide (ln < 0) = true := decide_eq_true c1
    go_enter Tryd.func16, Tryd.ntmps16
    go_wp2_with fail
    refine (HS.out _).mono ?_
    rintro e w1 ⟨a, cap, rfl, HI, hb1⟩
    have hz1 := hb1.size
    rw [HZ.out] at hz1
    have k1 := Lib.hid ((hb1.block _ (by rw [HZ.out]; omega)).trans HBK.out)
    have B1 := HB.out.trans (hb1.mono (by rw [HZ.out]; omega))
    clear hb1 HS HB HBK HZ
    have e0 : w1.cell? ⟨w.heap.size, 0, none⟩ = some (.int .i64 ln) := by rw [Lib.cell_of_heap k1.out]; rfl
    have e1 : w1.cell? ⟨w.heap.size, 1, none⟩ = some (.int .i64 col) := by rw [Lib.cell_of_heap k1.out]; rfl
    go_wp2_with fail
    go_ret2
    exact ⟨(by rw [HV.out]; try rfl), B1⟩
  by_cases c2 : (nl s s.size : Int) < ln
  · have HV := Lib.hid (offV_out (s := s) (u := true) (col := col) (.inr c2))
    have c3 : ((lst s s.size).length : Int) ≤ ln := by rw [hlen.out]; omega
    clear c2
    have d1 : decide (ln < 0) = false := decide_eq_false c1
    go_enter Tryd.func16, Tryd.ntmps16
    go_wp2_with fail
    refine (HS.out _).mono ?_
    rintro e w1 ⟨a, cap, rfl, HI, hb1⟩
    have hz1 := hb1.size
    rw [HZ.out] at hz1
    have k1 := Lib.hid ((hb1.block _ (by rw [HZ.out]; omega)).trans HBK.out)
    have B1 := HB.out.trans (hb1.mono (by rw [HZ.out]; omega))
    clear hb1 HS HB HBK HZ
    have e0 : w1.cell? ⟨w.heap.size, 0, none⟩ = some (.int .i64 ln) := by rw [Lib.cell_of_heap k1.out]; rfl
    have e1 : w1.cell? ⟨w.heap.size, 1, none⟩ = some (.int .i64 col) := by rw [Lib.cell_of_heap k1.out]; rfl
    go_wp2_with fail
    go_ret2
    exact ⟨(by rw [HV.out]; try rfl), B1⟩
  obtain ⟨k, rfl⟩ : ∃ k : Nat, ln = k := ⟨ln.toNat, by omega⟩
  have hk : k < (lst s s.size).length := by rw [hlen.out]; omega
  obtain ⟨q, hq⟩ : ∃ q : Nat, (lst s s.size)[k]? = some (q : Int) := by
    obtain ⟨q, e, _⟩ := lst_ls s _ _ _ (List.getElem?_eq_getElem hk)
    exact ⟨q, by rw [List.getElem?_eq_getElem hk, e]⟩
  have hqs : q ≤ s.size := by
    obtain ⟨q', e, h, _⟩ := lst_ls s _ _ _ hq
    omega
  have HP : Hid (offV s true k col = (((offOf true col (lineAt s q) 0 q).1 : Int), (offOf true col (lineAt s q) 0 q).2)) := offV_in hq
  have HLn := Lib.hid (fun W => line_any s q W hs hqs)
  have hspec := le_spec hqs
  have hmem := runes_mem (s := s) hspec.2.1 hspec.2.2.1 _ q (Nat.le_refl _)
  have hrl := runes_length s _ hspec.2.1 _ q (Nat.le_refl _)
  have hrl2 : (runes s (le s q) q).length ≤ 1000000 := by omega
  have hsp2 : le s q ≤ 1000000 := by omega
  have HM : Hid (∀ r, r ∈ lineAt s q → r.p + r.l ≤ 1000000 ∧ (r.u = 1 ∨ r.u = 2)) := fun r hr => by
    obtain ⟨_, _, h3, h4⟩ := hmem r hr
    exact ⟨by omega, h4⟩
  have HLEN : Hid ((lineAt s q).length ≤ 1000000) := hrl2
  clear hmem hrl hrl2 hsp2 hspec
  generalize offV s true k col = V at *
  generalize lineAt s q = rs at *
  have HQ := Lib.hid hq
  have hk0 : (0 : Int) ≤ k := by omega
  have hk1 : (k : Int) < ((lst s s.size).length : Int) := by omega
  have d1 : decide ((k : Int) < 0) = false := decide_eq_false (by omega)
  have d2 : decide ((lst s s.size).length ≤ k) = false := decide_eq_false (by omega)
  clear c1 c2 hq hlen hnls
  generalize lst s s.size = K at *
  go_enter Tryd.func16, Tryd.ntmps16
  go_wp2_with fail
  refine (HS.out _).mono ?_
  rintro e w1 ⟨a, cap, rfl, HI, hb1⟩
  have hz1 := hb1.size
  rw [HZ.out] at hz1
  have k1 := Lib.hid ((hb1.block _ (by rw [HZ.out]; omega)).trans HBK.out)
  have B1 := HB.out.trans (hb1.mono (by rw [HZ.out]; omega))
  clear hb1 HS HB HBK HZ
  have e0 : w1.cell? ⟨w.heap.size, 0, none⟩ = some (.int .i64 k) := by rw [Lib.cell_of_heap k1.out]; rfl
  have e1 : w1.cell? ⟨w.heap.size, 1, none⟩ = some (.int .i64 col) := by rw [Lib.cell_of_heap k1.out]; rfl
  obtain ⟨_, b, oo, rfl, hbl, g0⟩ := HI.out k q HQ.out
  clear HI HQ
  go_wp2_with fail
  go_quiet (fail)
  have hdn := fun j => Lib.hid (below_drew (Below.refl w1.heap.size w1) j)
  have k1' : ∀ j, Hid ((w1.drewN j).heap[w.heap.size]? = some (.cells #[.int .i64 k, .int .i64 col] 23 (0, 0))) := fun j => k1.out
  have B1' : ∀ j, Hid (Below w.heap.size w (w1.drewN j)) := fun j => below_drew B1 j
  clear k1 B1 hdn
  go_wp2_with fail
  refine (HLn.out _).mono ?_
  rintro e w2 ⟨a2, cap2, rfl, HR, hb2⟩
  have B2 := (B1' _).out.trans (hb2.mono (B1' _).out.size)
  have k2 := Lib.hid (below_kept hb2 (k1' _).out)
  clear hb2 k1' B1' HLn g0 hbl e0 e1
  have hq9 : q ≤ 1000000 := by omega
  go_wp2_with fail
  go_loopw [9, 10, 38] (fun ci ei ki wr => ∃ (k' c en : Nat), ki = .int .i64 k' ∧ ci = .int .i64 c ∧ ei = .int .i64 en ∧ k' ≤ rs.length ∧ c ≤ 2 * k' ∧ en ≤ 1000000 ∧ Hid (offOf true col rs 0 q = offOf true col (rs.drop k') c en) ∧ Hid (Rs wr wr.heap.size a2 rs) ∧ Hid (wr.heap[w.heap.size]? = some (.cells #[.int .i64 k, .int .i64 col] 23 (0, 0))) ∧ Below w.heap.size w wr)
    (fun _ _ ki _ => rs.length - (intOf ki).toNat)
  case atStart => exact ⟨0, 0, q, rfl, rfl, rfl, Nat.zero_le _, Nat.zero_le _, hq9, rfl, HR, k2, B2⟩
  case round =>
    clear HR k2 B2 hk0 hk1
    have HK := Lib.hid hk
    clear hk
    obtain ⟨k, c, en, rfl, rfl, rfl, hk, hck, hen, hst, HR, k3, B3⟩ := hrel
    have hz9 := lt_of_block k3.out
    have hl9 := HLEN.out
    obtain ⟨a0, a1⟩ := two_at k3.out
    by_cases hlt : k < rs.length
    · have hx : rs[k]? = some rs[k] := List.getElem?_eq_getElem hlt
      have hdrop := List.drop_eq_getElem_cons hlt
      obtain ⟨x, hX⟩ : ∃ x, x = rs[k] := ⟨_, rfl⟩
      rw [← hX] at hx hdrop
      clear hX
      obtain ⟨m1, m2⟩ := HM.out x (List.mem_of_getElem? hx)
      have hx9 : x.u ≤ 2 := by omega
      have hst2 : Hid (offOf true col rs 0 q = if (c : Int) = col then (x.p, 0) else if True ∧ x.u = 2 ∧ (c : Int) + 1 = col then (0, 3) else offOf true col (rs.drop (k + 1)) (c + x.u) (x.p + x.l)) := by
        show _ = _; rw [hst.out, hdrop, offOf]; simp [wd]
      obtain ⟨b2, o2, rfl, hb2, g0, g1, g2⟩ := HR.out k x hx
      have HR4 := Lib.hid (HR.out.to ((Below.refl _ wr).alloc (Nat.le_refl _) (.cells #[.int .i64 x.p, .int .i64 x.l, .int .i64 x.u] 45)))
      have k4 := Lib.hid ((Below.heap_alloc wr (.cells #[.int .i64 x.p, .int .i64 x.l, .int .i64 x.u] 45) _ hz9).trans k3.out)
      have B4 := Lib.hid (B3.alloc B3.size (.cells #[.int .i64 x.p, .int .i64 x.l, .int .i64 x.u] 45))
      have hk0 : (0 : Int) ≤ k := by omega
      have hk1 : (k : Int) < (rs.length : Int) := by omega
      clear hx hdrop hst m2
      by_cases e1 : (c : Int) = col
      · have HV : Hid (V = ((x.p : Int), 0)) := by show _ = _; rw [HP.out, hst2.out, if_pos e1]
        have q1 : ((c : Int) == col) = true := by simpa using e1
        clear hst2 HP HM HR4 k3 k4 HR e1
        go_wp2_with fail
        go_ret2
        exact ⟨(by rw [HV.out]; try rfl), B4.out⟩
      have q0 : ((c : Int) == col) = false := by simpa using e1
      by_cases e2 : (True ∧ x.u = 2 ∧ (c : Int) + 1 = col)
      · have HV : Hid (V = (0, 3)) := by show _ = _; rw [HP.out, hst2.out, if_neg e1, if_pos e2]; rfl
        have q1 : ((x.u : Int) == 2) = true := by have := e2.2.1; simp; omega
        have q2 : ((c : Int) + 1 == col) = true := by have := e2.2.2; simp; omega
        clear hst2 HP HM HR4 k3 k4 HR e2
        go_wp2_with fail
        go_ret2
        exact ⟨(by rw [HV.out]; try rfl), B4.out⟩
      by_cases q1 : x.u = 2
      · have q2 : ((c : Int) + 1 == col) = false := by
          have : ¬ (c : Int) + 1 = col := fun h => e2 ⟨trivial, q1, h⟩
          simpa using this
        have q3 : ((x.u : Int) == 2) = true := by simp; omega
        clear q1
        have hst3 : Hid (offOf true col rs 0 q = offOf true col (rs.drop (k + 1)) (c + x.u) (x.p + x.l)) := by show _ = _; rw [hst2.out, if_neg e1, if_neg e2]
        clear hst2 HP
        go_wp2_with fail
        go_roundw
        case rel => exact ⟨k + 1, c + x.u, x.p + x.l, by go_num, by go_num, by go_num, by omega, by omega, m1, hst3, HR4, k4, B4.out⟩
        case measure => simp [intOf]; omega
      · have q3 : ((x.u : Int) == 2) = false := by simp; omega
        have hst3 : Hid (offOf true col rs 0 q = offOf true col (rs.drop (k + 1)) (c + x.u) (x.p + x.l)) := by show _ = _; rw [hst2.out, if_neg e1, if_neg e2]
        clear hst2 HP
        go_wp2_with fail
        go_roundw
        case rel => exact ⟨k + 1, c + x.u, x.p + x.l, by go_num, by go_num, by go_num, by omega, by omega, m1, hst3, HR4, k4, B4.out⟩
        case measure => simp [intOf]; omega
    · by_cases e1 : (c : Int) = col
      · have HV : Hid (V = ((en : Int), 0)) := by show _ = _; rw [HP.out, hst.out, List.drop_eq_nil_of_le (by omega), offOf, if_pos e1]
        have q1 : ((c : Int) == col) = true := by simpa using e1
        clear hst HP HM HR k3 e1
        go_wp2_with fail
        go_ret2
        exact ⟨(by rw [HV.out]; try rfl), B3⟩
      · have HV : Hid (V = (0, 1)) := by show _ = _; rw [HP.out, hst.out, List.drop_eq_nil_of_le (by omega), offOf, if_neg e1]; rfl
        have q0 : ((c : Int) == col) = false := by simpa using e1
        clear hst HP HM HR k3 e1
        go_wp2_with fail
        go_ret2
        exact ⟨(by rw [HV.out]; try rfl), B3⟩

set_option maxHeartbeats 2000000 in
set_option maxRecDepth 100000 in
theorem roffof_false (s : ByteArray) (ln col : Int) (w : World) (hs : s.size ≤ 1000000) (hl : -9223372036854775808 ≤ ln ∧ ln ≤ 9223372036854775807) (ho : -9223372036854775808 ≤ col ∧ col ≤ 9223372036854775807) :
    Calls Tryd.prog 16 #[.string s, .agg #[.int .i64 ln, .int .i64 col], .bool false] w fun e w' => e = .returned (.tuple #[.int .i64 (offV s false ln col).1, .int .i64 (offV s false ln col).2]) ∧ Below w.heap.size w w' := by
  obtain ⟨hl1, hl2⟩ := hl
  obtain ⟨ho1, ho2⟩ := ho
  have HS := Lib.hid (fun W => rstarts_any s W hs)
  have hlen := Lib.hid (lst_length s s.size)
  have hnls := nl_le s s.size
  have HB : Hid (Below w.heap.size w (w.alloc (.cells #[.int .i64 ln, .int .i64 col] 23))) := (Below.refl _ _).alloc (Nat.le_refl _) _
  have HBK := Lib.hid (heap_alloc_new w (.cells #[.int .i64 ln, .int .i64 col] 23))
  have HZ : Hid ((w.alloc (.cells #[.int .i64 ln, .int .i64 col] 23)).heap.size = w.heap.size + 1) := by show _ = _; simp
  by_cases c1 : ln < 0
  · have HV := Lib.hid (offV_out (s := s) (u := false) (col := col) (.inl c1))
    have d1 : decide (ln < 0) = true := decide_eq_true c1
    go_enter Tryd.func16, Tryd.ntmps16
    go_wp2_with fail
    refine (HS.out _).mono ?_
    rintro e w1 ⟨a, cap, rfl, HI, hb1⟩
    have hz1 := hb1.size
    rw [HZ.out] at hz1
    have k1 := Lib.hid ((hb1.block _ (by rw [HZ.out]; omega)).trans HBK.out)
    have B1 := HB.out.trans (hb1.mono (by rw [HZ.out]; omega))
    clear hb1 HS HB HBK HZ
    have e0 : w1.cell? ⟨w.heap.size, 0, none⟩ = some (.int .i64 ln) := by rw [Lib.cell_of_heap k1.out]; rfl
    have e1 : w1.cell? ⟨w.heap.size, 1, none⟩ = some (.int .i64 col) := by rw [Lib.cell_of_heap k1.out]; rfl
    go_wp2_with fail
    go_ret2
    exact ⟨(by rw [HV.out]; try rfl), B1⟩
  by_cases c2 : (nl s s.size : Int) < ln
  · have HV := Lib.hid (offV_out (s := s) (u := false) (col := col) (.inr c2))
    have c3 : ((lst s s.size).length : Int) ≤ ln := by rw [hlen.out]; omega
    clear c2
    have d1 : decide (ln < 0) = false := decide_eq_false c1
    go_enter Tryd.func16, Tryd.ntmps16
    go_wp2_with fail
    refine (HS.out _).mono ?_
    rintro e w1 ⟨a, cap, rfl, HI, hb1⟩
    have hz1 := hb1.size
    rw [HZ.out] at hz1
    have k1 := Lib.hid ((hb1.block _ (by rw [HZ.out]; omega)).trans HBK.out)
    have B1 := HB.out.trans (hb1.mono (by rw [HZ.out]; omega))
    clear hb1 HS HB HBK HZ
    have e0 : w1.cell? ⟨w.heap.size, 0, none⟩ = some (.int .i64 ln) := by rw [Lib.cell_of_heap k1.out]; rfl
    have e1 : w1.cell? ⟨w.heap.size, 1, none⟩ = some (.int .i64 col) := by rw [Lib.cell_of_heap k1.out]; rfl
    go_wp2_with fail
    go_ret2
    exact ⟨(by rw [HV.out]; try rfl), B1⟩
  obtain ⟨k, rfl⟩ : ∃ k : Nat, ln = k := ⟨ln.toNat, by omega⟩
  have hk : k < (lst s s.size).length := by rw [hlen.out]; omega
  obtain ⟨q, hq⟩ : ∃ q : Nat, (lst s s.size)[k]? = some (q : Int) := by
    obtain ⟨q, e, _⟩ := lst_ls s _ _ _ (List.getElem?_eq_getElem hk)
    exact ⟨q, by rw [List.getElem?_eq_getElem hk, e]⟩
  have hqs : q ≤ s.size := by
    obtain ⟨q', e, h, _⟩ := lst_ls s _ _ _ hq
    omega
  have HP : Hid (offV s false k col = (((offOf false col (lineAt s q) 0 q).1 : Int), (offOf false col (lineAt s q) 0 q).2)) := offV_in hq
  have HLn := Lib.hid (fun W => line_any s q W hs hqs)
  have hspec := le_spec hqs
  have hmem := runes_mem (s := s) hspec.2.1 hspec.2.2.1 _ q (Nat.le_refl _)
  have hrl := runes_length s _ hspec.2.1 _ q (Nat.le_refl _)
  have hrl2 : (runes s (le s q) q).length ≤ 1000000 := by omega
  have hsp2 : le s q ≤ 1000000 := by omega
  have HM : Hid (∀ r, r ∈ lineAt s q → r.p + r.l ≤ 1000000 ∧ (r.u = 1 ∨ r.u = 2)) := fun r hr => by
    obtain ⟨_, _, h3, h4⟩ := hmem r hr
    exact ⟨by omega, h4⟩
  have HLEN : Hid ((lineAt s q).length ≤ 1000000) := hrl2
  clear hmem hrl hrl2 hsp2 hspec
  generalize offV s false k col = V at *
  generalize lineAt s q = rs at *
  have HQ := Lib.hid hq
  have hk0 : (0 : Int) ≤ k := by omega
  have hk1 : (k : Int) < ((lst s s.size).length : Int) := by omega
  have d1 : decide ((k : Int) < 0) = false := decide_eq_false (by omega)
  have d2 : decide ((lst s s.size).length ≤ k) = false := decide_eq_false (by omega)
  clear c1 c2 hq hlen hnls
  generalize lst s s.size = K at *
  go_enter Tryd.func16, Tryd.ntmps16
  go_wp2_with fail
  refine (HS.out _).mono ?_
  rintro e w1 ⟨a, cap, rfl, HI, hb1⟩
  have hz1 := hb1.size
  rw [HZ.out] at hz1
  have k1 := Lib.hid ((hb1.block _ (by rw [HZ.out]; omega)).trans HBK.out)
  have B1 := HB.out.trans (hb1.mono (by rw [HZ.out]; omega))
  clear hb1 HS HB HBK HZ
  have e0 : w1.cell? ⟨w.heap.size, 0, none⟩ = some (.int .i64 k) := by rw [Lib.cell_of_heap k1.out]; rfl
  have e1 : w1.cell? ⟨w.heap.size, 1, none⟩ = some (.int .i64 col) := by rw [Lib.cell_of_heap k1.out]; rfl
  obtain ⟨_, b, oo, rfl, hbl, g0⟩ := HI.out k q HQ.out
  clear HI HQ
  go_wp2_with fail
  go_quiet (fail)
  have hdn := fun j => Lib.hid (below_drew (Below.refl w1.heap.size w1) j)
  have k1' : ∀ j, Hid ((w1.drewN j).heap[w.heap.size]? = some (.cells #[.int .i64 k, .int .i64 col] 23 (0, 0))) := fun j => k1.out
  have B1' : ∀ j, Hid (Below w.heap.size w (w1.drewN j)) := fun j => below_drew B1 j
  clear k1 B1 hdn
  go_wp2_with fail
  refine (HLn.out _).mono ?_
  rintro e w2 ⟨a2, cap2, rfl, HR, hb2⟩
  have B2 := (B1' _).out.trans (hb2.mono (B1' _).out.size)
  have k2 := Lib.hid (below_kept hb2 (k1' _).out)
  clear hb2 k1' B1' HLn g0 hbl e0 e1
  have hq9 : q ≤ 1000000 := by omega
  go_wp2_with fail
  go_loopw [9, 10, 38] (fun ci ei ki wr => ∃ (k' c en : Nat), ki = .int .i64 k' ∧ ci = .int .i64 c ∧ ei = .int .i64 en ∧ k' ≤ rs.length ∧ c ≤ 2 * k' ∧ en ≤ 1000000 ∧ Hid (offOf false col rs 0 q = offOf false col (rs.drop k') c en) ∧ Hid (Rs wr wr.heap.size a2 rs) ∧ Hid (wr.heap[w.heap.size]? = some (.cells #[.int .i64 k, .int .i64 col] 23 (0, 0))) ∧ Below w.heap.size w wr)
    (fun _ _ ki _ => rs.length - (intOf ki).toNat)
  case atStart => exact ⟨0, 0, q, rfl, rfl, rfl, Nat.zero_le _, Nat.zero_le _, hq9, rfl, HR, k2, B2⟩
  case round =>
    clear HR k2 B2 hk0 hk1
    have HK := Lib.hid hk
    clear hk
    obtain ⟨k, c, en, rfl, rfl, rfl, hk, hck, hen, hst, HR, k3, B3⟩ := hrel
    have hz9 := lt_of_block k3.out
    have hl9 := HLEN.out
    obtain ⟨a0, a1⟩ := two_at k3.out
    by_cases hlt : k < rs.length
    · have hx : rs[k]? = some rs[k] := List.getElem?_eq_getElem hlt
      have hdrop := List.drop_eq_getElem_cons hlt
      obtain ⟨x, hX⟩ : ∃ x, x = rs[k] := ⟨_, rfl⟩
      rw [← hX] at hx hdrop
      clear hX
      obtain ⟨m1, m2⟩ := HM.out x (List.mem_of_getElem? hx)
      have hx9 : x.u ≤ 2 := by omega
      have hst2 : Hid (offOf false col rs 0 q = if (c : Int) = col then (x.p, 0) else if False ∧ x.u = 2 ∧ (c : Int) + 1 = col then (0, 3) else offOf false col (rs.drop (k + 1)) (c + 1) (x.p + x.l)) := by
        show _ = _; rw [hst.out, hdrop, offOf]; simp [wd]
      obtain ⟨b2, o2, rfl, hb2, g0, g1, g2⟩ := HR.out k x hx
      have HR4 := Lib.hid (HR.out.to ((Below.refl _ wr).alloc (Nat.le_refl _) (.cells #[.int .i64 x.p, .int .i64 x.l, .int .i64 x.u] 45)))
      have k4 := Lib.hid ((Below.heap_alloc wr (.cells #[.int .i64 x.p, .int .i64 x.l, .int .i64 x.u] 45) _ hz9).trans k3.out)
      have B4 := Lib.hid (B3.alloc B3.size (.cells #[.int .i64 x.p, .int .i64 x.l, .int .i64 x.u] 45))
      have hk0 : (0 : Int) ≤ k := by omega
      have hk1 : (k : Int) < (rs.length : Int) := by omega
      clear hx hdrop hst m2
      by_cases e1 : (c : Int) = col
      · have HV : Hid (V = ((x.p : Int), 0)) := by show _ = _; rw [HP.out, hst2.out, if_pos e1]
        have q1 : ((c : Int) == col) = true := by simpa using e1
        clear hst2 HP HM HR4 k3 k4 HR e1
        go_wp2_with fail
        go_ret2
        exact ⟨(by rw [HV.out]; try rfl), B4.out⟩
      have q0 : ((c : Int) == col) = false := by simpa using e1
      have e2 : ¬ (False ∧ x.u = 2 ∧ (c : Int) + 1 = col) := fun h => h.1
      have hst3 : Hid (offOf false col rs 0 q = offOf false col (rs.drop (k + 1)) (c + 1) (x.p + x.l)) := by show _ = _; rw [hst2.out, if_neg e1, if_neg e2]
      clear hst2 HP
      go_wp2_with fail
      go_roundw
      case rel => exact ⟨k + 1, c + 1, x.p + x.l, by go_num, by go_num, by go_num, by omega, by omega, m1, hst3, HR4, k4, B4.out⟩
      case measure => simp [intOf]; omega
    · by_cases e1 : (c : Int) = col
      · have HV : Hid (V = ((en : Int), 0)) := by show _ = _; rw [HP.out, hst.out, List.drop_eq_nil_of_le (by omega), offOf, if_pos e1]
        have q1 : ((c : Int) == col) = true := by simpa using e1
        clear hst HP HM HR k3 e1
        go_wp2_with fail
        go_ret2
        exact ⟨(by rw [HV.out]; try rfl), B3⟩
      · have HV : Hid (V = (0, 1)) := by show _ = _; rw [HP.out, hst.out, List.drop_eq_nil_of_le (by omega), offOf, if_neg e1]; rfl
        have q0 : ((c : Int) == col) = false := by simpa using e1
        clear hst HP HM HR k3 e1
        go_wp2_with fail
        go_ret2
        exact ⟨(by rw [HV.out]; try rfl), B3⟩
end Go.Proofs.YtmdfkahodbfjnaaDoor
