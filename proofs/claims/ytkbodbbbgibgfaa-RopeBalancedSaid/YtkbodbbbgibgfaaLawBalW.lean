/-
  A rope stays balanced after every operation: RopeBalanced's walk, for every list of parts and every list of indices.
-/
import Derived.Test.YtkbodbbbgibgfaaLawBalP
import Derived.Deep.DeepCutAuto
import Derived.Deep.LoopGhost
namespace Go.Proofs.Ytkbodbbbgibgfaa.lawBal
open Go.RowKit
attribute [local go_sem ↓] Go.wp_at_zero Go.wp_at_succ

set_option maxHeartbeats 4000000 in
set_option maxRecDepth 100000 in
theorem walk (a : Option Addr) (l : List ByteArray) (cp : Nat) (a2 : Option Addr) (zs : List Int) (cz : Nat) (w : World) (hl : l.length ≤ cp) (hcp : cp ≤ maxLen) (hs : ∀ x ∈ l, x.size ≤ maxLen) (h : Strs w w.heap.size a l)
    (hzl : zs.length ≤ cz) (hcz : cz ≤ maxLen) (hz : Ints w w.heap.size a2 zs) :
    Calls Try.prog 5 #[.slice a l.length cp, .slice a2 zs.length cz] w fun e w' => e = .returned (.bool true) ∧ Below w.heap.size w w' := by
  obtain ⟨m, hM⟩ : ∃ m, m = min l.length 20 := ⟨_, rfl⟩
  have hm : min (l.length : Int) 20 = (m : Int) := by omega
  have m1 : m ≤ l.length := by omega
  have m2 : m ≤ 20 := by omega
  have m3 : (m : Int) ≤ l.length := by omega
  have m4 : (m : Int) ≤ cp := by omega
  have m5 : (l.length : Int) ≤ 9223372036854775807 := by unfold maxLen at hcp; omega
  have m6 : (0 : Int) ≤ m := by omega
  have m7 : (zs.length : Int) ≤ 9223372036854775807 := by unfold maxLen at hcz; omega
  have hcp' : (cp : Int) ≤ 9223372036854775807 := by unfold maxLen at hcp; omega
  have H := Lib.hid h
  have HS := Lib.hid hs
  have HZ := Lib.hid hz
  clear h hs hcp hcz hM hz
  go_enter Try.func5, Try.ntmps5
  go_wp2_with fail
  refine (example_any w).mono ?_
  rintro e w1 ⟨rfl, hb1⟩
  have zz1 := hb1.size
  go_wp2_with fail
  obtain ⟨hb2, c0, f0, hz2⟩ := one_cell w1 none
  generalize w1.alloc (.cells #[.pointer none] 27) = w2 at *
  have hB2 := hb1.trans (hb2.mono zz1)
  have R0 : Hid (IsRope w2 none []) := isRope_none w2
  have D0 : Hid (Held w2 w1.heap.size none) := ⟨c0, by omega⟩
  clear hb2 hb1 c0
  go_loopg [19] m (fun gk i wr => ∃ (k : Nat) (p : Option Addr) (c : List UInt8), gk = m - k ∧ k ≤ m ∧ i = .int .i64 k ∧ Hid (Held wr w1.heap.size p) ∧ wr.frozen? ⟨w1.heap.size, 0, none⟩ = false ∧ Hid (IsRope wr p c) ∧ Hid (c.length ≤ 100 * k) ∧ Below w.heap.size w wr)
  case atStart => exact ⟨0, none, [], rfl, Nat.zero_le _, rfl, D0, f0, R0, Nat.le_refl _, hB2⟩
  case round =>
    obtain ⟨k, p, c, rfl, hk, rfl, hD, hF, hR, hL, hb⟩ := hrel
    have hzr := hb.size
    clear R0 D0 f0 hB2
    by_cases hlt : k < m
    · have hx : l[k]? = some (l[k]'(by omega)) := List.getElem?_eq_getElem (by omega)
      obtain ⟨x, hX⟩ : ∃ x, x = l[k]'(by omega) := ⟨_, rfl⟩
      rw [← hX] at hx
      clear hX
      obtain ⟨b, o, rfl, hbb, hcell⟩ := H.out.below hb (Nat.le_refl _) k x hx
      have hxs := HS.out x (List.mem_of_getElem? hx)
      have hcut := cut_size 100 x
      have hcl : (cut 100 x).data.toList.length = (cut 100 x).size := by simp
      have K1 := Lib.hid (fun W => short_any x 100 W hxs (by omega))
      have K2 := Lib.hid (fun W => new_any (cut 100 x) W (by omega))
      have K4 := Lib.hid (fun W q (hW : Below wr.heap.size wr W) (hq : Hid (IsRope W q (cut 100 x).data.toList)) => concat_any p q _ _ W (IsRope.later hR hW) hq (by have := hL.out; omega))
      have HL2 : Hid ((c ++ (cut 100 x).data.toList).length ≤ 100 * (k + 1)) := Lib.hid (by have := hL.out; rw [List.length_append]; omega)
      have k1 : (k : Int) < m := by omega
      have cA := hD.out.1
      have z1 : w1.heap.size < wr.heap.size := hD.out.2
      clear hx hxs hcut hcl
      go_upto_region 7 with fail
      go_cut [] (fun W => ∃ (p2 : Option Addr), Hid (Held W w1.heap.size p2) ∧ W.frozen? ⟨w1.heap.size, 0, none⟩ = false ∧ Hid (IsRope W p2 (c ++ (cut 100 x).data.toList)) ∧ Below w.heap.size w W)
      case first =>
        go_region_with (first
          | (go_at_call 8; refine (K1.out _).mono ?_; rintro e wa ⟨rfl, rfl⟩)
          | (go_at_call 15; refine (K2.out _).mono ?_; rintro e wb ⟨p1, rfl, hr1, hb0⟩; have hb1 : Below wr.heap.size wr wb := (by first | exact hb0 | exact below_drew' hb0 | exact later_N _ hb0); have d1 := (hb1.cell (p := ⟨w1.heap.size, 0, none⟩) z1).trans cA; have K3 := Lib.hid (K4.out wb p1 hb1 hr1); clear K2 K4)
          | (go_at_call 14; refine K3.out.mono ?_; rintro e wc ⟨p2, rfl, hr2, hb2⟩; have hb3 := hb1.trans (hb2.mono hb1.size); have d2 := (hb3.cell (p := ⟨w1.heap.size, 0, none⟩) z1).trans cA; have g2 := (hb3.frozen (p := ⟨w1.heap.size, 0, none⟩) z1).trans hF; have z3 := hb3.size))
        all_goals
          go_wp2_with fail
          go_meet
          exact ⟨p2, Held.same ⟨d2, Nat.lt_of_lt_of_le z1 z3⟩, by rw [World.frozen?_setCell]; exact g2, hr2.out.set d2 _, (hb.trans (hb3.mono hzr)).setCell (p := ⟨w1.heap.size, 0, none⟩) zz1 _⟩
      case rest =>
        obtain ⟨p2, hD2, f2, R2, hbc⟩ := hcut
        have y3 : w1.heap.size < wc.heap.size := hD2.out.2
        have cA2 := hD2.out.1
        have zc := hbc.size
        generalize c ++ (cut 100 x).data.toList = cc at *
        have hcc : cc.length ≤ 2000 := by have := HL2.out; omega
        have hcn : (cc.length : Int) ≤ 2000 := by omega
        have hcn0 : (0 : Int) ≤ (cc.length : Int) := by omega
        clear hR hL hD hF cA hcell K1 hbb
        by_cases hk2 : k < zs.length
        · have hz0 : zs[k]? = some (zs[k]'(by omega)) := List.getElem?_eq_getElem (by omega)
          obtain ⟨z, hZ⟩ : ∃ z, z = zs[k]'(by omega) := ⟨_, rfl⟩
          rw [← hZ] at hz0
          clear hZ
          obtain ⟨hzr2, b2, o2, rfl, hbb2, hz1⟩ := ints_to HZ.out hbc k z hz0
          have k2 : (k : Int) < zs.length := by omega
          have J1 := Lib.hid (fun W (hW : Below wc.heap.size wc W) => upto2 hW (rlen_any p2 cc W (IsRope.later R2 hW)))
          have J2 := Lib.hid (fun W => mod_any z ((cc.length : Int) + 1) W (by omega) (by omega))
          have J3 := Lib.hid (fun w0 (hw0 : Below wc.heap.size wc w0) W (r : Int) (hW : Below w0.heap.size w0 W) (h0 : 0 ≤ r) (h1 : r ≤ cc.length) => split2 hW (split_in p2 cc r W (IsRope.later (IsRope.later R2 hw0) hW) h0 h1 (by omega)))
          have HSS : Hid (∀ W, Below wc.heap.size wc W → W.cell? ⟨w1.heap.size, 0, none⟩ = some (.pointer p2) ∧ W.cell? ⟨b2, o2 + k, none⟩ = some (.int .i64 z)) :=
            fun W hW => ⟨(hD2.out.to hW).1, (hW.cell (p := ⟨b2, o2 + k, none⟩) (Nat.lt_of_lt_of_le hbb2 zc)).trans hz1⟩
          have hwr : IntKind.i64.wrap ((cc.length : Int) + 1) = (cc.length : Int) + 1 := IntWalk.i64_in _ (by omega)
          clear hz0
          go_upto_region 9 with fail
          go_cut [8, 9, 10] (fun s8 s9 s10 W => ∃ (A1 A2 : Nat) (p3 p4 : Option Addr) (r : Nat), s8 = .pointer (some ⟨A1, 0, none⟩) ∧ s9 = .pointer (some ⟨A2, 0, none⟩) ∧ s10 = .int .i64 0 ∧ Hid (Fin2 w w1.heap.size A1 A2 p2 p3 p4 (cc.take r) (cc.drop r) W))
          case first =>
            go_region_held3 (fun w' => w'.cell? ⟨w1.heap.size, 0, none⟩ = some (.pointer p2) ∧ w'.cell? ⟨b2, o2 + k, none⟩ = some (.int .i64 z))
              (first
                | with_reducible exact HSS.out _ q3
                | with_reducible exact HSS.out _ q1
                | (refine HSS.out _ ?_; repeat' (first | with_reducible exact Below.refl _ _ | with_reducible exact q1 | with_reducible exact q3 | with_reducible exact below_drewN _ _ _ | with_reducible refine Below.drew ?_ | with_reducible refine Below.alloc ?_ ?_ _ | with_reducible refine Below.setCell (p := ⟨_, 0, none⟩) ?_ ?_ _ | with_reducible exact Nat.le_refl _ | with_reducible exact l3 | with_reducible exact l5 | (simp <;> omega)))
                | go_keep)
              (first
                | (go_at_call 11; refine (J1.out _ ?_).mono ?_; (repeat' (first | with_reducible exact Below.refl _ _ | with_reducible exact below_drewN _ _ _ | with_reducible refine Below.drew ?_ | with_reducible refine Below.alloc ?_ ?_ _ | with_reducible exact Nat.le_refl _ | (simp <;> omega))); rintro e wd ⟨rfl, q1, qa⟩; have l3 := q1.size; have J4 := Lib.hid (J3.out wd q1); (try with_reducible have qa := below_drew' qa); (first | with_reducible have g2 := two_fresh qa | with_reducible have g1 := one_fresh qa | skip); (try have ga := g2.1); (try have gb := g2.2); (try have ga := g1); (try have xa := ga.2.2); (try have xb := gb.2.2); clear J1 J3)
                | (go_at_call 16; refine (J2.out _).mono ?_; rintro e we ⟨r, h0, h1, rfl, rfl⟩; clear J2)
                | (go_at_call 12; refine (J4.out _ r ?_ h0 (by omega)).mono ?_; (repeat' (first | with_reducible exact Below.refl _ _ | with_reducible exact below_drewN _ _ _ | with_reducible refine Below.drew ?_ | with_reducible refine Below.alloc ?_ ?_ _ | with_reducible exact Nat.le_refl _ | (simp <;> omega))); rintro e wf ⟨p3, p4, rfl, R3, R4, q2, qb⟩; have q3 := q1.trans (q2.mono q1.size); have l5 := q3.size; have l6 := q2.size; (try have fa := Fresh.to ga q2); (try have fb := Fresh.to gb q2); (first | with_reducible have h2 := two_fresh qb | with_reducible have h3 := one_fresh qb | skip); (try have fc := h2.1); (try have fd := h2.2); (try have fc := h3); (try have xc := fc.2.2); (try have xd := fd.2.2); (try have xf := fa.2.2); (try have xg := fb.2.2); (try have a1 := fa.1); (try have a2 := fa.2.1); (try have b1 := fb.1); (try have b2 := fb.2.1); (try have c1 := fc.1); (try have c2 := fc.2.1); (try have d1 := fd.1); (try have d2 := fd.2.1); (try have na := apart xf); (try have nb := apart xg); (try have nc := apart xc); (try have nd := apart xd); (try have ne := apart xa); (try have nf := apart xb); clear J4))
            all_goals
              have HP : Parts w w1.heap.size p2 p3 p4 (cc.take r.toNat) (cc.drop r.toNat) wf := ⟨hD2.out.to q3, (q3.frozen (p := ⟨w1.heap.size, 0, none⟩) y3).trans f2, R3.out, R4.out, hbc.trans (q3.mono zc)⟩
              go_wp2_with fail
              go_meet
              refine ⟨_, _, p3, p4, r.toNat, rfl, rfl, rfl, Lib.hid ?_⟩
              first
                | with_reducible exact HP.new34
                | with_reducible exact HP.new43
                | with_reducible exact HP.old3 (by assumption) (by omega) (by omega)
                | with_reducible exact HP.old4 (by assumption) (by omega) (by omega)
                | with_reducible exact HP.old3' (by assumption) (by omega) (by omega)
                | with_reducible exact HP.old4' (by assumption) (by omega) (by omega)
                | with_reducible exact HP.both (by assumption) (by assumption) (by omega) (by omega) (by omega) (by omega) (by omega)
                | with_reducible exact HP.both' (by assumption) (by assumption) (by omega) (by omega) (by omega) (by omega) (by omega)
          case rest =>
            obtain ⟨A1, A2, p3, p4, r, rfl, rfl, rfl, HF⟩ := hcut
            have i1 := HF.out.2.1.1
            have i2 := HF.out.2.2.1
            have i3 := HF.out.1.held.1
            have lt : (cc.take r).length ≤ 10000 := by rw [List.length_take]; omega
            have ld : (cc.drop r).length ≤ 10000 := by rw [List.length_drop]; omega
            have lb : (cc.drop r).length + (cc.take r).length ≤ 1099511627776 := by rw [List.length_take, List.length_drop]; omega
            have N1 := Lib.hid (fun W (h : Hid (Fin2 w w1.heap.size A1 A2 p2 p3 p4 (cc.take r) (cc.drop r) W)) => bal_any p3 _ W (Lib.hid h.out.1.r3) lt)
            have N2 := Lib.hid (fun W (h : Hid (Fin2 w w1.heap.size A1 A2 p2 p3 p4 (cc.take r) (cc.drop r) W)) => bal_any p4 _ W (Lib.hid h.out.1.r4) ld)
            have N3 := Lib.hid (fun W (h : Hid (Fin2 w w1.heap.size A1 A2 p2 p3 p4 (cc.take r) (cc.drop r) W)) => concat_any p4 p3 _ _ W (Lib.hid h.out.1.r4) (Lib.hid h.out.1.r3) lb)
            have HL3 : Hid ((cc.drop r ++ cc.take r).length ≤ 100 * (k + 1)) := Lib.hid (by have := HL2.out; rw [List.length_append, List.length_take, List.length_drop]; omega)
            have ln : (cc.drop r ++ cc.take r).length ≤ 10000 := by have := HL3.out; omega
            clear lt ld lb J1 J2 J3 HSS
            generalize cc.drop r ++ cc.take r = cd at *
            go_wp2_with fail
            refine (N1.out wc HF).mono ?_
            rintro e wd ⟨rfl, q1⟩
            have HD := Lib.hid (HF.out.to q1)
            have j1 := HD.out.2.1.1
            have j2 := HD.out.2.2.1
            have j3 := HD.out.1.held.1
            clear i1 i2 i3 HF N1
            go_wp2_with fail
            refine (N2.out wd HD).mono ?_
            rintro e we ⟨rfl, q2⟩
            have HE := Lib.hid (HD.out.to q2)
            have i1 := HE.out.2.1.1
            have i2 := HE.out.2.2.1
            have i3 := HE.out.1.held.1
            clear j1 j2 j3 HD N2
            go_wp2_with fail
            refine (N3.out we HE).mono ?_
            rintro e wf ⟨p5, rfl, R5, q3⟩
            have HF2 := Lib.hid (HE.out.to q3)
            have j3 := HF2.out.1.held.1
            have j4 := HF2.out.1.fz
            have R6 : Hid (IsRope (wf.setCell ⟨w1.heap.size, 0, none⟩ (.pointer p5)) p5 cd) := R5.out.set j3 _
            have D6 : Hid (Held (wf.setCell ⟨w1.heap.size, 0, none⟩ (.pointer p5)) w1.heap.size p5) := Held.same HF2.out.1.held
            have f6 : (wf.setCell ⟨w1.heap.size, 0, none⟩ (.pointer p5)).frozen? ⟨w1.heap.size, 0, none⟩ = false := by rw [World.frozen?_setCell]; exact j4
            have B6 : Below w.heap.size w (wf.setCell ⟨w1.heap.size, 0, none⟩ (.pointer p5)) := HF2.out.1.below.setCell (p := ⟨w1.heap.size, 0, none⟩) zz1 _
            clear i1 i2 i3 HE N3 R5
            go_wp2_with fail
            generalize wf.setCell ⟨w1.heap.size, 0, none⟩ (.pointer p5) = wg at *
            refine (bal_any p5 cd _ R6 ln).mono ?_
            rintro e wh ⟨rfl, q4⟩
            go_wp2_with fail
            go_roundg (m - (k + 1))
            case measure => omega
            case rel => exact ⟨k + 1, p5, cd, rfl, by omega, by go_num, Held.later D6 q4, (q4.frozen (p := ⟨w1.heap.size, 0, none⟩) D6.out.2).trans f6, IsRope.later R6 q4, HL3, B6.trans (q4.mono B6.size)⟩
        · have k2 : ¬ (k : Int) < zs.length := by omega
          have cln : cc.length ≤ 10000 := by omega
          go_wp2_with fail
          refine (bal_any p2 cc _ R2 cln).mono ?_
          rintro e wh ⟨rfl, q4⟩
          go_wp2_with fail
          go_roundg (m - (k + 1))
          case measure => omega
          case rel => exact ⟨k + 1, p2, cc, rfl, by omega, by go_num, Held.later hD2 q4, (q4.frozen (p := ⟨w1.heap.size, 0, none⟩) y3).trans f2, IsRope.later R2 q4, HL2, hbc.trans (q4.mono zc)⟩
    · have k1 : ¬ (k : Int) < m := by omega
      go_wp2_with fail
      refine (example_any wr).mono ?_
      rintro e wz ⟨rfl, hbz⟩
      go_wp2_with fail
      go_ret
      exact ⟨rfl, hb.trans (hbz.mono hzr)⟩
end Go.Proofs.Ytkbodbbbgibgfaa.lawBal
