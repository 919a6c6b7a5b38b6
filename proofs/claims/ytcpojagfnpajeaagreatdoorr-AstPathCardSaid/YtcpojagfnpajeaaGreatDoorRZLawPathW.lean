/-
  AstPath walked, for every source and offset.
-/
import Derived.Test.YtcpojagfnpajeaaGreatDoorRZPrintEx
import Derived.Test.YtcpojagfnpajeaaGreatDoorRZFitHt
import Derived.Test.YtcpojagfnpajeaaGreatDoorRZPathA
import Derived.Test.YtcpojagfnpajeaaGreatDoorRZGtSlim
namespace Go.Proofs.YtcpojagfnpajeaaGreatDoorR.Ps
open Go.RowKit

/-- The node that has been reached. -/
structure AtI (W : World) (off : Int) (ab : Nat) (rest : List Nat) (y : Nd) (m : Nat) (sa : Option Addr) (cap f : Nat) (wr : World) : Prop where
  box : wr.heap[ab]? = some (nbxx y sa cap)
  kids : Nds W (fun j _ => Pl W j ∧ j ≠ ab) TEx m sa y.c
  len : y.c.length ≤ maxLen
  path : rest = pathN off f y.c
  ht : nheights y.c < f
  fr : Fr (fun j => j ≠ ab) W wr

theorem nds_fr {W wr : World} {ab m : Nat} {sa : Option Addr} {l : List Nd} (h : Nds W (fun j _ => Pl W j ∧ j ≠ ab) TEx m sa l) (hf : Fr (fun j => j ≠ ab) W wr) : Nds wr (fun j _ => Pl W j ∧ j ≠ ab) TEx m sa l :=
  h.kept fun j _ _ hj => World.cell?_of_block (hf.block j hj.2)

set_option maxRecDepth 100000 in
set_option maxHeartbeats 8000000 in
theorem path_law (s : ByteArray) (off : Int) (w : World) (hs : s.size ≤ maxLen) (hv : Vars w) (ht : Tab w) : Calls Tryz.prog 11 #[.string s, .int .i64 off] w fun e w' => e = .returned (.bool true) ∧ Below w.heap.size w w' := by
  have KE := Lib.hid (fun W h1 h2 => astExample_any W h1 h2)
  have KS := Lib.hid (fun W => short_any s 400 W hs (by decide))
  obtain ⟨z, hz⟩ : ∃ z, z = cutB 400 s := ⟨_, rfl⟩
  have hzs : z.size ≤ 400 := by rw [hz]; exact cutB_size _ _
  rw [← hz] at KS
  have KP := Lib.hid (fun W h => parse_any z W (by omega) h)
  have hrh := root_ht (l := Lx.L z) (by rw [Lx.L_len]; omega)
  obtain ⟨R, hR⟩ : ∃ R, R = rootA (Lx.L z) := ⟨_, rfl⟩
  rw [← hR] at KP hrh
  have hrn := nd_height R
  have HRH : Hid (nheights R.c ≤ 40000) := by show _ ≤ _; omega
  have HV := Lib.hid hv
  have HT := Lib.hid ht
  clear hz hzs hR hrh hrn hv ht hs
  go_enter Tryz.func11, Tryz.ntmps11
  go_wp2_with fail
  refine (KE.out w HV.out HT.out).mono ?_
  rintro e w1 ⟨rfl, hb1⟩
  have HB1 := Lib.hid hb1
  clear hb1
  go_wp2_with fail
  refine (KS.out w1).mono ?_
  rintro e w1' ⟨rfl, hww⟩
  subst hww
  go_wp2_with fail
  refine (KP.out w1 (HV.out.below HB1.out)).mono ?_
  rintro e w2 ⟨sa, cap, dv, m, rfl, hp⟩
  have hB2 : Below w.heap.size w w2 := HB1.out.trans (hp.out.below.mono HB1.out.size)
  obtain ⟨ad, nd, cd, rfl⟩ : ∃ ad nd cd, dv = .slice ad nd cd := by
    rcases hp.out.dg.2 with ⟨e, _⟩ | ⟨g, cp, cur, e, _⟩
    · exact ⟨none, 0, 0, e⟩
    · exact ⟨_, _, cp, e⟩
  go_upto_region 5 with fail
  obtain ⟨w3, hw3⟩ : ∃ w3, w3 = w2.alloc (nbxx R sa cap) := ⟨_, rfl⟩
  rw [show World.alloc w2 _ = w3 from hw3.symm]
  have hB23 : Below w2.heap.size w2 w3 := by rw [hw3]; exact below_box _ _
  have hs3 : w3.heap.size = w2.heap.size + 1 := by rw [hw3]; simp
  have hx3 : w3.heap[w2.heap.size]? = some (nbxx R sa cap) := by rw [hw3]; exact heap_alloc_new _ _
  obtain ⟨a0, a1, a2, a3, a4, a5, a6⟩ := cells7 hx3
  clear hw3
  go_upto_region 6 with fail
  obtain ⟨w4, hw4⟩ : ∃ w4, w4 = w3.alloc (nbxx R sa cap) := ⟨_, rfl⟩
  rw [show World.alloc w3 _ = w4 from hw4.symm]
  have hB34 : Below w3.heap.size w3 w4 := by rw [hw4]; exact below_box _ _
  have hs4 : w4.heap.size = w3.heap.size + 1 := by rw [hw4]; simp
  have hx4 : w4.heap[w3.heap.size]? = some (nbxx R sa cap) := by rw [hw4]; exact heap_alloc_new _ _
  obtain ⟨b0, b1, b2, b3, b4, b5, b6⟩ := cells7 ((hB34.block _ (by omega)).trans hx3)
  clear hw4 a0 a1 a2 a3 a4 a5 a6
  have hB24 : Below w2.heap.size w2 w4 := hB23.trans (hB34.mono (by omega))
  have hk4 : Nds w4 (fun j _ => Pl w4 j ∧ j < w2.heap.size) TEx m sa R.c := (hp.out.nds.kept fun j _ _ hj => World.cell?_of_block (hB24.block j hj.2.2.1.lt)).up (fun j _ hj => ⟨hj.2.2.1.below hB24, hj.2.2.1.lt⟩) (fun _ _ h => h) (Nat.le_refl _)
  have K5 := Lib.hid (path_any w4 off (n := m) (x := R) (sa := sa) (cap := cap) ⟨hp.out.ok, hp.out.c1, hp.out.c2, hp.out.c3, hk4.up (fun _ _ hj => hj.1) (fun _ _ h => h) (Nat.le_refl _)⟩ HRH.out)
  have HK4 := Lib.hid hk4
  have HX4 := Lib.hid hx4
  have HB4 : Hid (Below w.heap.size w w4) := hB2.trans (hB24.mono hB2.size)
  have hws2 := hB2.size
  have HLEN : Hid (R.c.length ≤ maxLen) := hp.out.ok.2.2.2.2.2.2
  obtain ⟨path, hPA⟩ : ∃ path, path = pathN off (nheights R.c + 1) R.c := ⟨_, rfl⟩
  rw [← hPA] at K5
  have HPA := Lib.hid hPA
  clear hPA hp hk4 hx4 hB2 hB23 hB34 hB24 hx3
  go_wp2_with (go_at_call 46; refine K5.out.mono ?_; rintro e w5 ⟨pv, rfl, hown, hb5⟩; obtain ⟨pa, pc, rfl, hints, hpn⟩ := OwnsI.ints hown.out; rw [usI_length])
  have hlt4 : w3.heap.size < w4.heap.size := by omega
  have hs5 := hb5.out.size
  have HB5 : Hid (Below w.heap.size w w5) := HB4.out.trans (hb5.out.mono (by omega))
  have HINT : Hid (∀ wr, Fr (fun j => j ≠ w3.heap.size) w5 wr → ∀ (k i : Nat), path[k]? = some i → ∃ g o, pa = some ⟨g, o, none⟩ ∧ wr.cell? ⟨g, o + k, none⟩ = some (.int .i64 (i : Int))) := fun wr hf k i hk => by
    obtain ⟨g, o, e, h1, h2⟩ := hints k (i : Int) (by simp [usI, List.getElem?_map, hk])
    have hg := World.ownsRow.lt hown.out g h1
    exact ⟨g, o, e, (World.cell?_of_block (a := ⟨g, o + k, none⟩) (hf.block g (by omega))).trans h2⟩
  have HI0 : Hid (AtI w5 off w3.heap.size path R m sa cap (nheights R.c + 1) w5) :=
    ⟨(hb5.out.block _ (by omega)).trans HX4.out, (HK4.out.kept fun j _ _ hj => World.cell?_of_block (hb5.out.block j hj.1.lt)).up (fun j _ hj => ⟨hj.1.below hb5.out, by omega⟩) (fun _ _ h => h) (Nat.le_refl _), HLEN.out, HPA.out, by omega, Fr.refl _ _⟩
  have hpl : path.length ≤ 40001 := by rw [HPA.out]; have := pathN_len off (nheights R.c + 1) R.c; have := HRH.out; omega
  obtain ⟨ab, hab⟩ : ∃ ab, ab = w3.heap.size := ⟨_, rfl⟩
  rw [← hab] at HI0 HINT hlt4
  have hwab : w.heap.size ≤ ab := by omega
  have habe : w2.heap.size + 1 = ab := by omega
  rw [habe]
  clear hown hints hpn HPA HK4 HX4 HLEN b0 b1 b2 b3 b4 b5 b6 K5 hab hs4 habe hs3
  go_loopw [28] (fun i wr => ∃ (k : Nat) (y : Nd) (m' : Nat) (ya : Option Addr) (yc f : Nat), k ≤ path.length ∧ i = .int .i64 k ∧ Hid (AtI w5 off ab (path.drop k) y m' ya yc f wr))
    (fun i _ => path.length - (intOf i).toNat)
  case atStart => exact ⟨0, R, m, sa, cap, nheights R.c + 1, Nat.zero_le _, rfl, by simpa using HI0⟩
  case round =>
    obtain ⟨k, y, m', ya, yc, f, hk, rfl, hI⟩ := hrel
    have hfz : wr.heap.size ≥ w5.heap.size := hI.out.fr.size
    have hyl := hI.out.len
    unfold maxLen at hyl
    obtain ⟨c0, c1, c2, c3, c4, c5, c6⟩ := cells7 hI.out.box
    have hlow : Below w.heap.size w wr := HB5.out.trans ⟨hI.out.fr.os, hI.out.fr.tape, hI.out.fr.output, hI.out.fr.size, fun j hj => hI.out.fr.block j (by omega)⟩
    have HLOW := Lib.hid hlow
    clear hlow
    by_cases hlt : k < path.length
    · obtain ⟨i, hI1⟩ : ∃ i, path[k]? = some i := ⟨_, List.getElem?_eq_getElem hlt⟩
      have hdrop : path.drop k = i :: path.drop (k + 1) := by
        rw [List.drop_eq_getElem_cons hlt]
        rw [List.getElem?_eq_getElem hlt] at hI1
        rw [Option.some.inj hI1]
      have hpth := hI.out.path
      rw [hdrop] at hpth
      have hht := hI.out.ht
      obtain ⟨f', rfl⟩ : ∃ f', f = f' + 1 := ⟨f - 1, by omega⟩
      unfold pathN at hpth
      cases hch : childI off y.c with
      | none => rw [hch] at hpth; cases hpth
      | some i' =>
        rw [hch] at hpth
        simp only [List.cons.injEq] at hpth
        obtain ⟨rfl, hrest⟩ := hpth
        obtain ⟨q, hq, hcov⟩ := childI_is hch
        have hkq : kidsAt y.c i = q.c := by unfold kidsAt; rw [hq]
        rw [hkq] at hrest
        have hqh := nheight_of (List.mem_of_getElem? hq)
        have hqn := nd_height q
        have hil := (List.getElem?_eq_some_iff.1 hq).1
        obtain ⟨hqo, mq, b, o, qa, qc, t, _, rfl, hS, rfl, _, _, _, hsv, hqk⟩ := Nds.at (nds_fr hI.out.kids hI.out.fr) hq
        obtain ⟨_, mq2, b2, o2, qa2, qc2, t2, _, e2, _, rfl, _, _, _, hsv2, hqk2⟩ := Nds.at hI.out.kids hq
        cases e2
        obtain ⟨g, go, rfl, hpc⟩ := HINT.out wr hI.out.fr k i hI1
        obtain ⟨d0, d1, d2, d3, d4, d5, d6⟩ := hsv
        have hk0 : (0 : Int) ≤ (k : Int) := by omega
        have hk1 : (k : Int) < (path.length : Int) := by omega
        have hi0 : (0 : Int) ≤ (i : Int) := by omega
        have hi1 : (i : Int) < (y.c.length : Int) := by omega
        have hi2 : ¬ (i : Int) < 0 := by omega
        have hi3 : ¬ (y.c.length : Int) ≤ (i : Int) := by omega
        have z0 : ∀ j, wr.frozen? ⟨ab, j, none⟩ = false := fun j => Lib.frozen_of_heap hI.out.box _
        have y0 := z0 0
        have y1 := z0 1
        have y2 := z0 2
        have y3 := z0 3
        have y4 := z0 4
        have y5 := z0 5
        have y6 := z0 6
        have hcv1 : ¬ off < q.s := by have := hcov.1; omega
        have hcv2 : ¬ q.e ≤ off := by have := hcov.2; omega
        have e6 := Value.slice.inj (Option.some.inj (((World.cell?_of_block (a := ⟨b, o + i * 7 + 6, none⟩) (hI.out.fr.block b hS.2)).trans hsv2.c6).symm.trans d6))
        have HQK : Hid (Nds w5 (fun j _ => Pl w5 j ∧ j ≠ ab) TEx mq2 qa q.c) := by rw [← e6.1]; exact hqk2
        have HREST := Lib.hid hrest
        have HQL : Hid (q.c.length ≤ maxLen) := hqo.2.2.2.2.2.2
        have HQN : Hid (nheights q.c < f') := by show _ < _; omega
        clear hdrop hch hcov hkq hqh hqn hqo hqk hsv2 hqk2 hrest z0 hI1 e6 hS hq hht
        go_upto_region 12 with fail
        obtain ⟨wn, hwn⟩ : ∃ wn, wn = put7o wr ab (.int .i64 q.k) (.int .i64 q.v) (.string (Lx.bs q.t)) (.int .i64 q.s) (.int .i64 q.e) (.int .i64 q.ns) (.slice qa q.c.length qc) := ⟨_, rfl⟩
        rw [show (((((((wr.setCell ⟨ab, 0, none⟩ (.int .i64 q.k)).setCell ⟨ab, 1, none⟩ (.int .i64 q.v)).setCell ⟨ab, 2, none⟩ (.string (Lx.bs q.t))).setCell ⟨ab, 3, none⟩ (.int .i64 q.s)).setCell ⟨ab, 4, none⟩ (.int .i64 q.e)).setCell ⟨ab, 5, none⟩ (.int .i64 q.ns)).setCell ⟨ab, 6, none⟩ (.slice qa q.c.length qc)) = wn from hwn.symm]
        have hbn : wn.heap[ab]? = some (nbxx q qa qc) := by rw [hwn]; exact put7o_heap hI.out.box _ _ _ _ _ _ _
        have hfn : Fr (fun j => j ≠ ab) wr wn := by rw [hwn]; exact put7o_fr _ _ _ _ _ _ _ _ _
        have HBN := Lib.hid hbn
        have HFN := Lib.hid hfn
        obtain ⟨e0, e1, e2, e3, e4, e5, e6⟩ := cells7 hbn
        clear hwn hbn hfn c0 c1 c2 c3 c4 c5 c6 d0 d1 d2 d3 d4 d5 d6 y0 y1 y2 y3 y4 y5 y6
        go_wp2_with fail
        go_round
        case rel => exact ⟨k + 1, q, mq2, qa, qc, f', by omega, by go_num, ⟨HBN.out, HQK.out, HQL.out, HREST.out, HQN.out, hI.out.fr.trans HFN.out⟩⟩
        case measure => simp [intOf]; omega
    · have hkl : k = path.length := by omega
      have hpth := hI.out.path
      have hht := hI.out.ht
      rw [hkl, List.drop_length] at hpth
      have hnone : childI off y.c = none := by
        cases f with
        | zero => omega
        | succ f =>
          unfold pathN at hpth
          cases hch : childI off y.c with
          | none => rfl
          | some i => rw [hch] at hpth; cases hpth
      have HNO := Lib.hid (childI_no hnone)
      have HKD := Lib.hid (nds_fr hI.out.kids hI.out.fr)
      clear hkl hpth hht hnone
      go_wp2_with fail
      rename World => wq
      go_loopw [60] (fun i wv => ∃ k : Nat, k ≤ y.c.length ∧ i = .int .i64 k ∧ Hid (Below wq.heap.size wq wv))
        (fun i _ => y.c.length - (intOf i).toNat)
      case atStart => exact ⟨0, Nat.zero_le _, rfl, Below.refl _ _⟩
      case round =>
        obtain ⟨j, hj, rfl, hBV⟩ := hrel
        have hvs := hBV.out.size
        by_cases hjl : j < y.c.length
        · have hx : y.c[j]? = some y.c[j] := List.getElem?_eq_getElem hjl
          obtain ⟨q, hQ⟩ : ∃ q, q = y.c[j] := ⟨_, rfl⟩
          rw [← hQ] at hx
          clear hQ
          obtain ⟨_, mq, b, o, qa, qc, t, _, rfl, hS, rfl, _, _, _, hsv, _⟩ := Nds.at HKD.out hx
          have hbl : b < wq.heap.size := Nat.lt_of_lt_of_le hS.1.lt hfz
          obtain ⟨d0, d1, d2, d3, d4, d5, d6⟩ := hsv.kept (fun i => hBV.out.cell (p := ⟨b, i, none⟩) hbl)
          have hn := HNO.out q (List.mem_of_getElem? hx)
          have hj0 : (0 : Int) ≤ (j : Int) := by omega
          have hj1 : (j : Int) < (y.c.length : Int) := by omega
          clear hx hsv hS c0 c1 c2 c3 c4 c5 c6
          go_upto_region 18 with fail
          obtain ⟨W, hW⟩ : ∃ W, W = wr.alloc (nbxx q qa qc) := ⟨_, rfl⟩
          rw [show World.alloc wr _ = W from hW.symm]
          have hb : W.heap[wr.heap.size]? = some (nbxx q qa qc) := by rw [hW]; exact heap_alloc_new _ _
          have HBW : Hid (Below wq.heap.size wq W) := hBV.out.trans (by rw [hW]; exact (below_box _ _).mono hvs)
          obtain ⟨e0, e1, e2, e3, e4, e5, e6⟩ := cells7 hb
          clear hW hb d0 d1 d2 d3 d4 d5 d6
          by_cases h1 : q.s ≤ off
          · have h2 : ¬ off < q.e := fun h => hn ⟨h1, h⟩
            clear hn
            go_wp2_with fail
            go_round
            case rel => exact ⟨j + 1, by omega, by go_num, HBW⟩
            case measure => simp [intOf]; omega
          · have h1' : ¬ q.s ≤ off := h1
            clear hn
            go_wp2_with fail
            go_round
            case rel => exact ⟨j + 1, by omega, by go_num, HBW⟩
            case measure => simp [intOf]; omega
        · have HBF : Hid (Below w.heap.size w wr) := HLOW.out.trans (hBV.out.mono HLOW.out.size)
          clear c0 c1 c2 c3 c4 c5 c6
          go_wp2_with fail
          refine (KE.out wr (HV.out.below HBF.out) (HT.out.below HBF.out)).mono ?_
          rintro e wz ⟨rfl, hbz⟩
          have HBZ : Hid (Below w.heap.size w wz) := HBF.out.trans (hbz.mono HBF.out.size)
          clear hbz
          go_wp2_with fail
          go_ret
          exact ⟨rfl, HBZ.out⟩
end Go.Proofs.YtcpojagfnpajeaaGreatDoorR.Ps
