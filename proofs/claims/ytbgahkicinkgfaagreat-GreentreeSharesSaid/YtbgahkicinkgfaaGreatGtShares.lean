/-
  GreentreeShares's law, by its contract, from what the parser is asked to leave.
-/
import Derived.Test.YtbgahkicinkgfaaGreatGtMod
import Derived.StillTactics
namespace Go.Proofs.YtbgahkicinkgfaaGreat
open Go.RowKit

set_option maxRecDepth 100000 in
set_option maxHeartbeats 8000000 in
theorem share_any (HP : ∀ (s : ByteArray) (w : World), s.size ≤ 80 → Calls Tryz.prog 7 #[.string s] w (ParsePost w)) (s : ByteArray) (xs xe : Int) (xt : ByteArray) (w : World) (hs : s.size ≤ maxLen) (o1 : I64 xs) (o2 : I64 xe) (o3 : xt.size ≤ maxLen) :
    Calls Tryz.prog 5 #[.string s, .agg #[.int .i64 xs, .int .i64 xe, .string xt]] w fun e w' => e = .returned (.bool true) ∧ Below w.heap.size w w' := by
  have HE := fun W : World => Lib.hid (example_any W)
  have HPP := Lib.hid HP
  have HSH := fun W : World => Lib.hid (short_any s 60 W hs (by omega))
  have KS := fun W : World => Lib.hid (short_any xt 20 W o3 (by omega))
  have hzs := cutB_size 60 s
  have hts := cutB_size 20 xt
  clear HP
  obtain ⟨z, hz⟩ : ∃ z, z = cutB 60 s := ⟨_, rfl⟩
  rw [← hz] at HSH hzs
  clear hz
  obtain ⟨t, ht⟩ : ∃ t, t = cutB 20 xt := ⟨_, rfl⟩
  rw [← ht] at KS hts
  clear ht
  have hz2 : (z.size : Int) ≤ 60 := by omega
  have KM := Lib.hid (fun W => mod_det xs (z.size + 1) W (by omega) (by omega) o1)
  have hst := gm_lt xs (m := z.size + 1) (by omega)
  rw [show ((z.size + 1 : Nat) : Int) = (z.size : Int) + 1 from by omega] at KM
  obtain ⟨st, hst2⟩ : ∃ st, st = gm xs (z.size + 1) := ⟨_, rfl⟩
  rw [← hst2] at KM hst
  clear hst2
  obtain ⟨d, hd⟩ : ∃ d : Nat, d = z.size - st := ⟨_, rfl⟩
  obtain ⟨m, hm⟩ : ∃ m : Nat, m = d + 1 := ⟨_, rfl⟩
  have KN := Lib.hid (fun W => mod_det xe m W (by omega) (by omega) o2)
  have hj := gm_lt xe (m := m) (by omega)
  obtain ⟨j, hj2⟩ : ∃ j, j = gm xe m := ⟨_, rfl⟩
  rw [← hj2] at KN hj
  clear hj2
  obtain ⟨en, hen⟩ : ∃ en : Nat, en = st + j := ⟨_, rfl⟩
  have he1 : st ≤ en := by omega
  have he2 : en ≤ z.size := by omega
  have KP := fun W : World => Lib.hid (splice_len z t st en W he1 he2 (by omega) (by omega))
  have hwa : IntKind.i64.wrap ((z.size : Int) - st) = (d : Int) := by rw [IntKind.wrap_i64]; omega
  have hwb : IntKind.i64.wrap ((d : Int) + 1) = (m : Int) := by rw [IntKind.wrap_i64]; omega
  have hwc : IntKind.i64.wrap ((st : Int) + j) = (en : Int) := by rw [IntKind.wrap_i64]; omega
  have HTS := Lib.hid hts
  have HZS := Lib.hid hzs
  clear hen hj hm hd he1 he2 hst hts hzs
  have HB0 : Hid (Below w.heap.size w (w.alloc (.cells #[.int .i64 xs, .int .i64 xe, .string xt] 41))) := (Below.refl _ _).alloc (Nat.le_refl _) _
  have HE0 : Hid ((w.alloc (.cells #[.int .i64 xs, .int .i64 xe, .string xt] 41)).heap[w.heap.size]? = some (.cells #[.int .i64 xs, .int .i64 xe, .string xt] 41 (0, 0))) := heap_alloc_new w _
  go_enter Tryz.func5, Tryz.ntmps5
  go_wp2_with fail
  change Calls _ _ _ (w.alloc (.cells #[.int .i64 xs, .int .i64 xe, .string xt] 41)) _
  generalize w.alloc (.cells #[.int .i64 xs, .int .i64 xe, .string xt] 41) = V0 at *
  refine (HE V0).out.mono ?_
  rintro e V1 ⟨rfl, hb⟩
  have HB1 : Hid (Below w.heap.size w V1) := HB0.out.trans (hb.mono HB0.out.size)
  have HE1 := Lib.hid (held_to HE0.out hb)
  clear hb
  go_wp2_with fail
  refine (HSH V1).out.mono ?_
  rintro e V2 ⟨rfl, rfl⟩
  obtain ⟨c0, c1, c2, f0, f1, f2⟩ := three_facts HE1.out
  go_wp2_with fail
  refine (KM.out V1).mono ?_
  rintro e V2 ⟨rfl, rfl⟩
  go_wp2_with fail
  have G2 := set_three0 (u := .int .i64 st) HE1.out
  have BW2 := HB1.out.setCell (p := ⟨w.heap.size, 0, none⟩) (Nat.le_refl _) (.int .i64 st)
  clear c0 c1 c2 f0 f1 f2 HB1 HE1 HB0 HE0 KM
  generalize V2.setCell ⟨w.heap.size, 0, none⟩ (.int .i64 st) = V3 at *
  obtain ⟨c0, c1, c2, f0, f1, f2⟩ := three_facts G2
  have HG2 := Lib.hid G2
  clear G2
  go_still_tail 13, (by kernel_rfl)
  still_call (KN.out _)
  repeat still_step
  refine wpStill_nil ?_
  change wpList _ _ _ _ _ V3.drew
  have G3 : (V3.setCell ⟨w.heap.size, 1, none⟩ (.int .i64 en)).drew.heap[w.heap.size]? = some (.cells #[.int .i64 st, .int .i64 en, .string xt] 41 (0, 0)) := set_three1 (u := .int .i64 en) HG2.out
  have BW3 : Below w.heap.size w (V3.setCell ⟨w.heap.size, 1, none⟩ (.int .i64 en)).drew := (BW2.setCell (p := ⟨w.heap.size, 1, none⟩) (Nat.le_refl _) (.int .i64 en)).drew
  have q2 : (V3.setCell ⟨w.heap.size, 1, none⟩ (.int .i64 en)).drew.cell? ⟨w.heap.size, 2, none⟩ = some (.string xt) := (three_facts G3).2.2.1
  have HG3 := Lib.hid G3
  clear BW2 HG2 KN hwa hwb hwc c0 G3 c2 f0 f2
  go_wp2_with fail
  change Calls _ _ _ (V3.setCell ⟨w.heap.size, 1, none⟩ (.int .i64 en)).drew _
  clear c1 f1 q2
  generalize (V3.setCell ⟨w.heap.size, 1, none⟩ (.int .i64 en)).drew = V4 at *
  refine (KS V4).out.mono ?_
  rintro e V5 ⟨rfl, rfl⟩
  obtain ⟨c0, c1, c2, f0, f1, f2⟩ := three_facts HG3.out
  have G4 := set_three2 (u := .string t) HG3.out
  have BW4 := BW3.setCell (p := ⟨w.heap.size, 2, none⟩) (Nat.le_refl _) (.string t)
  clear HG3 BW3
  go_wp2_with fail
  change Calls _ _ _ (V4.setCell ⟨w.heap.size, 2, none⟩ (.string t)) _
  clear c0 c1 c2 f0 f1 f2
  generalize V4.setCell ⟨w.heap.size, 2, none⟩ (.string t) = V6 at *
  have HG4 := Lib.hid G4
  have HB6 := Lib.hid BW4
  clear G4 BW4
  refine (HPP.out z V6 (by have := HZS.out; omega)).mono ?_
  rintro e V7 ⟨hb, n, x, ra, rc, rfl, hok, hwf, hsz, hht, hk⟩
  have HB7 : Hid (Below w.heap.size w V7) := HB6.out.trans (hb.mono HB6.out.size)
  have HX := Lib.hid hok
  have HW := Lib.hid hwf
  have HSZ := Lib.hid hsz
  have HHT := Lib.hid hht
  have HE7 := held_to HG4.out hb
  have l0 : w.heap.size < V7.heap.size := (Array.getElem?_eq_some_iff.1 HE7).1
  obtain ⟨c0, c1, c2, _⟩ := three_facts HE7
  have HE8 := Lib.hid (held_al HE7 (treeBox x.k x.t (.slice ra x.c.length rc)))
  have HK8 := Lib.hid (hk.alloc (treeBox x.k x.t (.slice ra x.c.length rc)))
  have HB8 := Lib.hid (HB7.out.alloc HB7.out.size (treeBox x.k x.t (.slice ra x.c.length rc)))
  have HT8 : Hid ((V7.alloc (treeBox x.k x.t (.slice ra x.c.length rc))).heap[V7.heap.size]? = some (.cells #[.int .i64 x.k, .string x.t, .slice ra x.c.length rc] 25 (0, 0))) := heap_alloc_new V7 _
  clear hb hok hwf hsz hht hk HE7
  go_wp2_with fail
  change Calls _ _ _ (V7.alloc (treeBox x.k x.t (.slice ra x.c.length rc))) _
  clear c0 c1 c2 l0
  generalize V7.alloc (treeBox x.k x.t (.slice ra x.c.length rc)) = V8 at *
  generalize V7.heap.size = H7 at *
  refine (KP V8).out.mono ?_
  rintro e V9 ⟨z2, rfl, hz2', hb⟩
  have HB9 : Hid (Below w.heap.size w V9) := HB8.out.trans (hb.mono HB8.out.size)
  have HT9 := Lib.hid (held_to HT8.out hb)
  have HK9 := Lib.hid (HK8.out.to hb)
  have HZ2 : Hid (z2.size ≤ 80) := by have := HZS.out; have := HTS.out; show _ ≤ _; omega
  clear hb hz2' HE8 HT8 HK8 HB8 HG4 HB6
  go_wp2_with fail
  refine (HPP.out z2 V9 HZ2.out).mono ?_
  rintro e V10 ⟨hb, n2, y, rb, rd, rfl, hok, hwf, hsz, hht, hk⟩
  have HB10 : Hid (Below w.heap.size w V10) := HB9.out.trans (hb.mono HB9.out.size)
  have HX2 := Lib.hid hok
  have HW2 := Lib.hid hwf
  have HSZ2 := Lib.hid hsz
  have HHT2 := Lib.hid hht
  have HT10 := held_to HT9.out hb
  have HT11 := Lib.hid (held_al HT10 (treeBox y.k y.t (.slice rb y.c.length rd)))
  have HK11 := Lib.hid ((HK9.out.to hb).alloc (treeBox y.k y.t (.slice rb y.c.length rd)))
  have HL11 := Lib.hid (hk.alloc (treeBox y.k y.t (.slice rb y.c.length rd)))
  have HB11 := Lib.hid (HB10.out.alloc HB10.out.size (treeBox y.k y.t (.slice rb y.c.length rd)))
  have HY11 : Hid ((V10.alloc (treeBox y.k y.t (.slice rb y.c.length rd))).heap[V10.heap.size]? = some (.cells #[.int .i64 y.k, .string y.t, .slice rb y.c.length rd] 25 (0, 0))) := heap_alloc_new V10 _
  obtain ⟨t0, t1, t2, _⟩ := three_facts HT10
  have l7 : H7 < V10.heap.size := (Array.getElem?_eq_some_iff.1 HT10).1
  clear hb hok hwf hsz hht hk HT10 HT9 HK9 HB9
  go_wp2_with fail
  change Calls _ _ _ (V10.alloc (treeBox y.k y.t (.slice rb y.c.length rd))) _
  clear t0 t1 t2 l7
  generalize V10.alloc (treeBox y.k y.t (.slice rb y.c.length rd)) = V11 at *
  generalize V10.heap.size = H10 at *
  refine (insert_ok n [] none 0 V11 x ra rc (by have := HSZ.out; simp; omega) HHT.out (Nodes.nil _ _ _) (OkTo.zero _) HX.out HK11.out).mono ?_
  intro e V12 h12
  rcases h12 with ⟨hwf, _⟩ | ⟨_, l2, a2, cap2, rfl, hg2, hn2, hb⟩
  · exact absurd HW.out (by rw [hwf]; simp)
  rw [show gs ([] : List N) = [] from rfl] at hg2 ⊢
  have HGG := Lib.hid (insT_grown x ([] : List G))
  have HG2 := Lib.hid hg2
  have HOK2 : Hid (OkTo (gs l2) l2.length) := by
    have h := insT_ok (l := []) (OkTo.zero _) HW.out
    show OkTo _ _
    rw [← gs_len, hg2]
    exact h
  have HLL : Hid (l2.length ≤ 1300) := by
    have h1 := HGG.out.1.len
    rw [← hg2, gs_len] at h1
    have h2 := HSZ.out
    simp at h1
    show _ ≤ _
    omega
  have HB12 : Hid (Below w.heap.size w V12) := HB11.out.trans (hb.mono HB11.out.size)
  have HT12 := held_to HT11.out hb
  have HY12 := held_to HY11.out hb
  have HB13 := Lib.hid (HB12.out.alloc HB12.out.size (oneBox (.slice a2 l2.length cap2)))
  have HT13 := Lib.hid (held_al HT12 (oneBox (.slice a2 l2.length cap2)))
  have HY13 := Lib.hid (held_al HY12 (oneBox (.slice a2 l2.length cap2)))
  have HA13 : Hid ((V12.alloc (oneBox (.slice a2 l2.length cap2))).heap[V12.heap.size]? = some (.cells #[.slice a2 l2.length cap2] 32 (0, 0))) := heap_alloc_new V12 _
  have HK13 := Lib.hid ((HK11.out.to hb).alloc (oneBox (.slice a2 l2.length cap2)))
  have HL13 := Lib.hid ((HL11.out.to hb).alloc (oneBox (.slice a2 l2.length cap2)))
  have HN13 := Lib.hid (hn2.alloc (oneBox (.slice a2 l2.length cap2)))
  obtain ⟨y0, y1, y2, _⟩ := three_facts HY12
  have l10 : H10 < V12.heap.size := (Array.getElem?_eq_some_iff.1 HY12).1
  clear hb hg2 hn2 HT12 HY12 HT11 HY11 HB11 HK11 HL11
  go_wp2_with fail
  change Calls _ _ _ (V12.alloc (oneBox (.slice a2 l2.length cap2))) _
  clear y0 y1 y2 l10
  generalize V12.alloc (oneBox (.slice a2 l2.length cap2)) = V13 at *
  generalize V12.heap.size = H12 at *
  refine (insert_ok n2 l2 a2 cap2 V13 y rb rd (by have := HSZ2.out; have := HLL.out; omega) HHT2.out HN13.out HOK2.out HX2.out HL13.out).mono ?_
  intro e V14 h14
  rcases h14 with ⟨hwf, _⟩ | ⟨_, l4, a4, cap4, rfl, hg4, hn4, hb⟩
  · exact absurd HW2.out (by rw [hwf]; simp)
  have HGY := Lib.hid (insT_grown y (gs l2))
  have HG4 := Lib.hid hg4
  have HOK4 : Hid (OkTo (gs l4) l4.length) := by
    have h0 : OkTo (gs l2) (gs l2).length := by rw [gs_len]; exact HOK2.out
    have h := insT_ok h0 HW2.out
    show OkTo _ _
    rw [← gs_len, hg4]
    exact h
  have HLL4 : Hid (l4.length ≤ 2600) := by
    have h1 := HGY.out.1.len
    rw [← hg4, gs_len, gs_len] at h1
    have h2 := HSZ2.out
    have h3 := HLL.out
    show _ ≤ _
    omega
  have HB14 : Hid (Below w.heap.size w V14) := HB13.out.trans (hb.mono HB13.out.size)
  have HB15 := Lib.hid (HB14.out.alloc HB14.out.size (oneBox (.slice a4 l4.length cap4)))
  have HT15 := Lib.hid (held_al (held_to HT13.out hb) (oneBox (.slice a4 l4.length cap4)))
  have HY15 := Lib.hid (held_al (held_to HY13.out hb) (oneBox (.slice a4 l4.length cap4)))
  have HA15 := Lib.hid (held_al (held_to HA13.out hb) (oneBox (.slice a4 l4.length cap4)))
  have HK15 := Lib.hid ((HK13.out.to hb).alloc (oneBox (.slice a4 l4.length cap4)))
  have HL15 := Lib.hid ((HL13.out.to hb).alloc (oneBox (.slice a4 l4.length cap4)))
  have HN15 := Lib.hid (hn4.alloc (oneBox (.slice a4 l4.length cap4)))
  have HC15 : Hid ((V14.alloc (oneBox (.slice a4 l4.length cap4))).heap[V14.heap.size]? = some (.cells #[.slice a4 l4.length cap4] 32 (0, 0))) := heap_alloc_new V14 _
  clear hb hg4 hn4 HB13 HT13 HY13 HA13 HK13 HL13 HN13
  go_wp2_with fail
  change Calls _ _ _ (V14.alloc (oneBox (.slice a4 l4.length cap4))) _
  generalize V14.alloc (oneBox (.slice a4 l4.length cap4)) = V15 at *
  generalize V14.heap.size = H14 at *
  refine (HE V15).out.mono ?_
  rintro e V16 ⟨rfl, hb⟩
  have HB16 : Hid (Below w.heap.size w V16) := HB15.out.trans (hb.mono HB15.out.size)
  have HT16 := Lib.hid (held_to HT15.out hb)
  have HY16 := Lib.hid (held_to HY15.out hb)
  have HA16 := Lib.hid (held_to HA15.out hb)
  have HC16 := Lib.hid (held_to HC15.out hb)
  have HK16 := Lib.hid (HK15.out.to hb)
  have HL16 := Lib.hid (HL15.out.to hb)
  have HN16 := Lib.hid (HN15.out.to hb)
  obtain ⟨y0, y1, y2, _⟩ := three_facts HY16.out
  clear hb HB15 HT15 HY15 HA15 HC15 HK15 HL15 HN15 HE HPP HSH KS KP
  go_wp2_with fail
  have hxl : x.c.length ≤ 1900 := by have := HSZ.out; have := size_eq x; have := length_le_sizes x.c; omega
  have hyl : y.c.length ≤ 1900 := by have := HSZ2.out; have := size_eq y; have := length_le_sizes y.c; omega
  go_loopw [93] (fun p wr => ∃ k : Nat, k ≤ y.c.length ∧ p = .int .i64 k ∧ Below V16.heap.size V16 wr)
    (fun p _ => y.c.length - (intOf p).toNat)
  case atStart => exact ⟨0, Nat.zero_le _, rfl, Below.refl _ _⟩
  case round =>
    obtain ⟨k, hk, rfl, hb⟩ := hrel
    have HBo : Hid (Below V16.heap.size V16 wr) := hb
    clear hb y0 y1 y2
    by_cases hlt : k < y.c.length
    · have hc : y.c[k]? = some y.c[k] := List.getElem?_eq_getElem hlt
      obtain ⟨c, hC⟩ : ∃ c, c = y.c[k] := ⟨_, rfl⟩
      rw [← hC] at hc
      clear hC
      obtain ⟨hcok, mc, b, o, ca, cc, hmc, rfl, hbS, p0, p1, p2, hck⟩ := (HL16.out.to HBo.out).at hc
      have HC := Lib.hid hc
      have HCO := Lib.hid hcok
      have HCW : Hid (c.wf = true) := by
        have h := HW2.out
        rw [wf_eq, Bool.and_eq_true] at h
        cases e : c.wf with
        | true => rfl
        | false => rw [wfs_false hc e] at h; exact absurd h.2 (by simp)
      have HCS : Hid (c.size ≤ 1300 ∧ c.height ≤ 200) := by
        have h1 := size_le_of hc
        have h2 := height_le_of hc
        have h3 := size_eq y
        have h4 := height_eq y
        have h5 := HSZ2.out
        have h6 := HHT2.out
        exact ⟨by omega, by omega⟩
      have hk0 : (0 : Int) ≤ (k : Int) := by omega
      have hk1 : (k : Int) < (y.c.length : Int) := by omega
      obtain ⟨wo, hwo⟩ : ∃ wo, wo = wr := ⟨_, rfl⟩
      rw [← hwo] at HBo hbS p0 p1 p2 hck ⊢
      clear hwo
      have HCK := Lib.hid (hck.alloc (treeBox c.k c.t (.slice ca c.c.length cc)))
      have HBW : Hid (Below V16.heap.size V16 (wo.alloc (treeBox c.k c.t (.slice ca c.c.length cc)))) := HBo.out.alloc HBo.out.size _
      have HCB : Hid ((wo.alloc (treeBox c.k c.t (.slice ca c.c.length cc))).heap[wo.heap.size]? = some (.cells #[.int .i64 c.k, .string c.t, .slice ca c.c.length cc] 25 (0, 0))) := heap_alloc_new wo _
      have hT := held_to HT16.out HBo.out
      obtain ⟨x0, x1, x2, _⟩ := three_facts hT
      have l7 : H7 < wo.heap.size := (Array.getElem?_eq_some_iff.1 hT).1
      clear hc hcok hck hT
      go_wp2_with fail
      go_loopw [100] (fun p wr => ∃ q : Nat, q ≤ x.c.length ∧ p = .int .i64 q ∧ Below (wo.heap.size + 1) (wo.alloc (treeBox c.k c.t (.slice ca c.c.length cc))) wr)
        (fun p _ => x.c.length - (intOf p).toNat)
      case atStart => exact ⟨0, Nat.zero_le _, rfl, Below.refl _ _⟩
      case round =>
        obtain ⟨q, hq, rfl, hb⟩ := hrel
        clear x0 x1 x2 p0 p1 p2 l7
        have z1 : (wo.alloc (treeBox c.k c.t (.slice ca c.c.length cc))).heap.size = wo.heap.size + 1 := by simp
        generalize wo.alloc (treeBox c.k c.t (.slice ca c.c.length cc)) = W1 at *
        rw [← z1] at hb
        have HBi : Hid (Below V16.heap.size V16 wr) := HBW.out.trans (hb.mono HBW.out.size)
        have HBj : Hid (Below W1.heap.size W1 wr) := hb
        have HZ1 := Lib.hid z1
        clear hb z1
        by_cases hlt2 : q < x.c.length
        · have hd : x.c[q]? = some x.c[q] := List.getElem?_eq_getElem hlt2
          obtain ⟨d', hD⟩ : ∃ d', d' = x.c[q] := ⟨_, rfl⟩
          rw [← hD] at hd
          clear hD
          obtain ⟨hdok, md, b, o, da, dc, hmd, rfl, hbS2, p0, p1, p2, hdk⟩ := (HK16.out.to HBi.out).at hd
          have HD := Lib.hid hd
          have HDO := Lib.hid hdok
          have hq0 : (0 : Int) ≤ (q : Int) := by omega
          have hq1 : (q : Int) < (x.c.length : Int) := by omega
          have HDK := Lib.hid (hdk.alloc (treeBox d'.k d'.t (.slice da d'.c.length dc)))
          have HCK2 := Lib.hid ((HCK.out.to HBj.out).alloc (treeBox d'.k d'.t (.slice da d'.c.length dc)))
          have hCB := held_to HCB.out HBj.out
          obtain ⟨x0, x1, x2, _⟩ := three_facts hCB
          have lw : wo.heap.size < wr.heap.size := (Array.getElem?_eq_some_iff.1 hCB).1
          have HBk : Hid (Below V16.heap.size V16 (wr.alloc (treeBox d'.k d'.t (.slice da d'.c.length dc)))) := HBi.out.alloc HBi.out.size _
          have HBl : Hid (Below W1.heap.size W1 (wr.alloc (treeBox d'.k d'.t (.slice da d'.c.length dc)))) := HBj.out.alloc HBj.out.size _
          have HCB2 := Lib.hid (held_al hCB (treeBox d'.k d'.t (.slice da d'.c.length dc)))
          clear hd hdok hdk hCB
          go_wp2_with fail
          change Calls _ _ _ (wr.alloc (treeBox d'.k d'.t (.slice da d'.c.length dc))) _
          clear x0 x1 x2 p0 p1 p2 lw
          generalize wr.alloc (treeBox d'.k d'.t (.slice da d'.c.length dc)) = W2 at *
          refine (tree_eq _ c d' _ _ _ _ _ W2 HCO.out HDO.out HCK2.out HDK.out).mono ?_
          rintro e W3 ⟨hb, h⟩
          have HB3 : Hid (Below V16.heap.size V16 W3) := HBk.out.trans (hb.mono HBk.out.size)
          have HB3' : Hid (Below W1.heap.size W1 W3) := HBl.out.trans (hb.mono HBl.out.size)
          have HCB3 := Lib.hid (held_to HCB2.out hb)
          have HCK3 := Lib.hid (HCK2.out.to hb)
          clear hb
          rcases h with ⟨hcd, rfl⟩ | ⟨_, rfl⟩
          · have HCD : Hid (∃ i, insT (gs l4) c = (gs l4, i) ∧ i < l2.length) := by
              have hmem : d' ∈ x.c := List.mem_of_getElem? HD.out
              obtain ⟨i, h1, h2⟩ := insT_child (l := []) Good.nil hmem (l' := gs l4) (m := y.size) (by rw [HG4.out, HG2.out]; have := HGY.out.1; rw [HG2.out] at this; exact this)
              rw [← HG2.out, gs_len] at h2
              exact ⟨i, by rw [hcd]; exact h1, h2⟩
            obtain ⟨i, hi1, hi2⟩ := HCD.out
            have HI1 := Lib.hid hi1
            have hii : (i : Int) < (l2.length : Int) := by omega
            obtain ⟨c0, _⟩ := one_facts (held_to HC16.out HB3.out)
            obtain ⟨x0, x1, x2, _⟩ := three_facts HCB3.out
            clear hi1 hcd HCD
            go_wp2_with fail
            change Calls _ _ _ W3 _
            refine (insert_ok mc l4 a4 cap4 W3 c ca cc (by have := HLL4.out; have := HCS.out.1; omega) HCS.out.2 (HN16.out.to HB3.out) HOK4.out HCO.out HCK3.out).mono ?_
            intro e W4 h4
            rcases h4 with ⟨hwf, _⟩ | ⟨_, l6, a6, cap6, rfl, hg6, hn6, hb⟩
            · exact absurd HCW.out (by rw [hwf]; simp)
            rw [HI1.out] at hg6 ⊢
            have HB4 : Hid (Below V16.heap.size V16 W4) := HB3.out.trans (hb.mono HB3.out.size)
            have HB4' : Hid (Below W1.heap.size W1 (W4.alloc (oneBox (.slice a6 l6.length cap6)))) := (HB3'.out.trans (hb.mono HB3'.out.size)).alloc (HB3'.out.trans (hb.mono HB3'.out.size)).size _
            have hA := held_to HA16.out HB4.out
            obtain ⟨a0, _⟩ := one_facts hA
            have l12 : H12 < W4.heap.size := (Array.getElem?_eq_some_iff.1 hA).1
            clear hb hg6 hn6 c0 x0 x1 x2 hA
            go_wp2_with fail
            go_roundw
            case rel => exact ⟨q + 1, by omega, by go_num, by rw [← HZ1.out]; exact HB4'.out⟩
            case measure => simp [intOf]; omega
          · go_wp2_with fail
            go_roundw
            case rel => exact ⟨q + 1, by omega, by go_num, by rw [← HZ1.out]; exact HB3'.out⟩
            case measure => simp [intOf]; omega
        · go_wp2_with fail
          go_roundw
          case rel => exact ⟨k + 1, by omega, by go_num, HBi.out⟩
          case measure => simp [intOf]; omega
    · have HGX := HGG
      have hgd2 : Good (gs l2) := by rw [HG2.out]; exact HGX.out.1.good Good.nil
      have hix : (insT [] x).2 < l2.length := by have := HGX.out.2; rw [← HG2.out, gs_len] at this; exact this
      have hjy : (insT (gs l2) y).2 < l4.length := by have := HGY.out.2; rw [← HG4.out, gs_len] at this; exact this
      have hge : l2.length ≤ l4.length := by have := HGY.out.1.ge; rw [← HG4.out, gs_len, gs_len] at this; exact this
      have htx : trAt (gs l4) (insT [] x).2 = x := by
        rw [HG4.out, trAt_grown HGY.out.1 hgd2 (by rw [gs_len]; exact hix), HG2.out]
        exact insT_tree x [] Good.nil
      have hty : trAt (gs l4) (insT (gs l2) y).2 = y := by rw [HG4.out]; exact insT_tree y (gs l2) hgd2
      have hgd4 : Good (gs l4) := by rw [HG4.out]; exact HGY.out.1.good hgd2
      have HIX : Hid ((insT [] x).2 < l4.length ∧ trAt (gs l4) (insT [] x).2 = x ∧ szAt (gs l4) (insT [] x).2 ≤ 4000) := ⟨by omega, htx, by rw [szAt_size hgd4.down _ (by rw [gs_len]; omega), htx]; have := HSZ.out; omega⟩
      have HJY : Hid ((insT (gs l2) y).2 < l4.length ∧ trAt (gs l4) (insT (gs l2) y).2 = y ∧ szAt (gs l4) (insT (gs l2) y).2 ≤ 4000) := ⟨hjy, hty, by rw [szAt_size hgd4.down _ (by rw [gs_len]; omega), hty]; have := HSZ2.out; omega⟩
      clear hgd2 hix hjy hge htx hty hgd4 HGX HGG HGY HG2 HG4
      generalize (insT [] x).2 = i at *
      generalize (insT (gs l2) y).2 = j at *
      obtain ⟨c0, _⟩ := one_facts (held_to HC16.out HBo.out)
      have HT20 := Lib.hid (held_to HT16.out HBo.out)
      have HY20 := Lib.hid (held_to HY16.out HBo.out)
      have HC20 := Lib.hid (held_to HC16.out HBo.out)
      have HK20 := Lib.hid (HK16.out.to HBo.out)
      have HL20 := Lib.hid (HL16.out.to HBo.out)
      have HN20 := Lib.hid (HN16.out.to HBo.out)
      have HB20 : Hid (Below w.heap.size w wr) := HB16.out.trans (HBo.out.mono HB16.out.size)
      clear HT16 HY16 HA16 HC16 HK16 HL16 HN16 HB16
      go_wp2_with fail
      change Calls _ _ _ wr _
      refine (tree_any l4 a4 cap4 i wr (by have := HLL4.out; omega) HN20.out).mono ?_
      rintro e V21 ⟨hb, hp⟩
      have hil := HIX.out.1
      have hiz := HIX.out.2.2
      rcases hp with ⟨h, _⟩ | ⟨_, h, _⟩ | ⟨_, _, h, _⟩ | ⟨_, _, _, qa, qc, rfl, hkq, _⟩
      · exact absurd HOK4.out h
      · exact absurd (by omega) h
      · rw [Int.toNat_natCast] at h; omega
      rw [Int.toNat_natCast, HIX.out.2.1] at hkq
      rw [Int.toNat_natCast, HIX.out.2.1]
      have HB21 : Hid (Below w.heap.size w V21) := HB20.out.trans (hb.mono HB20.out.size)
      have hC := held_to HC20.out hb
      have HB22 := Lib.hid (HB21.out.alloc HB21.out.size (treeBox x.k x.t (.slice qa x.c.length qc)))
      have HT22 := Lib.hid (held_al (held_to HT20.out hb) (treeBox x.k x.t (.slice qa x.c.length qc)))
      have HY22 := Lib.hid (held_al (held_to HY20.out hb) (treeBox x.k x.t (.slice qa x.c.length qc)))
      have HK22 := Lib.hid ((HK20.out.to hb).alloc (treeBox x.k x.t (.slice qa x.c.length qc)))
      have HL22 := Lib.hid ((HL20.out.to hb).alloc (treeBox x.k x.t (.slice qa x.c.length qc)))
      have HN22 := Lib.hid ((HN20.out.to hb).alloc (treeBox x.k x.t (.slice qa x.c.length qc)))
      have HQ22 := Lib.hid (hkq.alloc (treeBox x.k x.t (.slice qa x.c.length qc)))
      have HR22 : Hid ((V21.alloc (treeBox x.k x.t (.slice qa x.c.length qc))).heap[V21.heap.size]? = some (.cells #[.int .i64 x.k, .string x.t, .slice qa x.c.length qc] 25 (0, 0))) := heap_alloc_new V21 _
      clear c0
      obtain ⟨c0, _⟩ := one_facts hC
      have l14 : H14 < V21.heap.size := (Array.getElem?_eq_some_iff.1 hC).1
      clear hb hkq hil hiz hC HT20 HY20 HC20 HK20 HL20 HN20
      go_wp2_with fail
      change Calls _ _ _ (V21.alloc (treeBox x.k x.t (.slice qa x.c.length qc))) _
      clear c0 l14
      generalize V21.alloc (treeBox x.k x.t (.slice qa x.c.length qc)) = V22 at *
      generalize V21.heap.size = H21 at *
      refine (tree_any l4 a4 cap4 j V22 (by have := HLL4.out; omega) HN22.out).mono ?_
      rintro e V23 ⟨hb, hp⟩
      have hil := HJY.out.1
      have hiz := HJY.out.2.2
      rcases hp with ⟨h, _⟩ | ⟨_, h, _⟩ | ⟨_, _, h, _⟩ | ⟨_, _, _, pa, pc, rfl, hkq, _⟩
      · exact absurd HOK4.out h
      · exact absurd (by omega) h
      · rw [Int.toNat_natCast] at h; omega
      rw [Int.toNat_natCast, HJY.out.2.1] at hkq
      rw [Int.toNat_natCast, HJY.out.2.1]
      have HB23 : Hid (Below w.heap.size w V23) := HB22.out.trans (hb.mono HB22.out.size)
      have HB24 := Lib.hid (HB23.out.alloc HB23.out.size (treeBox y.k y.t (.slice pa y.c.length pc)))
      have HT24 := Lib.hid (held_al (held_to HT22.out hb) (treeBox y.k y.t (.slice pa y.c.length pc)))
      have HY24 := Lib.hid (held_al (held_to HY22.out hb) (treeBox y.k y.t (.slice pa y.c.length pc)))
      have HR24 := Lib.hid (held_al (held_to HR22.out hb) (treeBox y.k y.t (.slice pa y.c.length pc)))
      have HK24 := Lib.hid ((HK22.out.to hb).alloc (treeBox y.k y.t (.slice pa y.c.length pc)))
      have HL24 := Lib.hid ((HL22.out.to hb).alloc (treeBox y.k y.t (.slice pa y.c.length pc)))
      have HQ24 := Lib.hid ((HQ22.out.to hb).alloc (treeBox y.k y.t (.slice pa y.c.length pc)))
      have HM24 := Lib.hid (hkq.alloc (treeBox y.k y.t (.slice pa y.c.length pc)))
      have HS24 : Hid ((V23.alloc (treeBox y.k y.t (.slice pa y.c.length pc))).heap[V23.heap.size]? = some (.cells #[.int .i64 y.k, .string y.t, .slice pa y.c.length pc] 25 (0, 0))) := heap_alloc_new V23 _
      obtain ⟨x0, x1, x2, _⟩ := three_facts (held_to HR22.out hb)
      obtain ⟨t0, t1, t2, _⟩ := three_facts (held_to HT22.out hb)
      have l21 : H21 < V23.heap.size := (Array.getElem?_eq_some_iff.1 (held_to HR22.out hb)).1
      have l7 : H7 < V23.heap.size := (Array.getElem?_eq_some_iff.1 (held_to HT22.out hb)).1
      clear hb hkq hil hiz HT22 HY22 HR22 HK22 HL22 HQ22 HN22
      go_wp2_with fail
      change Calls _ _ _ (V23.alloc (treeBox y.k y.t (.slice pa y.c.length pc))) _
      clear x0 x1 x2 t0 t1 t2 l21 l7
      generalize V23.alloc (treeBox y.k y.t (.slice pa y.c.length pc)) = V24 at *
      generalize V23.heap.size = H23 at *
      refine (tree_yes _ x _ _ _ _ _ V24 HX.out HQ24.out HK24.out).mono ?_
      rintro e V25 ⟨rfl, hb⟩
      have HB25 : Hid (Below w.heap.size w V25) := HB24.out.trans (hb.mono HB24.out.size)
      obtain ⟨x0, x1, x2, _⟩ := three_facts (held_to HS24.out hb)
      obtain ⟨t0, t1, t2, _⟩ := three_facts (held_to HY24.out hb)
      have HM25 := Lib.hid (HM24.out.to hb)
      have HL25 := Lib.hid (HL24.out.to hb)
      clear hb
      go_wp2_with fail
      change Calls _ _ _ V25 _
      refine (tree_yes _ y _ _ _ _ _ V25 HX2.out HM25.out HL25.out).mono ?_
      rintro e V26 ⟨rfl, hb⟩
      have HB26 : Hid (Below w.heap.size w V26) := HB25.out.trans (hb.mono HB25.out.size)
      clear hb
      go_wp2_with fail
      go_ret
      exact ⟨rfl, HB26.out⟩
end Go.Proofs.YtbgahkicinkgfaaGreat
