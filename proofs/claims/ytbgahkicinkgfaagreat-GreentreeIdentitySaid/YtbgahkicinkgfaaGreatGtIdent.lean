/-
  GreentreeIdentity's law, by its contract, from what the parser is asked to leave.
-/
import Derived.Test.YtbgahkicinkgfaaGreatGtKeep
namespace Go.Proofs.YtbgahkicinkgfaaGreat
open Go.RowKit

set_option maxRecDepth 100000 in
set_option maxHeartbeats 4000000 in
theorem ident_any (HP : ∀ (s : ByteArray) (w : World), s.size ≤ 80 → Calls Tryz.prog 7 #[.string s] w (ParsePost w)) (s s2 : ByteArray) (w : World) (hs : s.size ≤ maxLen) (hs2 : s2.size ≤ maxLen) :
    Calls Tryz.prog 4 #[.string s, .string s2] w fun e w' => e = .returned (.bool true) ∧ Below w.heap.size w w' := by
  have HE := fun W : World => Lib.hid (example_any W)
  have HPP := Lib.hid HP
  have HSH := fun W : World => Lib.hid (short_any s 80 W hs (by omega))
  have HSI := fun W : World => Lib.hid (short_any s2 80 W hs2 (by omega))
  clear HP
  go_enter Tryz.func4, Tryz.ntmps4
  go_wp2_with fail
  refine (HE w).out.mono ?_
  rintro e V1 ⟨rfl, hb⟩
  have HB1 : Hid (Below w.heap.size w V1) := hb
  clear hb
  go_wp2_with fail
  refine (HSH V1).out.mono ?_
  rintro e V2 ⟨rfl, rfl⟩
  go_wp2_with fail
  refine (HPP.out (cutB 80 s) V1 (cutB_size _ _)).mono ?_
  rintro e V3 ⟨hb, n, x, ra, rc, rfl, hok, hwf, hsz, hht, hk⟩
  have HB3 : Hid (Below w.heap.size w V3) := HB1.out.trans (hb.mono HB1.out.size)
  have HX := Lib.hid hok
  have HW := Lib.hid hwf
  have HSZ := Lib.hid hsz
  have HHT := Lib.hid hht
  have HK3 := Lib.hid (hk.alloc (treeBox x.k x.t (.slice ra x.c.length rc)))
  have HB4 := Lib.hid (HB3.out.alloc HB3.out.size (treeBox x.k x.t (.slice ra x.c.length rc)))
  have HT4 : Hid ((V3.alloc (treeBox x.k x.t (.slice ra x.c.length rc))).heap[V3.heap.size]? = some (.cells #[.int .i64 x.k, .string x.t, .slice ra x.c.length rc] 25 (0, 0))) := heap_alloc_new V3 _
  clear hb hok hwf hsz hht hk
  go_wp2_with fail
  change Calls _ _ _ (V3.alloc (treeBox x.k x.t (.slice ra x.c.length rc))) _
  generalize V3.alloc (treeBox x.k x.t (.slice ra x.c.length rc)) = V4 at *
  generalize V3.heap.size = H3 at *
  refine (HSI V4).out.mono ?_
  rintro e V5 ⟨rfl, rfl⟩
  go_wp2_with fail
  refine (HPP.out (cutB 80 s2) V4 (cutB_size _ _)).mono ?_
  rintro e V5 ⟨hb, n2, y, rb, rd, rfl, hok, hwf, hsz, hht, hk⟩
  have HB5 : Hid (Below w.heap.size w V5) := HB4.out.trans (hb.mono HB4.out.size)
  have HX2 := Lib.hid hok
  have HW2 := Lib.hid hwf
  have HSZ2 := Lib.hid hsz
  have HHT2 := Lib.hid hht
  have HT5 := held_to HT4.out hb
  have HT6 := Lib.hid (held_al HT5 (treeBox y.k y.t (.slice rb y.c.length rd)))
  have HK6 := Lib.hid ((HK3.out.to hb).alloc (treeBox y.k y.t (.slice rb y.c.length rd)))
  have HL6 := Lib.hid (hk.alloc (treeBox y.k y.t (.slice rb y.c.length rd)))
  have HB6 := Lib.hid (HB5.out.alloc HB5.out.size (treeBox y.k y.t (.slice rb y.c.length rd)))
  have HY6 : Hid ((V5.alloc (treeBox y.k y.t (.slice rb y.c.length rd))).heap[V5.heap.size]? = some (.cells #[.int .i64 y.k, .string y.t, .slice rb y.c.length rd] 25 (0, 0))) := heap_alloc_new V5 _
  obtain ⟨t0, t1, t2, _⟩ := three_facts HT5
  have l3 : H3 < V5.heap.size := (Array.getElem?_eq_some_iff.1 HT5).1
  clear hb hok hwf hsz hht hk HT5
  go_wp2_with fail
  change Calls _ _ _ (V5.alloc (treeBox y.k y.t (.slice rb y.c.length rd))) _
  clear t0 t1 t2 l3
  generalize V5.alloc (treeBox y.k y.t (.slice rb y.c.length rd)) = V6 at *
  generalize V5.heap.size = H5 at *
  refine (insert_ok n [] none 0 V6 x ra rc (by have := HSZ.out; simp; omega) HHT.out (Nodes.nil _ _ _) (OkTo.zero _) HX.out HK6.out).mono ?_
  intro e V7 h7
  rcases h7 with ⟨hwf, _⟩ | ⟨_, l2, a2, cap2, rfl, hg2, hn2, hb⟩
  · exact absurd HW.out (by rw [hwf]; simp)
  rw [show gs ([] : List N) = [] from rfl] at hg2 ⊢
  have HGG := Lib.hid (insT_grown x ([] : List G))
  have HOK2 : Hid (OkTo (gs l2) l2.length) := by
    have h := insT_ok (l := []) (OkTo.zero _) HW.out
    show OkTo _ _
    rw [← gs_len, hg2]
    exact h
  have HLL : Hid (l2.length ≤ 1900) := by
    have h1 := HGG.out.1.len
    rw [← hg2, gs_len] at h1
    have h2 := HSZ.out
    simp at h1
    show _ ≤ _
    omega
  have HSM : Hid ((insT [] x).2 = (insT (gs l2) y).2 ↔ x = y) := by rw [hg2]; exact insT_same Good.nil x y
  have HB7 : Hid (Below w.heap.size w V7) := HB6.out.trans (hb.mono HB6.out.size)
  have HT7 := held_to HT6.out hb
  have HY7 := held_to HY6.out hb
  have HB8 := Lib.hid (HB7.out.alloc HB7.out.size (oneBox (.slice a2 l2.length cap2)))
  have HT8 := Lib.hid (held_al HT7 (oneBox (.slice a2 l2.length cap2)))
  have HY8 := Lib.hid (held_al HY7 (oneBox (.slice a2 l2.length cap2)))
  have HK8 := Lib.hid ((HK6.out.to hb).alloc (oneBox (.slice a2 l2.length cap2)))
  have HL8 := Lib.hid ((HL6.out.to hb).alloc (oneBox (.slice a2 l2.length cap2)))
  have HN8 := Lib.hid (hn2.alloc (oneBox (.slice a2 l2.length cap2)))
  obtain ⟨y0, y1, y2, _⟩ := three_facts HY7
  have l5 : H5 < V7.heap.size := (Array.getElem?_eq_some_iff.1 HY7).1
  clear hb hg2 hn2 HGG HT7 HY7
  generalize (insT [] x).2 = i at *
  go_wp2_with fail
  change Calls _ _ _ (V7.alloc (oneBox (.slice a2 l2.length cap2))) _
  clear y0 y1 y2 l5
  generalize V7.alloc (oneBox (.slice a2 l2.length cap2)) = V8 at *
  generalize V7.heap.size = H7 at *
  refine (insert_ok n2 l2 a2 cap2 V8 y rb rd (by have := HSZ2.out; have := HLL.out; omega) HHT2.out HN8.out HOK2.out HX2.out HL8.out).mono ?_
  intro e V9 h9
  rcases h9 with ⟨hwf, _⟩ | ⟨_, l4, a4, cap4, rfl, hg4, hn4, hb⟩
  · exact absurd HW2.out (by rw [hwf]; simp)
  have HB9 : Hid (Below w.heap.size w V9) := HB8.out.trans (hb.mono HB8.out.size)
  have HB10 := Lib.hid (HB9.out.alloc HB9.out.size (oneBox (.slice a4 l4.length cap4)))
  have HT10 := Lib.hid (held_al (held_to HT8.out hb) (oneBox (.slice a4 l4.length cap4)))
  have HY10 := Lib.hid (held_al (held_to HY8.out hb) (oneBox (.slice a4 l4.length cap4)))
  have HK10 := Lib.hid ((HK8.out.to hb).alloc (oneBox (.slice a4 l4.length cap4)))
  have HL10 := Lib.hid ((HL8.out.to hb).alloc (oneBox (.slice a4 l4.length cap4)))
  clear hb hg4 hn4
  generalize (insT (gs l2) y).2 = j at *
  go_wp2_with fail
  change Calls _ _ _ (V9.alloc (oneBox (.slice a4 l4.length cap4))) _
  generalize V9.alloc (oneBox (.slice a4 l4.length cap4)) = V10 at *
  refine (HE V10).out.mono ?_
  rintro e V11 ⟨rfl, hb⟩
  have HB11 : Hid (Below w.heap.size w V11) := HB10.out.trans (hb.mono HB10.out.size)
  obtain ⟨t0, t1, t2, _⟩ := three_facts (held_to HT10.out hb)
  obtain ⟨y0, y1, y2, _⟩ := three_facts (held_to HY10.out hb)
  have HK11 := Lib.hid (HK10.out.to hb)
  have HL11 := Lib.hid (HL10.out.to hb)
  clear hb
  by_cases hxy : x = y
  · have hij : i = j := HSM.out.2 hxy
    have HXY := Lib.hid hxy
    clear hxy
    subst hij
    go_wp2_with fail
    change Calls _ _ _ V11 _
    refine (tree_eq _ x y _ _ _ _ _ V11 HX.out HX2.out HK11.out HL11.out).mono ?_
    rintro e V12 ⟨hb, h⟩
    rcases h with ⟨_, rfl⟩ | ⟨h, _⟩
    case inr => exact absurd HXY.out h
    have HB12 : Hid (Below w.heap.size w V12) := HB11.out.trans (hb.mono HB11.out.size)
    clear hb
    go_wp2_with fail
    go_ret
    exact ⟨rfl, HB12.out⟩
  · have hij : ¬ i = j := fun e => hxy (HSM.out.1 e)
    have hij' : ¬ (i : Int) = (j : Int) := by omega
    have hbq : ((i : Int) == (j : Int)) = false := by simpa using hij'
    have HXY := Lib.hid hxy
    clear hxy
    go_wp2_with fail
    change Calls _ _ _ V11 _
    refine (tree_eq _ x y _ _ _ _ _ V11 HX.out HX2.out HK11.out HL11.out).mono ?_
    rintro e V12 ⟨hb, h⟩
    rcases h with ⟨h, _⟩ | ⟨_, rfl⟩
    case inl => exact absurd h HXY.out
    have HB12 : Hid (Below w.heap.size w V12) := HB11.out.trans (hb.mono HB11.out.size)
    clear hb
    go_wp2_with fail
    go_ret
    exact ⟨rfl, HB12.out⟩
end Go.Proofs.YtbgahkicinkgfaaGreat
