/-
  GreentreeRoundTrip's law, by its contract, from what the parser is asked to leave.
-/
import Derived.Test.YtbgahkicinkgfaaGreatGtKeep
namespace Go.Proofs.YtbgahkicinkgfaaGreat
open Go.RowKit

set_option maxRecDepth 100000 in
set_option maxHeartbeats 4000000 in
theorem round_any (HP : ∀ (s : ByteArray) (w : World), s.size ≤ 80 → Calls Tryz.prog 7 #[.string s] w (ParsePost w)) (s : ByteArray) (w : World) (hs : s.size ≤ maxLen) :
    Calls Tryz.prog 3 #[.string s] w fun e w' => e = .returned (.bool true) ∧ Below w.heap.size w w' := by
  have HE := fun W : World => Lib.hid (example_any W)
  have HPP := Lib.hid HP
  have HSH := fun W : World => Lib.hid (short_any s 80 W hs (by omega))
  clear HP
  go_enter Tryz.func3, Tryz.ntmps3
  go_wp2_with fail
  refine (HE w).out.mono ?_
  rintro e V1 ⟨rfl, hb⟩
  have HB1 : Hid (Below w.heap.size w V1) := hb
  clear hb
  go_wp2_with fail
  refine (HSH V1).out.mono ?_
  rintro e V2 ⟨rfl, rfl⟩
  go_wp2_with fail
  refine (HPP.out (cutB 80 s) V1 (cutB_size _ _)).mono ?_
  rintro e V3 ⟨hb, n, x, ra, rc, rfl, hok, hwf, hsz, hht, hk⟩
  have HB3 : Hid (Below w.heap.size w V3) := HB1.out.trans (hb.mono HB1.out.size)
  have HX := Lib.hid hok
  have HW := Lib.hid hwf
  have HSZ := Lib.hid hsz
  have HHT := Lib.hid hht
  have HK3 := Lib.hid (hk.alloc (treeBox x.k x.t (.slice ra x.c.length rc)))
  have HB4 := Lib.hid (HB3.out.alloc HB3.out.size (treeBox x.k x.t (.slice ra x.c.length rc)))
  have HT4 : Hid ((V3.alloc (treeBox x.k x.t (.slice ra x.c.length rc))).heap[V3.heap.size]? = some (.cells #[.int .i64 x.k, .string x.t, .slice ra x.c.length rc] 25 (0, 0))) := heap_alloc_new V3 _
  clear hb hok hwf hsz hht hk
  go_wp2_with fail
  change Calls _ _ _ (V3.alloc (treeBox x.k x.t (.slice ra x.c.length rc))) _
  generalize V3.alloc (treeBox x.k x.t (.slice ra x.c.length rc)) = V4 at *
  generalize V3.heap.size = H3 at *
  refine (insert_ok n [] none 0 V4 x ra rc (by have := HSZ.out; simp; omega) HHT.out (Nodes.nil _ _ _) (OkTo.zero _) HX.out HK3.out).mono ?_
  intro e V5 h5
  rcases h5 with ⟨hwf, _⟩ | ⟨_, l2, a2, cap2, rfl, hg2, hn2, hb⟩
  · exact absurd HW.out (by rw [hwf]; simp)
  rw [show gs ([] : List N) = [] from rfl] at hg2 ⊢
  have HGG := Lib.hid (insT_grown x ([] : List G))
  have HG2 := Lib.hid hg2
  have HOK2 : Hid (OkTo (gs l2) l2.length) := by
    have h := insT_ok (l := []) (OkTo.zero _) HW.out
    show OkTo _ _
    rw [← gs_len, hg2]
    exact h
  have HTR : Hid (trAt (gs l2) (insT [] x).2 = x) := by show _ = _; rw [hg2]; exact insT_tree x [] Good.nil
  have HIL : Hid ((insT [] x).2 < l2.length) := by have := HGG.out.2; rw [← hg2, gs_len] at this; exact this
  have HLL : Hid (l2.length ≤ 1900) := by
    have h1 := HGG.out.1.len
    rw [← hg2, gs_len] at h1
    have h2 := HSZ.out
    simp at h1
    show _ ≤ _
    omega
  have HAG : Hid (insT (gs l2) x = (gs l2, (insT [] x).2)) := by
    have h := insT_again x [] Good.nil
    show _ = _
    rw [hg2, h]
  have HB5 : Hid (Below w.heap.size w V5) := HB4.out.trans (hb.mono HB4.out.size)
  have HT5 := Lib.hid (held_to HT4.out hb)
  have HK5 := Lib.hid (HK3.out.to hb)
  have HB6 := Lib.hid (HB5.out.alloc HB5.out.size (oneBox (.slice a2 l2.length cap2)))
  have HT6 := Lib.hid (held_al HT5.out (oneBox (.slice a2 l2.length cap2)))
  have HK6 := Lib.hid (HK5.out.alloc (oneBox (.slice a2 l2.length cap2)))
  have HN6 := Lib.hid (hn2.alloc (oneBox (.slice a2 l2.length cap2)))
  have HA6 : Hid ((V5.alloc (oneBox (.slice a2 l2.length cap2))).heap[V5.heap.size]? = some (.cells #[.slice a2 l2.length cap2] 32 (0, 0))) := heap_alloc_new V5 _
  clear hb hg2 hn2
  generalize hidx : (insT [] x).2 = idx at *
  clear hidx HGG
  go_wp2_with fail
  change Calls _ _ _ (V5.alloc (oneBox (.slice a2 l2.length cap2))) _
  generalize V5.alloc (oneBox (.slice a2 l2.length cap2)) = V6 at *
  generalize V5.heap.size = H5 at *
  refine (tree_any l2 a2 cap2 idx V6 (by have := HLL.out; omega) HN6.out).mono ?_
  rintro e V7 ⟨hb, hp⟩
  have hszt : szAt (gs l2) idx ≤ 4000 := by
    have hgd : Good (gs l2) := OkTo.good (by rw [gs_len]; exact HOK2.out)
    rw [szAt_size hgd.down idx (by rw [gs_len]; exact HIL.out), HTR.out]
    have := HSZ.out
    omega
  have hil := HIL.out
  rcases hp with ⟨h, _⟩ | ⟨_, h, _⟩ | ⟨_, _, h, _⟩ | ⟨_, _, _, qa, qc, rfl, hk7, _⟩
  · exact absurd HOK2.out h
  · exact absurd (by omega) h
  · rw [Int.toNat_natCast] at h; omega
  rw [Int.toNat_natCast, HTR.out] at hk7
  rw [Int.toNat_natCast, HTR.out]
  have HB7 : Hid (Below w.heap.size w V7) := HB6.out.trans (hb.mono HB6.out.size)
  have HB8 := Lib.hid (HB7.out.alloc HB7.out.size (treeBox x.k x.t (.slice qa x.c.length qc)))
  have HT8 := Lib.hid (held_al (held_to HT6.out hb) (treeBox x.k x.t (.slice qa x.c.length qc)))
  have HA8 := Lib.hid (held_al (held_to HA6.out hb) (treeBox x.k x.t (.slice qa x.c.length qc)))
  have HK8 := Lib.hid ((HK6.out.to hb).alloc (treeBox x.k x.t (.slice qa x.c.length qc)))
  have HN8 := Lib.hid ((HN6.out.to hb).alloc (treeBox x.k x.t (.slice qa x.c.length qc)))
  have HQ8 := Lib.hid (hk7.alloc (treeBox x.k x.t (.slice qa x.c.length qc)))
  have HR8 : Hid ((V7.alloc (treeBox x.k x.t (.slice qa x.c.length qc))).heap[V7.heap.size]? = some (.cells #[.int .i64 x.k, .string x.t, .slice qa x.c.length qc] 25 (0, 0))) := heap_alloc_new V7 _
  have HT7 := held_to HT6.out hb
  have HA7 := held_to HA6.out hb
  obtain ⟨a0, _⟩ := one_facts HA7
  obtain ⟨t0, t1, t2, _⟩ := three_facts HT7
  have l3 : H3 < V7.heap.size := (Array.getElem?_eq_some_iff.1 HT7).1
  have l5 : H5 < V7.heap.size := (Array.getElem?_eq_some_iff.1 HA7).1
  clear hb hk7 hszt hil HT7 HA7
  go_wp2_with fail
  change Calls _ _ _ (V7.alloc (treeBox x.k x.t (.slice qa x.c.length qc))) _
  clear a0 t0 t1 t2 l3 l5
  generalize V7.alloc (treeBox x.k x.t (.slice qa x.c.length qc)) = V8 at *
  generalize V7.heap.size = H7 at *
  refine (insert_ok n l2 a2 cap2 V8 x ra rc (by have := HSZ.out; have := HLL.out; omega) HHT.out HN8.out HOK2.out HX.out HK8.out).mono ?_
  intro e V9 h9
  rcases h9 with ⟨hwf, _⟩ | ⟨_, l4, a4, cap4, rfl, hg4, hn4, hb⟩
  · exact absurd HW.out (by rw [hwf]; simp)
  rw [HAG.out] at hg4 ⊢
  have hl4 : l4.length = l2.length := by have := congrArg List.length hg4; simpa [gs] using this
  rw [hl4]
  have HB9 : Hid (Below w.heap.size w V9) := HB8.out.trans (hb.mono HB8.out.size)
  have HB10 := Lib.hid (HB9.out.alloc HB9.out.size (oneBox (.slice a4 l2.length cap4)))
  have HT10 := Lib.hid (held_al (held_to HT8.out hb) (oneBox (.slice a4 l2.length cap4)))
  have HA10 := Lib.hid (held_al (held_to HA8.out hb) (oneBox (.slice a4 l2.length cap4)))
  have HR10 := Lib.hid (held_al (held_to HR8.out hb) (oneBox (.slice a4 l2.length cap4)))
  have HK10 := Lib.hid ((HK8.out.to hb).alloc (oneBox (.slice a4 l2.length cap4)))
  have HN10 := Lib.hid ((HN8.out.to hb).alloc (oneBox (.slice a4 l2.length cap4)))
  have HQ10 := Lib.hid ((HQ8.out.to hb).alloc (oneBox (.slice a4 l2.length cap4)))
  have HC10 : Hid ((V9.alloc (oneBox (.slice a4 l2.length cap4))).heap[V9.heap.size]? = some (.cells #[.slice a4 l2.length cap4] 32 (0, 0))) := heap_alloc_new V9 _
  clear hb hg4 hn4 hl4
  go_wp2_with fail
  change Calls _ _ _ (V9.alloc (oneBox (.slice a4 l2.length cap4))) _
  generalize V9.alloc (oneBox (.slice a4 l2.length cap4)) = V10 at *
  generalize V9.heap.size = H9 at *
  refine (HE V10).out.mono ?_
  rintro e V11 ⟨rfl, hb⟩
  have HB11 : Hid (Below w.heap.size w V11) := HB10.out.trans (hb.mono HB10.out.size)
  have HT11 := Lib.hid (held_to HT10.out hb)
  have HA11 := Lib.hid (held_to HA10.out hb)
  have HR11 := Lib.hid (held_to HR10.out hb)
  have HC11 := Lib.hid (held_to HC10.out hb)
  have HK11 := Lib.hid (HK10.out.to hb)
  have HN11 := Lib.hid (HN10.out.to hb)
  have HQ11 := Lib.hid (HQ10.out.to hb)
  obtain ⟨t0, t1, t2, _⟩ := three_facts HT11.out
  obtain ⟨r0, r1, r2, _⟩ := three_facts HR11.out
  clear hb
  go_wp2_with fail
  change Calls _ _ _ V11 _
  refine (tree_yes _ x _ _ _ _ _ V11 HX.out HQ11.out HK11.out).mono ?_
  rintro e V12 ⟨rfl, hb⟩
  have HB12 : Hid (Below w.heap.size w V12) := HB11.out.trans (hb.mono HB11.out.size)
  have HN12 := Lib.hid (HN11.out.to hb)
  obtain ⟨a0, _⟩ := one_facts (held_to HA11.out hb)
  obtain ⟨b0, _⟩ := one_facts (held_to HC11.out hb)
  clear hb t0 t1 t2 r0 r1 r2
  go_wp2_with fail
  change Calls _ _ _ V12 _
  refine (check_ok l2 a2 cap2 V12 (by have := HLL.out; omega) HN12.out HOK2.out).mono ?_
  rintro e V13 ⟨rfl, hb⟩
  have HB13 : Hid (Below w.heap.size w V13) := HB12.out.trans (hb.mono HB12.out.size)
  clear hb
  go_wp2_with fail
  go_ret
  exact ⟨rfl, HB13.out⟩

end Go.Proofs.YtbgahkicinkgfaaGreat
