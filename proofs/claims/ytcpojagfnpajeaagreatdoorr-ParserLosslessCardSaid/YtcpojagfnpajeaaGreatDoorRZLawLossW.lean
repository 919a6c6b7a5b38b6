/-
  ParserLossless walked: the source of the syntax tree is the parsed source, for every source.
-/
import Derived.Test.YtcpojagfnpajeaaGreatDoorRZAsEx
namespace Go.Proofs.YtcpojagfnpajeaaGreatDoorR.Ps
open Go.RowKit

set_option maxHeartbeats 1000000 in
theorem tokenize_long (s : ByteArray) (w : World) (hs : 2000 < s.size) (hmax : s.size ≤ maxLen) : Calls Tryz.prog 22 #[.string s] w fun e w' => e = .returned (.tuple #[.slice none 0 0, .int .i64 2]) ∧ w' = w := by
  have g0 : (2000 : Int) < s.size := by omega
  have g1 : (s.size : Int) ≤ 9223372036854775807 := by unfold maxLen at hmax; omega
  go_enter Tryz.func22, Tryz.ntmps22
  go_wp2_with fail
  go_ret2
  exact ⟨rfl, rfl⟩
set_option maxHeartbeats 1000000 in
theorem pparse_long (s : ByteArray) (w : World) (hs : 2000 < s.size) (hmax : s.size ≤ maxLen) : Calls Tryz.prog 15 #[.string s] w fun e w' => e = .returned (.tuple #[.agg #[.int .i64 0, .string ⟨#[]⟩, .slice none 0 0], .int .i64 2]) ∧ Below w.heap.size w w' := by
  have K1 := Lib.hid (fun W => tokenize_long s W hs hmax)
  go_enter Tryz.func15, Tryz.ntmps15
  go_upto_region 1 with fail
  obtain ⟨w1, hw1⟩ : ∃ w1, w1 = w.alloc (.cells #[.int .i64 0, .string ⟨#[]⟩, .slice none 0 0] 25) := ⟨_, rfl⟩
  rw [show World.alloc w _ = w1 from hw1.symm]
  have HB1 : Hid (Below w.heap.size w w1) := by rw [hw1]; exact below_box _ _
  have hbx : w1.heap[w.heap.size]? = some (.cells #[.int .i64 0, .string ⟨#[]⟩, .slice none 0 0] 25 (0, 0)) := by rw [hw1]; exact heap_alloc_new _ _
  obtain ⟨x0, x1, x2, y0, y1, y2⟩ := three_facts hbx
  have HS := Lib.hid (three_facts (set_three (u0 := .int .i64 0) (u1 := .string ⟨#[]⟩) (u2 := .slice none 0 0) hbx))
  have HB5 : Hid (∀ u0 u1 u2, Below w.heap.size w (((w1.setCell ⟨w.heap.size, 0, none⟩ u0).setCell ⟨w.heap.size, 1, none⟩ u1).setCell ⟨w.heap.size, 2, none⟩ u2)) := fun u0 u1 u2 =>
    ((HB1.out.setCell (p := ⟨w.heap.size, 0, none⟩) (Nat.le_refl _) u0).setCell (p := ⟨w.heap.size, 1, none⟩) (Nat.le_refl _) u1).setCell (p := ⟨w.heap.size, 2, none⟩) (Nat.le_refl _) u2
  clear hw1 hbx
  go_wp2_with fail
  refine (K1.out _).mono ?_
  rintro e w2 ⟨rfl, rfl⟩
  go_wp2_with fail
  obtain ⟨z0, z1, z2, _⟩ := HS.out
  refine bodyPost_ret (by simp [results, Tryz.results15, go_sem, z0, z1, z2]; try rfl) rfl ?_
  exact ⟨rfl, HB5.out _ _ _⟩

theorem len_src (x : Tree) : len x = (srcT x).length := rfl

set_option maxRecDepth 100000 in
set_option maxHeartbeats 2000000 in
theorem loss_short (s : ByteArray) (w : World) (hs : s.size ≤ 2000) (hv : Vars w) : Calls Tryz.prog 3 #[.string s] w fun e w' => e = .returned (.bool true) ∧ Below w.heap.size w w' := by
  have hll : (Lx.L s).length ≤ 2000 := by rw [Lx.L_len]; exact hs
  obtain ⟨z, hz, _⟩ := parse_some hll
  have KP0 := fun W => parse_pl s W hs FU z hz
  rw [parseC_is hz] at KP0
  have HTF := Lib.hid (tree_facts hll)
  have HSRC : Hid (srcT (treeA (Lx.L s)) = Lx.L s) := by
    show _ = _
    rw [srcT_eq, HTF.out.src]
    rfl
  have HK1 : Hid ((treeA (Lx.L s)).k = 1) := rfl
  have KP : Hid (∀ W, Calls Tryz.prog 15 #[.string s] W fun e w' => Below W.heap.size W w' ∧ ∃ m ra rc, e = .returned (.tuple #[tv (treeA (Lx.L s)) ra rc, .int .i64 0]) ∧ Kids w' (fun j => Pl w' j ∧ W.heap.size ≤ j) m ra (treeA (Lx.L s)).c ∧ (treeA (Lx.L s)).c.length ≤ maxLen ∧ (treeA (Lx.L s)).c.length ≤ rc ∧ (ra = none → rc = 0)) := KP0
  have KE := Lib.hid (fun W h => example_any W h)
  have HLEN : Hid (len (treeA (Lx.L s)) ≤ 1000000) := by show _ ≤ _; rw [len_src, HSRC.out]; omega
  clear KP0 hz hll
  generalize treeA (Lx.L s) = x at *
  have HV := Lib.hid hv
  clear hv
  go_enter Tryz.func3, Tryz.ntmps3
  go_wp2_with fail
  refine (KE.out w HV.out).mono ?_
  rintro e w1 ⟨rfl, hb1⟩
  have HB1 := Lib.hid hb1
  clear hb1
  go_wp2_with fail
  refine (KP.out w1).mono ?_
  rintro e w2 ⟨hb2, m, ra, rc, rfl, hk2, _, _, _⟩
  have hz1 := HB1.out.size
  have hz2 := hb2.size
  have HB2 : Hid (Below w.heap.size w w2) := HB1.out.trans (hb2.mono hz1)
  have HK2 := Lib.hid hk2
  clear hb2 hk2
  go_upto_region 4 with fail
  obtain ⟨w3, hw3⟩ : ∃ w3, w3 = w2.alloc (.cells #[.int .i64 x.k, .string x.t, .slice ra x.c.length rc] 25) := ⟨_, rfl⟩
  rw [show World.alloc w2 _ = w3 from hw3.symm]
  have hB3 : Below w2.heap.size w2 w3 := by rw [hw3]; exact below_box _ _
  have hbx : w3.heap[w2.heap.size]? = some (.cells #[.int .i64 x.k, .string x.t, .slice ra x.c.length rc] 25 (0, 0)) := by rw [hw3]; exact heap_alloc_new _ _
  have HB3 : Hid (Below w.heap.size w w3) := HB2.out.trans (hB3.mono (by omega))
  have HK3 : Hid (Kids w3 (fun j => Pl w3 j) m ra x.c) := (HK2.out.kept (fun j i hj => hB3.cell (p := ⟨j, i, none⟩) hj.1.lt)).up (fun j hj => hj.1.below hB3) (Nat.le_refl _)
  have hz3 := hB3.size
  have hl3 : w2.heap.size < w3.heap.size := (Array.getElem?_eq_some_iff.1 hbx).1
  have HBX := Lib.hid hbx
  clear hw3 hB3 hbx HK2 HB2
  go_wp2_with fail
  refine (KE.out w3 (HV.out.below HB3.out)).mono ?_
  rintro e w4 ⟨rfl, hb4⟩
  have hbx4 := (hb4.block _ hl3).trans HBX.out
  rw [HK1.out] at hbx4
  obtain ⟨x0, x1, x2, _, _, _⟩ := three_facts hbx4
  have HB4 : Hid (Below w.heap.size w w4) := HB3.out.trans (hb4.mono HB3.out.size)
  have K6 := source_any x ra rc m w4 HTF.out.ok ((HK3.out.kept (fun j i hj => hb4.cell (p := ⟨j, i, none⟩) hj.lt)).up (fun j hj => hj.below hb4) (Nat.le_refl _)) HLEN.out
  rw [HSRC.out, Lx.bs_L] at K6
  have K6' : Hid (Calls Tryz.prog 17 #[.agg #[.int .i64 1, .string x.t, .slice ra x.c.length rc]] w4 fun e w' => e = .returned (.string s) ∧ Below w4.heap.size w4 w') := by
    have h : tv x ra rc = .agg #[.int .i64 1, .string x.t, .slice ra x.c.length rc] := by show Value.agg #[.int .i64 x.k, _, _] = _; rw [HK1.out]
    rw [← h]; exact K6
  have hz4 := hb4.size
  clear K6 hb4 hbx4
  go_wp2_with fail
  refine K6'.out.mono ?_
  rintro e w5 ⟨rfl, hb5⟩
  have HB5 : Hid (Below w.heap.size w w5) := HB4.out.trans (hb5.mono HB4.out.size)
  clear hb5 K6'
  go_wp2_with fail
  go_ret
  exact ⟨rfl, HB5.out⟩

set_option maxRecDepth 100000 in
set_option maxHeartbeats 2000000 in
theorem loss_long (s : ByteArray) (w : World) (hs : 2000 < s.size) (hmax : s.size ≤ maxLen) (hv : Vars w) : Calls Tryz.prog 3 #[.string s] w fun e w' => e = .returned (.bool true) ∧ Below w.heap.size w w' := by
  have g0 : (2000 : Int) < s.size := by omega
  have g1 : (s.size : Int) ≤ 9223372036854775807 := by unfold maxLen at hmax; omega
  have KP := Lib.hid (fun W => pparse_long s W hs hmax)
  have KE := Lib.hid (fun W h => example_any W h)
  have KT : Hid (∀ W, Calls Tryz.prog 16 #[.agg #[.int .i64 0, .string ⟨#[]⟩, .slice none 0 0], .agg #[.int .i64 0, .string ⟨#[]⟩, .slice none 0 0]] W fun e w' => e = .returned (.bool true) ∧ Below W.heap.size W w') := fun W => by
    have hok : (Tree.node 0 ⟨#[]⟩ []).ok := ⟨⟨by show (-9223372036854775808 : Int) ≤ 0; omega, by show (0 : Int) ≤ 9223372036854775807; omega⟩, Nat.zero_le _, Nat.zero_le _⟩
    refine (tree_eq 0 (.node 0 ⟨#[]⟩ []) (.node 0 ⟨#[]⟩ []) none 0 0 none 0 W hok hok rfl rfl).mono ?_
    rintro e w' ⟨hb, ⟨_, rfl⟩ | ⟨hne, _⟩⟩
    · exact ⟨rfl, hb⟩
    · exact absurd rfl hne
  have HV := Lib.hid hv
  clear hv hmax
  go_enter Tryz.func3, Tryz.ntmps3
  go_wp2_with fail
  refine (KE.out w HV.out).mono ?_
  rintro e w1 ⟨rfl, hb1⟩
  have HB1 := Lib.hid hb1
  clear hb1
  go_wp2_with fail
  refine (KP.out w1).mono ?_
  rintro e w2 ⟨rfl, hb2⟩
  have hz1 := HB1.out.size
  have HB2 : Hid (Below w.heap.size w w2) := HB1.out.trans (hb2.mono hz1)
  clear hb2
  go_upto_region 4 with fail
  obtain ⟨w3, hw3⟩ : ∃ w3, w3 = w2.alloc (.cells #[.int .i64 0, .string ⟨#[]⟩, .slice none 0 0] 25) := ⟨_, rfl⟩
  rw [show World.alloc w2 _ = w3 from hw3.symm]
  have hB3 : Below w2.heap.size w2 w3 := by rw [hw3]; exact below_box _ _
  have hbx : w3.heap[w2.heap.size]? = some (.cells #[.int .i64 0, .string ⟨#[]⟩, .slice none 0 0] 25 (0, 0)) := by rw [hw3]; exact heap_alloc_new _ _
  have HB3 : Hid (Below w.heap.size w w3) := HB2.out.trans (hB3.mono HB2.out.size)
  have hl3 : w2.heap.size < w3.heap.size := (Array.getElem?_eq_some_iff.1 hbx).1
  have HBX := Lib.hid hbx
  clear hw3 hB3 hbx HB2
  go_wp2_with fail
  refine (KE.out w3 (HV.out.below HB3.out)).mono ?_
  rintro e w4 ⟨rfl, hb4⟩
  obtain ⟨x0, x1, x2, _, _, _⟩ := three_facts ((hb4.block _ hl3).trans HBX.out)
  have HB4 : Hid (Below w.heap.size w w4) := HB3.out.trans (hb4.mono HB3.out.size)
  clear hb4
  go_wp2_with fail
  refine (KT.out w4).mono ?_
  rintro e w5 ⟨rfl, hb5⟩
  have HB5 : Hid (Below w.heap.size w w5) := HB4.out.trans (hb5.mono HB4.out.size)
  clear hb5
  go_wp2_with fail
  go_ret
  exact ⟨rfl, HB5.out⟩

theorem loss_any (s : ByteArray) (w : World) (hs : s.size ≤ maxLen) (hv : Vars w) : Calls Tryz.prog 3 #[.string s] w fun e w' => e = .returned (.bool true) ∧ Below w.heap.size w w' := by
  rcases Nat.lt_or_ge 2000 s.size with h | h
  · exact loss_long s w h hs hv
  · exact loss_short s w h hv
end Go.Proofs.YtcpojagfnpajeaaGreatDoorR.Ps
