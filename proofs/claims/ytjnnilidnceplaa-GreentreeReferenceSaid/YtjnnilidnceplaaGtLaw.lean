/-
  The law, by its contract.
-/
import Derived.Test.YtjnnilidnceplaaGtExample
import Derived.Test.YtjnnilidnceplaaGtRins
import Derived.Test.YtjnnilidnceplaaGtRsize
import Derived.Test.YtjnnilidnceplaaGtRtree
import Derived.Test.YtjnnilidnceplaaGtWf
namespace Go.Proofs.Ytjnnilidnceplaa
open Go.RowKit

/-- What stands in memory all along: the boxes of the arena and of the tree. -/
structure St (w : World) (va : Value) (x : Tree) (vc : Value) (W : World) : Prop where
  b : Below w.heap.size w W
  a : W.heap[w.heap.size]? = some (.cells #[va] 24 (0, 0))
  t : W.heap[w.heap.size + 1]? = some (.cells #[.int .i64 x.k, .string x.t, vc] 27 (0, 0))
theorem St.sz {w : World} {va : Value} {x : Tree} {vc : Value} {W : World} (h : St w va x vc W) : w.heap.size + 2 ≤ W.heap.size := by
  have := (Array.getElem?_eq_some_iff.1 h.t).1; omega
theorem St.to {w : World} {va : Value} {x : Tree} {vc : Value} {W W' : World} (h : St w va x vc W) (hb : Below W.heap.size W W') : St w va x vc W' :=
  ⟨h.b.trans (hb.mono h.b.size), keeps_below hb (by have := h.sz; omega) h.a, keeps_below hb (by have := h.sz; omega) h.t⟩
theorem St.al {w : World} {va : Value} {x : Tree} {vc : Value} {W : World} (h : St w va x vc W) (o : Obj) : St w va x vc (W.alloc o) := h.to ((Below.refl _ _).alloc (Nat.le_refl _) o)

theorem Nodes.take {w : World} {S : Nat → Prop} {a : Option Addr} {L : List N} (h : Nodes w S a L) (m : Nat) : Nodes w S a (L.take m) := by
  intro i x hx
  have hi : i < m := by have := (List.getElem?_eq_some_iff.1 hx).1; simp at this; omega
  rw [List.getElem?_take_of_lt hi] at hx
  exact h i x hx

theorem arena_nil (w : World) : Calls Try.prog 11 #[.agg #[.slice none 0 0], .agg #[.slice none 0 0]] w fun e w' => e = .returned (.bool true) ∧ Below w.heap.size w w' :=
  arena_yes [] [] none 0 none 0 w rfl (by unfold maxLen; simp) (Nodes.nil _ _ _) (Nodes.nil _ _ _)
theorem tree_nil (w : World) : Calls Try.prog 12 #[.agg #[.int .i64 0, .string ⟨#[]⟩, .slice none 0 0], .agg #[.int .i64 0, .string ⟨#[]⟩, .slice none 0 0]] w fun e w' => e = .returned (.bool true) ∧ Below w.heap.size w w' :=
  tree_yes 1 (.node 0 ⟨#[]⟩ []) none 0 1 none 0 w ⟨by show I64 0; unfold I64; omega, by show (0 : Nat) ≤ maxLen; omega, by show (0 : Nat) ≤ maxLen; omega⟩ (Kids.nil _ _ _ _) (Kids.nil _ _ _ _)

set_option maxRecDepth 100000 in
set_option maxHeartbeats 8000000 in
theorem law_any (L : List N) (a0 : Option Addr) (cap0 : Nat) (n : Nat) (x : Tree) (ta : Option Addr) (tc : Nat) (z : Int) (w : World) (hn : Nodes w (· < w.heap.size) a0 L) (hcap : L.length ≤ cap0) (hcap2 : cap0 ≤ maxLen) (hnil : a0 = none → L = [] ∧ cap0 = 0)
    (hx : x.ok) (hk : Kids w (· < w.heap.size) n ta x.c) (hz : I64 z) : Calls Try.prog 3 #[.agg #[.slice a0 L.length cap0], tv x ta tc, .int .i64 z] w fun e w' => e = .returned (.bool true) ∧ Below w.heap.size w w' := by
  obtain ⟨W0, hW0⟩ : ∃ W0, W0 = (w.alloc (oneBox (.slice a0 L.length cap0))).alloc (treeBox x.k x.t (.slice ta x.c.length tc)) := ⟨_, rfl⟩
  have HB0 : Hid (Below w.heap.size w W0) := by rw [hW0]; exact ((Below.refl _ _).alloc (Nat.le_refl _) _).alloc (by simp) _
  have HZ0 : Hid (W0.heap.size = w.heap.size + 2) := by show _ = _; rw [hW0]; simp
  have T0 : Hid (W0.heap[w.heap.size + 1]? = some (.cells #[.int .i64 x.k, .string x.t, .slice ta x.c.length tc] 27 (0, 0))) := by
    have := heap_alloc_new (w.alloc (oneBox (.slice a0 L.length cap0))) (treeBox x.k x.t (.slice ta x.c.length tc))
    rw [show (w.alloc (oneBox (.slice a0 L.length cap0))).heap.size = w.heap.size + 1 from by simp] at this
    show _ = _
    rw [hW0]; exact this
  have A0 : Hid (W0.heap[w.heap.size]? = some (.cells #[.slice a0 L.length cap0] 24 (0, 0))) := by
    show _ = _
    rw [hW0]; exact alloc_keeps _ (heap_alloc_new w _)
  have HN := Lib.hid (hn.take 60)
  have HK := Lib.hid hk
  have HX := Lib.hid hx
  have HE := fun W : World => Lib.hid (example_any W)
  clear hn hk hx
  unfold maxLen at hcap2
  go_enter Try.func3, Try.ntmps3
  go_wp2_with fail
  subst hW0
  change Calls _ _ _ ((w.alloc (oneBox (.slice a0 L.length cap0))).alloc (treeBox x.k x.t (.slice ta x.c.length tc))) _
  generalize (w.alloc (oneBox (.slice a0 L.length cap0))).alloc (treeBox x.k x.t (.slice ta x.c.length tc)) = W0 at *
  refine (HE W0).out.mono ?_
  rintro e w1 ⟨rfl, hb1⟩
  have hz1 := hb1.size
  have hz0 := HZ0.out
  have HB1 : Hid (Below W0.heap.size W0 w1) := hb1
  obtain ⟨a1, b1⟩ := one_facts (keeps_below hb1 (by omega) A0.out)
  clear hb1
  obtain ⟨l, hl⟩ : ∃ l, l = L.take 60 := ⟨_, rfl⟩
  have hll : l.length ≤ 60 ∧ l.length ≤ L.length := by rw [hl, List.length_take]; omega
  have hmin : (if (60 : Int) < (L.length : Int) then (60 : Int) else (L.length : Int)).toNat = l.length := by rw [hl, List.length_take]; split <;> omega
  have hmin2 : min 60 L.length = l.length := by rw [hl, List.length_take]
  have HMIN := Lib.hid (And.intro hmin hmin2)
  clear hmin hmin2
  have hnil' : a0 = none → l = [] ∧ cap0 = 0 := fun e => by obtain ⟨h1, h2⟩ := hnil e; exact ⟨by rw [hl, h1]; rfl, h2⟩
  have HNIL := Lib.hid hnil'
  rw [← hl] at HN
  have HLL := Lib.hid (show l.length ≤ 60 ∧ l.length ≤ cap0 from ⟨hll.1, by omega⟩)
  clear hnil hnil'
  go_upto_region 4 with fail
  first | rw [HMIN.out.1] | rw [HMIN.out.2]
  have HS2 : Hid (St w (.slice a0 l.length cap0) x (.slice ta x.c.length tc) (w1.setCell ⟨w.heap.size, 0, none⟩ (.slice a0 l.length cap0))) := by
    refine ⟨(HB0.out.trans (HB1.out.mono HB0.out.size)).setCell (p := ⟨w.heap.size, 0, none⟩) (Nat.le_refl _) _, set_one0 (keeps_below HB1.out (by omega) A0.out), ?_⟩
    exact (heap_setCell_other w1 ⟨w.heap.size, 0, none⟩ _ _ (by simp)).trans (keeps_below HB1.out (by omega) T0.out)
  generalize (if (60 : Int) < (L.length : Int) then (60 : Int) else (L.length : Int)) = m at *
  clear HMIN hl hll a1 b1 hz1 hz0 HB1 T0 A0 HZ0 HB0 hcap
  generalize w1.setCell ⟨w.heap.size, 0, none⟩ (.slice a0 l.length cap0) = W2 at *
  have hsz := HS2.out.sz
  obtain ⟨t0, t1, t2, _⟩ := three_facts HS2.out.t
  have HSI := Lib.hid (size_any n x ta tc 60 W2 (by omega) (by omega) HX.out (HK.out.to HS2.out.b))
  go_wp2_with fail
  change Calls _ _ _ W2 _
  refine HSI.out.mono ?_
  rintro e V3 ⟨rfl, hb⟩
  have HS3 := Lib.hid (HS2.out.to hb)
  clear hb t0 t1 t2 hsz HSI
  by_cases hs : x.size ≤ 60
  · have hcp : capI (x.size : Int) 60 = (x.size : Nat) := by unfold capI; rw [if_pos (by omega)]
    rw [hcp]
    have hsi : (x.size : Int) ≤ 60 := by omega
    have hht := height_le x
    have hhi : (x.height : Int) ≤ 60 := by omega
    clear hcp
    have hsz3 := HS3.out.sz
    have hfa3 : w.heap.size < V3.heap.size := by omega
    have hfb3 : w.heap.size + 1 < V3.heap.size := by omega
    obtain ⟨a1, _⟩ := one_facts HS3.out.a
    obtain ⟨t0, t1, t2, _⟩ := three_facts HS3.out.t
    go_wp2_with fail
    change Calls _ _ _ V3 _
    refine (depth_any n x ta tc V3 hs HX.out (HK.out.to HS3.out.b)).mono ?_
    rintro e V4 ⟨rfl, hb⟩
    have HS4 := Lib.hid (HS3.out.to hb)
    clear hb
    clear a1 t0 t1 t2
    have hsz4 := HS4.out.sz
    have hfa4 : w.heap.size < V4.heap.size := by omega
    have hfb4 : w.heap.size + 1 < V4.heap.size := by omega
    obtain ⟨a1, _⟩ := one_facts HS4.out.a
    obtain ⟨t0, t1, t2, _⟩ := three_facts HS4.out.t
    go_wp2_with fail
    change Calls _ _ _ V4 _
    refine (rerr_any l a0 cap0 V4 (by have := HLL.out; omega) HLL.out.2 (HN.out.to HS4.out.b)).mono ?_
    intro e V5 h5
    clear a1 t0 t1 t2
    have HL4 : Hid (l.length ≤ 4000) := by have := HLL.out; show _ ≤ _; omega
    rcases h5 with ⟨hok, rfl, hb⟩ | ⟨hok, rfl, hb⟩
    · have HS5 := Lib.hid (HS4.out.to hb)
      clear hb
      have HOK := Lib.hid hok
      clear hok
      have HGD := Lib.hid (show Good (gs l) from OkTo.good (by rw [gs_len]; exact HOK.out))
      have HXS := Lib.hid hs
      have HLX : Hid (l.length + x.size ≤ 4000) := by have := HLL.out; have := HXS.out; show _ ≤ _; omega
      have hsz5 := HS5.out.sz
      have hfa5 : w.heap.size < V5.heap.size := by omega
      have hfb5 : w.heap.size + 1 < V5.heap.size := by omega
      obtain ⟨a1, _⟩ := one_facts HS5.out.a
      obtain ⟨t0, t1, t2, _⟩ := three_facts HS5.out.t
      go_wp2_with fail
      change Calls _ _ _ V5 _
      refine (check_ok l a0 cap0 V5 HL4.out (HN.out.to HS5.out.b) HOK.out).mono ?_
      rintro e V6 ⟨rfl, hb⟩
      have HS6 := Lib.hid (HS5.out.to hb)
      clear hb
      clear a1 t0 t1 t2
      have hsz6 := HS6.out.sz
      have hfa6 : w.heap.size < V6.heap.size := by omega
      have hfb6 : w.heap.size + 1 < V6.heap.size := by omega
      obtain ⟨a1, _⟩ := one_facts HS6.out.a
      obtain ⟨t0, t1, t2, _⟩ := three_facts HS6.out.t
      go_wp2_with fail
      change Calls _ _ _ V6 _
      refine (insert_ok n l a0 cap0 V6 x ta tc HLX.out (by omega) (HN.out.to HS6.out.b) HOK.out HX.out (HK.out.to HS6.out.b)).mono ?_
      intro e V7 h7
      clear a1 t0 t1 t2
      rcases h7 with ⟨hwf, rfl, hb⟩ | ⟨hwf, l2, a2, cap2, rfl, hg2, hn2, hb⟩
      · have HS7 := Lib.hid (HS6.out.to hb)
        clear hb
        have HWF := Lib.hid hwf
        clear hwf
        have hsz7 := HS7.out.sz
        have hfa7 : w.heap.size < V7.heap.size := by omega
        have hfb7 : w.heap.size + 1 < V7.heap.size := by omega
        obtain ⟨a1, _⟩ := one_facts HS7.out.a
        obtain ⟨t0, t1, t2, _⟩ := three_facts HS7.out.t
        go_wp2_with fail
        change Calls _ _ _ (V7.alloc (oneBox (.slice none 0 0))) _
        have HS8 := Lib.hid (HS7.out.al (oneBox (.slice none 0 0)))
        have g1 : (V7.alloc (oneBox (.slice none 0 0))).heap[V7.heap.size]? = some (.cells #[.slice none 0 0] 24 (0, 0)) := heap_alloc_new V7 _
        have HG1 := Lib.hid g1
        clear a1 t0 t1 t2 g1
        generalize V7.alloc (oneBox (.slice none 0 0)) = V8 at *
        generalize V7.heap.size = H8 at *
        refine (tree_any l a0 cap0 z V8 HL4.out (HN.out.to HS8.out.b)).mono ?_
        rintro e V9 ⟨hb, hp⟩
        have HS9 := Lib.hid (HS8.out.to hb)
        have HG9 := Lib.hid (keeps_below hb (Array.getElem?_eq_some_iff.1 HG1.out).1 HG1.out)
        clear hb HG1
        rcases hp with ⟨h, _⟩ | ⟨_, hzr, rfl⟩ | ⟨_, hzr, hzs, rfl⟩ | ⟨_, hzr, hzs, ra, rc, rfl, hkT, hoT⟩
        case' inl => exact absurd HOK.out h
        · by_cases hneg : z < 0
          · obtain ⟨g1, _⟩ := one_facts HG9.out
            have hg8 : H8 < V9.heap.size := (Array.getElem?_eq_some_iff.1 HG9.out).1
            have hsz9 := HS9.out.sz
            have hfa9 : w.heap.size < V9.heap.size := by omega
            have hfb9 : w.heap.size + 1 < V9.heap.size := by omega
            obtain ⟨a1, _⟩ := one_facts HS9.out.a
            obtain ⟨t0, t1, t2, _⟩ := three_facts HS9.out.t
            clear a1 t0 t1 t2 g1
            have HS10 := Lib.hid (HS9.out.al (.cells #[.int .i64 0, .string ⟨#[]⟩, .slice none 0 0] 27))
            have HT10 : Hid ((V9.alloc (.cells #[.int .i64 0, .string ⟨#[]⟩, .slice none 0 0] 27)).heap[V9.heap.size]? = some (.cells #[.int .i64 0, .string ⟨#[]⟩, .slice none 0 0] 27 (0, 0))) := heap_alloc_new V9 _
            have HG10 := Lib.hid (alloc_keeps (.cells #[.int .i64 0, .string ⟨#[]⟩, .slice none 0 0] 27) HG9.out)
            go_upto_region 13 with fail
            generalize V9.alloc (.cells #[.int .i64 0, .string ⟨#[]⟩, .slice none 0 0] 27) = V10 at *
            generalize V9.heap.size = H9 at *
            have hsz10 := HS10.out.sz
            have hfa10 : w.heap.size < V10.heap.size := by omega
            have hfb10 : w.heap.size + 1 < V10.heap.size := by omega
            obtain ⟨a1, _⟩ := one_facts HS10.out.a
            obtain ⟨t0, t1, t2, _⟩ := three_facts HS10.out.t
            have hw10 := wfr_any n x ta tc V10 HX.out (HK.out.to HS10.out.b)
            rw [HWF.out] at hw10
            have HW10 := Lib.hid hw10
            clear hw10
            go_wp2_with fail
            change Calls _ _ _ V10 _
            refine HW10.out.mono ?_
            rintro e V11 ⟨rfl, hb⟩
            have HS11 := Lib.hid (HS10.out.to hb)
            have HT11 := Lib.hid (keeps_below hb (Array.getElem?_eq_some_iff.1 HT10.out).1 HT10.out)
            have HG11 := Lib.hid (keeps_below hb (Array.getElem?_eq_some_iff.1 HG10.out).1 HG10.out)
            clear hb a1 t0 t1 t2
            obtain ⟨g1, _⟩ := one_facts HG11.out
            go_wp2_with fail
            change Calls _ _ _ V11 _
            refine (arena_nil V11).mono ?_
            rintro e V13 ⟨rfl, hb⟩
            clear g1
            have HS13 := Lib.hid (HS11.out.to hb)
            have HT13 := Lib.hid (keeps_below hb (Array.getElem?_eq_some_iff.1 HT11.out).1 HT11.out)
            clear hb
            have hsz13 := HS13.out.sz
            have hfa13 : w.heap.size < V13.heap.size := by omega
            have hfb13 : w.heap.size + 1 < V13.heap.size := by omega
            obtain ⟨a1, _⟩ := one_facts HS13.out.a
            obtain ⟨t0, t1, t2, _⟩ := three_facts HS13.out.t
            obtain ⟨q0, q1, q2, _⟩ := three_facts HT13.out
            have hzn : z < 0 := hneg
            go_wp2_with fail
            change Calls _ _ _ V13 _
            refine (tree_nil V13).mono ?_
            rintro e V15 ⟨rfl, hb⟩
            have HF := Lib.hid ((HS13.out.to hb).b)
            clear hb
            go_wp2_with fail
            go_ret
            exact ⟨rfl, HF.out⟩
          · have hge : (l.length : Int) ≤ z := by omega
            obtain ⟨g1, _⟩ := one_facts HG9.out
            have hg8 : H8 < V9.heap.size := (Array.getElem?_eq_some_iff.1 HG9.out).1
            have hsz9 := HS9.out.sz
            have hfa9 : w.heap.size < V9.heap.size := by omega
            have hfb9 : w.heap.size + 1 < V9.heap.size := by omega
            obtain ⟨a1, _⟩ := one_facts HS9.out.a
            obtain ⟨t0, t1, t2, _⟩ := three_facts HS9.out.t
            clear a1 t0 t1 t2 g1
            have HS10 := Lib.hid (HS9.out.al (.cells #[.int .i64 0, .string ⟨#[]⟩, .slice none 0 0] 27))
            have HT10 : Hid ((V9.alloc (.cells #[.int .i64 0, .string ⟨#[]⟩, .slice none 0 0] 27)).heap[V9.heap.size]? = some (.cells #[.int .i64 0, .string ⟨#[]⟩, .slice none 0 0] 27 (0, 0))) := heap_alloc_new V9 _
            have HG10 := Lib.hid (alloc_keeps (.cells #[.int .i64 0, .string ⟨#[]⟩, .slice none 0 0] 27) HG9.out)
            go_upto_region 13 with fail
            generalize V9.alloc (.cells #[.int .i64 0, .string ⟨#[]⟩, .slice none 0 0] 27) = V10 at *
            generalize V9.heap.size = H9 at *
            have hsz10 := HS10.out.sz
            have hfa10 : w.heap.size < V10.heap.size := by omega
            have hfb10 : w.heap.size + 1 < V10.heap.size := by omega
            obtain ⟨a1, _⟩ := one_facts HS10.out.a
            obtain ⟨t0, t1, t2, _⟩ := three_facts HS10.out.t
            have hw10 := wfr_any n x ta tc V10 HX.out (HK.out.to HS10.out.b)
            rw [HWF.out] at hw10
            have HW10 := Lib.hid hw10
            clear hw10
            go_wp2_with fail
            change Calls _ _ _ V10 _
            refine HW10.out.mono ?_
            rintro e V11 ⟨rfl, hb⟩
            have HS11 := Lib.hid (HS10.out.to hb)
            have HT11 := Lib.hid (keeps_below hb (Array.getElem?_eq_some_iff.1 HT10.out).1 HT10.out)
            have HG11 := Lib.hid (keeps_below hb (Array.getElem?_eq_some_iff.1 HG10.out).1 HG10.out)
            clear hb a1 t0 t1 t2
            obtain ⟨g1, _⟩ := one_facts HG11.out
            go_wp2_with fail
            change Calls _ _ _ V11 _
            refine (arena_nil V11).mono ?_
            rintro e V13 ⟨rfl, hb⟩
            clear g1
            have HS13 := Lib.hid (HS11.out.to hb)
            have HT13 := Lib.hid (keeps_below hb (Array.getElem?_eq_some_iff.1 HT11.out).1 HT11.out)
            clear hb
            have hsz13 := HS13.out.sz
            have hfa13 : w.heap.size < V13.heap.size := by omega
            have hfb13 : w.heap.size + 1 < V13.heap.size := by omega
            obtain ⟨a1, _⟩ := one_facts HS13.out.a
            obtain ⟨t0, t1, t2, _⟩ := three_facts HS13.out.t
            obtain ⟨q0, q1, q2, _⟩ := three_facts HT13.out
            go_wp2_with fail
            change Calls _ _ _ V13 _
            refine (tree_nil V13).mono ?_
            rintro e V15 ⟨rfl, hb⟩
            have HF := Lib.hid ((HS13.out.to hb).b)
            clear hb
            go_wp2_with fail
            go_ret
            exact ⟨rfl, HF.out⟩
        · obtain ⟨j, rfl⟩ : ∃ j : Nat, z = j := ⟨z.toNat, by omega⟩
          rw [Int.toNat_natCast] at hzs
          have hj : j < l.length := by omega
          have hz0 : (0 : Int) ≤ (j : Int) := by omega
          have hz1 : (j : Int) < (l.length : Int) := by omega
          obtain ⟨g1, _⟩ := one_facts HG9.out
          have hg8 : H8 < V9.heap.size := (Array.getElem?_eq_some_iff.1 HG9.out).1
          have hsz9 := HS9.out.sz
          have hfa9 : w.heap.size < V9.heap.size := by omega
          have hfb9 : w.heap.size + 1 < V9.heap.size := by omega
          obtain ⟨a1, _⟩ := one_facts HS9.out.a
          obtain ⟨t0, t1, t2, _⟩ := three_facts HS9.out.t
          clear a1 t0 t1 t2 g1
          have HS10 := Lib.hid (HS9.out.al (.cells #[.int .i64 0, .string ⟨#[]⟩, .slice none 0 0] 27))
          have HT10 : Hid ((V9.alloc (.cells #[.int .i64 0, .string ⟨#[]⟩, .slice none 0 0] 27)).heap[V9.heap.size]? = some (.cells #[.int .i64 0, .string ⟨#[]⟩, .slice none 0 0] 27 (0, 0))) := heap_alloc_new V9 _
          have HG10 := Lib.hid (alloc_keeps (.cells #[.int .i64 0, .string ⟨#[]⟩, .slice none 0 0] 27) HG9.out)
          go_upto_region 13 with fail
          generalize V9.alloc (.cells #[.int .i64 0, .string ⟨#[]⟩, .slice none 0 0] 27) = V10 at *
          generalize V9.heap.size = H9 at *
          have hsz10 := HS10.out.sz
          have hfa10 : w.heap.size < V10.heap.size := by omega
          have hfb10 : w.heap.size + 1 < V10.heap.size := by omega
          obtain ⟨a1, _⟩ := one_facts HS10.out.a
          obtain ⟨t0, t1, t2, _⟩ := three_facts HS10.out.t
          have hw10 := wfr_any n x ta tc V10 HX.out (HK.out.to HS10.out.b)
          rw [HWF.out] at hw10
          have HW10 := Lib.hid hw10
          clear hw10
          go_wp2_with fail
          change Calls _ _ _ V10 _
          refine HW10.out.mono ?_
          rintro e V11 ⟨rfl, hb⟩
          have HS11 := Lib.hid (HS10.out.to hb)
          have HT11 := Lib.hid (keeps_below hb (Array.getElem?_eq_some_iff.1 HT10.out).1 HT10.out)
          have HG11 := Lib.hid (keeps_below hb (Array.getElem?_eq_some_iff.1 HG10.out).1 HG10.out)
          clear hb a1 t0 t1 t2
          obtain ⟨g1, _⟩ := one_facts HG11.out
          go_wp2_with fail
          change Calls _ _ _ V11 _
          refine (arena_nil V11).mono ?_
          rintro e V13 ⟨rfl, hb⟩
          clear g1
          have HS13 := Lib.hid (HS11.out.to hb)
          have HT13 := Lib.hid (keeps_below hb (Array.getElem?_eq_some_iff.1 HT11.out).1 HT11.out)
          clear hb
          have hsz13 := HS13.out.sz
          have hfa13 : w.heap.size < V13.heap.size := by omega
          have hfb13 : w.heap.size + 1 < V13.heap.size := by omega
          obtain ⟨a1, _⟩ := one_facts HS13.out.a
          obtain ⟨t0, t1, t2, _⟩ := three_facts HS13.out.t
          obtain ⟨q0, q1, q2, _⟩ := three_facts HT13.out
          have HR := rsize_any l a0 cap0 j V13 HL4.out HGD.out.down hj (HN.out.to HS13.out.b)
          rw [show m4 (szAt (gs l) j) = 4001 from by unfold m4; split <;> omega] at HR
          have HRH := Lib.hid HR
          clear HR
          go_wp2_with fail
          change Calls _ _ _ V13 _
          refine HRH.out.mono ?_
          rintro e V14 ⟨rfl, hb⟩
          have HS14 := Lib.hid (HS13.out.to hb)
          obtain ⟨q0, q1, q2, _⟩ := three_facts (keeps_below hb (Array.getElem?_eq_some_iff.1 HT13.out).1 HT13.out)
          clear hb
          go_wp2_with fail
          change Calls _ _ _ V14 _
          refine (tree_nil V14).mono ?_
          rintro e V15 ⟨rfl, hb⟩
          have HF := Lib.hid ((HS14.out.to hb).b)
          clear hb
          go_wp2_with fail
          go_ret
          exact ⟨rfl, HF.out⟩
        · obtain ⟨j, rfl⟩ : ∃ j : Nat, z = j := ⟨z.toNat, by omega⟩
          rw [Int.toNat_natCast] at hzs
          have hj : j < l.length := by omega
          have hz0 : (0 : Int) ≤ (j : Int) := by omega
          have hz1 : (j : Int) < (l.length : Int) := by omega
          rw [Int.toNat_natCast] at hkT hoT
          try rw [Int.toNat_natCast]
          obtain ⟨X, hX⟩ : ∃ X, X = trAt (gs l) j := ⟨_, rfl⟩
          rw [← hX] at hkT hoT
          try rw [← hX]
          have HXE := Lib.hid hX
          have HKT := Lib.hid hkT
          have HOT := Lib.hid hoT
          clear hX hkT hoT
          obtain ⟨g1, _⟩ := one_facts HG9.out
          have hg8 : H8 < V9.heap.size := (Array.getElem?_eq_some_iff.1 HG9.out).1
          have hsz9 := HS9.out.sz
          have hfa9 : w.heap.size < V9.heap.size := by omega
          have hfb9 : w.heap.size + 1 < V9.heap.size := by omega
          obtain ⟨a1, _⟩ := one_facts HS9.out.a
          obtain ⟨t0, t1, t2, _⟩ := three_facts HS9.out.t
          clear a1 t0 t1 t2 g1
          have HS10 := Lib.hid (HS9.out.al (.cells #[.int .i64 X.k, .string X.t, .slice ra X.c.length rc] 27))
          have HT10 : Hid ((V9.alloc (.cells #[.int .i64 X.k, .string X.t, .slice ra X.c.length rc] 27)).heap[V9.heap.size]? = some (.cells #[.int .i64 X.k, .string X.t, .slice ra X.c.length rc] 27 (0, 0))) := heap_alloc_new V9 _
          have HG10 := Lib.hid (alloc_keeps (.cells #[.int .i64 X.k, .string X.t, .slice ra X.c.length rc] 27) HG9.out)
          have HK10 := Lib.hid (HKT.out.alloc (.cells #[.int .i64 X.k, .string X.t, .slice ra X.c.length rc] 27))
          go_upto_region 13 with fail
          generalize V9.alloc (.cells #[.int .i64 X.k, .string X.t, .slice ra X.c.length rc] 27) = V10 at *
          generalize V9.heap.size = H9 at *
          have hsz10 := HS10.out.sz
          have hfa10 : w.heap.size < V10.heap.size := by omega
          have hfb10 : w.heap.size + 1 < V10.heap.size := by omega
          obtain ⟨a1, _⟩ := one_facts HS10.out.a
          obtain ⟨t0, t1, t2, _⟩ := three_facts HS10.out.t
          have hw10 := wfr_any n x ta tc V10 HX.out (HK.out.to HS10.out.b)
          rw [HWF.out] at hw10
          have HW10 := Lib.hid hw10
          clear hw10
          go_wp2_with fail
          change Calls _ _ _ V10 _
          refine HW10.out.mono ?_
          rintro e V11 ⟨rfl, hb⟩
          have HS11 := Lib.hid (HS10.out.to hb)
          have HT11 := Lib.hid (keeps_below hb (Array.getElem?_eq_some_iff.1 HT10.out).1 HT10.out)
          have HG11 := Lib.hid (keeps_below hb (Array.getElem?_eq_some_iff.1 HG10.out).1 HG10.out)
          have HK11 := Lib.hid (HK10.out.to hb)
          clear hb a1 t0 t1 t2
          obtain ⟨g1, _⟩ := one_facts HG11.out
          go_wp2_with fail
          change Calls _ _ _ V11 _
          refine (arena_nil V11).mono ?_
          rintro e V13 ⟨rfl, hb⟩
          clear g1
          have HS13 := Lib.hid (HS11.out.to hb)
          have HT13 := Lib.hid (keeps_below hb (Array.getElem?_eq_some_iff.1 HT11.out).1 HT11.out)
          have HK13 := Lib.hid (HK11.out.to hb)
          clear hb
          have hsz13 := HS13.out.sz
          have hfa13 : w.heap.size < V13.heap.size := by omega
          have hfb13 : w.heap.size + 1 < V13.heap.size := by omega
          obtain ⟨a1, _⟩ := one_facts HS13.out.a
          obtain ⟨t0, t1, t2, _⟩ := three_facts HS13.out.t
          obtain ⟨q0, q1, q2, _⟩ := three_facts HT13.out
          have HR := rsize_any l a0 cap0 j V13 HL4.out HGD.out.down hj (HN.out.to HS13.out.b)
          rw [show m4 (szAt (gs l) j) = (szAt (gs l) j : Nat) from by unfold m4; rw [if_pos (by omega)]] at HR
          have HRH := Lib.hid HR
          clear HR
          have hzi : ((szAt (gs l) j : Nat) : Int) ≤ 4000 := by omega
          go_wp2_with fail
          change Calls _ _ _ V13 _
          refine HRH.out.mono ?_
          rintro e V14 ⟨rfl, hb⟩
          have HS14 := Lib.hid (HS13.out.to hb)
          have HK14 := Lib.hid (HK13.out.to hb)
          clear q0 q1 q2 a1 t0 t1 t2
          obtain ⟨q0, q1, q2, _⟩ := three_facts (keeps_below hb (Array.getElem?_eq_some_iff.1 HT13.out).1 HT13.out)
          clear hb
          obtain ⟨a1, _⟩ := one_facts HS14.out.a
          have HRT := fun W : World => fun hW : Nodes W (· < W.heap.size) a0 l => Lib.hid (rtree_any l a0 cap0 HGD.out.down j W hj hzs hW)
          rw [← HXE.out] at HRT
          go_wp2_with fail
          go_region_held3 (fun w' => w'.cell? ⟨w.heap.size, 0, none⟩ = some (.slice a0 l.length cap0) ∧ w'.cell? ⟨H9, 0, none⟩ = some (.int .i64 X.k) ∧ w'.cell? ⟨H9, 1, none⟩ = some (.string X.t) ∧ w'.cell? ⟨H9, 2, none⟩ = some (.slice ra X.c.length rc))
            (first | with_reducible exact hS16 | with_reducible exact hS15 | exact ⟨a1, q0, q1, q2⟩)
            (first
              | (go_at_call 16; refine (HRT _ (HN.out.to HS14.out.b.drew)).out.mono ?_; rintro e V15 ⟨qa, qc, rfl, hk15, _, hb15⟩; have hS15 := TwoBox.to (by assumption) hb15; have HB15 := Lib.hid hb15; have HK15 := Lib.hid hk15; clear hb15 hk15)
              | (go_at_call 12; refine (tree_yes _ X _ _ _ _ _ _ HOT.out (HK14.out.drew.to HB15.out) (HK15.out.up (fun b hb => hb.2) (Nat.le_refl _))).mono ?_; rintro e V16 ⟨rfl, hb16⟩; have hS16 := TwoBox.to (by assumption) hb16; have HB16 := Lib.hid hb16; clear hb16))
          have HF : Hid (Below w.heap.size w V16) := HS14.out.b.drew.trans ((HB15.out.mono HS14.out.b.size).trans (HB16.out.mono (Nat.le_trans HS14.out.b.size HB15.out.size)))
          go_wp2_with fail
          go_ret
          exact ⟨rfl, HF.out⟩
      · have HS7 := Lib.hid (HS6.out.to hb)
        clear hb
        have HWF := Lib.hid hwf
        clear hwf
        have HG2 := Lib.hid hg2
        have HN2 := Lib.hid (hn2.alloc (oneBox (.slice a2 l2.length cap2)))
        clear hg2 hn2
        have hsz7 := HS7.out.sz
        have hfa7 : w.heap.size < V7.heap.size := by omega
        have hfb7 : w.heap.size + 1 < V7.heap.size := by omega
        obtain ⟨a1, _⟩ := one_facts HS7.out.a
        obtain ⟨t0, t1, t2, _⟩ := three_facts HS7.out.t
        go_wp2_with fail
        change Calls _ _ _ (V7.alloc (oneBox (.slice a2 l2.length cap2))) _
        have HS8 := Lib.hid (HS7.out.al (oneBox (.slice a2 l2.length cap2)))
        have g1 : (V7.alloc (oneBox (.slice a2 l2.length cap2))).heap[V7.heap.size]? = some (.cells #[.slice a2 l2.length cap2] 24 (0, 0)) := heap_alloc_new V7 _
        have HG1 := Lib.hid g1
        clear a1 t0 t1 t2 g1
        generalize V7.alloc (oneBox (.slice a2 l2.length cap2)) = V8 at *
        generalize V7.heap.size = H8 at *
        refine (tree_any l a0 cap0 z V8 HL4.out (HN.out.to HS8.out.b)).mono ?_
        rintro e V9 ⟨hb, hp⟩
        have HS9 := Lib.hid (HS8.out.to hb)
        have HG9 := Lib.hid (keeps_below hb (Array.getElem?_eq_some_iff.1 HG1.out).1 HG1.out)
        have HN9 := Lib.hid (HN2.out.to hb)
        clear hb HG1
        rcases hp with ⟨h, _⟩ | ⟨_, hzr, rfl⟩ | ⟨_, hzr, hzs, rfl⟩ | ⟨_, hzr, hzs, ra, rc, rfl, hkT, hoT⟩
        case' inl => exact absurd HOK.out h
        · by_cases hneg : z < 0
          · obtain ⟨g1, _⟩ := one_facts HG9.out
            have hg8 : H8 < V9.heap.size := (Array.getElem?_eq_some_iff.1 HG9.out).1
            have hsz9 := HS9.out.sz
            have hfa9 : w.heap.size < V9.heap.size := by omega
            have hfb9 : w.heap.size + 1 < V9.heap.size := by omega
            obtain ⟨a1, _⟩ := one_facts HS9.out.a
            obtain ⟨t0, t1, t2, _⟩ := three_facts HS9.out.t
            clear a1 t0 t1 t2 g1
            have HS10 := Lib.hid (HS9.out.al (.cells #[.int .i64 0, .string ⟨#[]⟩, .slice none 0 0] 27))
            have HT10 : Hid ((V9.alloc (.cells #[.int .i64 0, .string ⟨#[]⟩, .slice none 0 0] 27)).heap[V9.heap.size]? = some (.cells #[.int .i64 0, .string ⟨#[]⟩, .slice none 0 0] 27 (0, 0))) := heap_alloc_new V9 _
            have HG10 := Lib.hid (alloc_keeps (.cells #[.int .i64 0, .string ⟨#[]⟩, .slice none 0 0] 27) HG9.out)
            have HN10 := Lib.hid (HN9.out.alloc (.cells #[.int .i64 0, .string ⟨#[]⟩, .slice none 0 0] 27))
            go_upto_region 13 with fail
            generalize V9.alloc (.cells #[.int .i64 0, .string ⟨#[]⟩, .slice none 0 0] 27) = V10 at *
            generalize V9.heap.size = H9 at *
            have hsz10 := HS10.out.sz
            have hfa10 : w.heap.size < V10.heap.size := by omega
            have hfb10 : w.heap.size + 1 < V10.heap.size := by omega
            obtain ⟨a1, _⟩ := one_facts HS10.out.a
            obtain ⟨t0, t1, t2, _⟩ := three_facts HS10.out.t
            have hw10 := wfr_any n x ta tc V10 HX.out (HK.out.to HS10.out.b)
            rw [HWF.out] at hw10
            have HW10 := Lib.hid hw10
            clear hw10
            go_wp2_with fail
            change Calls _ _ _ V10 _
            refine HW10.out.mono ?_
            rintro e V11 ⟨rfl, hb⟩
            have HS11 := Lib.hid (HS10.out.to hb)
            have HT11 := Lib.hid (keeps_below hb (Array.getElem?_eq_some_iff.1 HT10.out).1 HT10.out)
            have HG11 := Lib.hid (keeps_below hb (Array.getElem?_eq_some_iff.1 HG10.out).1 HG10.out)
            have HN11 := Lib.hid (HN10.out.to hb)
            clear hb a1 t0 t1 t2
            have hsz11 := HS11.out.sz
            have hfa11 : w.heap.size < V11.heap.size := by omega
            have hfb11 : w.heap.size + 1 < V11.heap.size := by omega
            obtain ⟨a1, _⟩ := one_facts HS11.out.a
            obtain ⟨t0, t1, t2, _⟩ := three_facts HS11.out.t
            go_wp2_with fail
            change Calls _ _ _ V11 _
            refine (rins_any n x ta tc l a0 cap0 (· < V11.heap.size) V11 HX.out (HK.out.to HS11.out.b) HGD.out HLX.out (fun b hb => hb) (HN.out.to HS11.out.b) HNIL.out).mono ?_
            rintro e V12 ⟨l3, a3, cap3, rfl, hg3, hn3, _, hb⟩
            clear a1 t0 t1 t2
            have hsb := hb.size
            have hl3 : l2.length = l3.length := by have := congrArg List.length (HG2.out.trans hg3.symm); simpa [gs] using this
            have hn3' : Nodes V12 (· < V12.heap.size) a3 l3 := hn3.sub (fun b h => h.elim (fun h => Nat.lt_of_lt_of_le h hsb) (fun h => h.2))
            have hl2 : l2.length ≤ maxLen := by
              have h1 := (insT_grown x (gs l)).1.len
              rw [← HG2.out, gs_len, gs_len] at h1
              have h2 := HLX.out
              unfold maxLen
              omega
            have HS12 := Lib.hid ((HS11.out.to hb).al (oneBox (.slice a3 l3.length cap3)))
            have HT12 := Lib.hid (alloc_keeps (oneBox (.slice a3 l3.length cap3)) (keeps_below hb (Array.getElem?_eq_some_iff.1 HT11.out).1 HT11.out))
            have G12 := keeps_below hb (Array.getElem?_eq_some_iff.1 HG11.out).1 HG11.out
            obtain ⟨g1, _⟩ := one_facts G12
            have hg8' : H8 < V12.heap.size := (Array.getElem?_eq_some_iff.1 G12).1
            rw [← hl3] at HS12 HT12 
            have HAY := Lib.hid (arena_yes l2 l3 a2 cap2 a3 cap3 (V12.alloc (oneBox (.slice a3 l2.length cap3))) (HG2.out.trans hg3.symm) hl2 ((HN11.out.to hb).alloc _) (hn3'.alloc _))
            rw [← hl3]
            clear hb hn3 hn3' hg3 G12 hsb hl3 hl2
            go_wp2_with fail
            change Calls _ _ _ (V12.alloc (oneBox (.slice a3 l2.length cap3))) _
            refine HAY.out.mono ?_
            rintro e V13 ⟨rfl, hb⟩
            clear g1 hg8'
            have HS13 := Lib.hid (HS12.out.to hb)
            have HT13 := Lib.hid (keeps_below hb (Array.getElem?_eq_some_iff.1 HT12.out).1 HT12.out)
            clear hb
            have hsz13 := HS13.out.sz
            have hfa13 : w.heap.size < V13.heap.size := by omega
            have hfb13 : w.heap.size + 1 < V13.heap.size := by omega
            obtain ⟨a1, _⟩ := one_facts HS13.out.a
            obtain ⟨t0, t1, t2, _⟩ := three_facts HS13.out.t
            obtain ⟨q0, q1, q2, _⟩ := three_facts HT13.out
            have hzn : z < 0 := hneg
            go_wp2_with fail
            change Calls _ _ _ V13 _
            refine (tree_nil V13).mono ?_
            rintro e V15 ⟨rfl, hb⟩
            have HF := Lib.hid ((HS13.out.to hb).b)
            clear hb
            go_wp2_with fail
            go_ret
            exact ⟨rfl, HF.out⟩
          · have hge : (l.length : Int) ≤ z := by omega
            obtain ⟨g1, _⟩ := one_facts HG9.out
            have hg8 : H8 < V9.heap.size := (Array.getElem?_eq_some_iff.1 HG9.out).1
            have hsz9 := HS9.out.sz
            have hfa9 : w.heap.size < V9.heap.size := by omega
            have hfb9 : w.heap.size + 1 < V9.heap.size := by omega
            obtain ⟨a1, _⟩ := one_facts HS9.out.a
            obtain ⟨t0, t1, t2, _⟩ := three_facts HS9.out.t
            clear a1 t0 t1 t2 g1
            have HS10 := Lib.hid (HS9.out.al (.cells #[.int .i64 0, .string ⟨#[]⟩, .slice none 0 0] 27))
            have HT10 : Hid ((V9.alloc (.cells #[.int .i64 0, .string ⟨#[]⟩, .slice none 0 0] 27)).heap[V9.heap.size]? = some (.cells #[.int .i64 0, .string ⟨#[]⟩, .slice none 0 0] 27 (0, 0))) := heap_alloc_new V9 _
            have HG10 := Lib.hid (alloc_keeps (.cells #[.int .i64 0, .string ⟨#[]⟩, .slice none 0 0] 27) HG9.out)
            have HN10 := Lib.hid (HN9.out.alloc (.cells #[.int .i64 0, .string ⟨#[]⟩, .slice none 0 0] 27))
            go_upto_region 13 with fail
            generalize V9.alloc (.cells #[.int .i64 0, .string ⟨#[]⟩, .slice none 0 0] 27) = V10 at *
            generalize V9.heap.size = H9 at *
            have hsz10 := HS10.out.sz
            have hfa10 : w.heap.size < V10.heap.size := by omega
            have hfb10 : w.heap.size + 1 < V10.heap.size := by omega
            obtain ⟨a1, _⟩ := one_facts HS10.out.a
            obtain ⟨t0, t1, t2, _⟩ := three_facts HS10.out.t
            have hw10 := wfr_any n x ta tc V10 HX.out (HK.out.to HS10.out.b)
            rw [HWF.out] at hw10
            have HW10 := Lib.hid hw10
            clear hw10
            go_wp2_with fail
            change Calls _ _ _ V10 _
            refine HW10.out.mono ?_
            rintro e V11 ⟨rfl, hb⟩
            have HS11 := Lib.hid (HS10.out.to hb)
            have HT11 := Lib.hid (keeps_below hb (Array.getElem?_eq_some_iff.1 HT10.out).1 HT10.out)
            have HG11 := Lib.hid (keeps_below hb (Array.getElem?_eq_some_iff.1 HG10.out).1 HG10.out)
            have HN11 := Lib.hid (HN10.out.to hb)
            clear hb a1 t0 t1 t2
            have hsz11 := HS11.out.sz
            have hfa11 : w.heap.size < V11.heap.size := by omega
            have hfb11 : w.heap.size + 1 < V11.heap.size := by omega
            obtain ⟨a1, _⟩ := one_facts HS11.out.a
            obtain ⟨t0, t1, t2, _⟩ := three_facts HS11.out.t
            go_wp2_with fail
            change Calls _ _ _ V11 _
            refine (rins_any n x ta tc l a0 cap0 (· < V11.heap.size) V11 HX.out (HK.out.to HS11.out.b) HGD.out HLX.out (fun b hb => hb) (HN.out.to HS11.out.b) HNIL.out).mono ?_
            rintro e V12 ⟨l3, a3, cap3, rfl, hg3, hn3, _, hb⟩
            clear a1 t0 t1 t2
            have hsb := hb.size
            have hl3 : l2.length = l3.length := by have := congrArg List.length (HG2.out.trans hg3.symm); simpa [gs] using this
            have hn3' : Nodes V12 (· < V12.heap.size) a3 l3 := hn3.sub (fun b h => h.elim (fun h => Nat.lt_of_lt_of_le h hsb) (fun h => h.2))
            have hl2 : l2.length ≤ maxLen := by
              have h1 := (insT_grown x (gs l)).1.len
              rw [← HG2.out, gs_len, gs_len] at h1
              have h2 := HLX.out
              unfold maxLen
              omega
            have HS12 := Lib.hid ((HS11.out.to hb).al (oneBox (.slice a3 l3.length cap3)))
            have HT12 := Lib.hid (alloc_keeps (oneBox (.slice a3 l3.length cap3)) (keeps_below hb (Array.getElem?_eq_some_iff.1 HT11.out).1 HT11.out))
            have G12 := keeps_below hb (Array.getElem?_eq_some_iff.1 HG11.out).1 HG11.out
            obtain ⟨g1, _⟩ := one_facts G12
            have hg8' : H8 < V12.heap.size := (Array.getElem?_eq_some_iff.1 G12).1
            rw [← hl3] at HS12 HT12 
            have HAY := Lib.hid (arena_yes l2 l3 a2 cap2 a3 cap3 (V12.alloc (oneBox (.slice a3 l2.length cap3))) (HG2.out.trans hg3.symm) hl2 ((HN11.out.to hb).alloc _) (hn3'.alloc _))
            rw [← hl3]
            clear hb hn3 hn3' hg3 G12 hsb hl3 hl2
            go_wp2_with fail
            change Calls _ _ _ (V12.alloc (oneBox (.slice a3 l2.length cap3))) _
            refine HAY.out.mono ?_
            rintro e V13 ⟨rfl, hb⟩
            clear g1 hg8'
            have HS13 := Lib.hid (HS12.out.to hb)
            have HT13 := Lib.hid (keeps_below hb (Array.getElem?_eq_some_iff.1 HT12.out).1 HT12.out)
            clear hb
            have hsz13 := HS13.out.sz
            have hfa13 : w.heap.size < V13.heap.size := by omega
            have hfb13 : w.heap.size + 1 < V13.heap.size := by omega
            obtain ⟨a1, _⟩ := one_facts HS13.out.a
            obtain ⟨t0, t1, t2, _⟩ := three_facts HS13.out.t
            obtain ⟨q0, q1, q2, _⟩ := three_facts HT13.out
            go_wp2_with fail
            change Calls _ _ _ V13 _
            refine (tree_nil V13).mono ?_
            rintro e V15 ⟨rfl, hb⟩
            have HF := Lib.hid ((HS13.out.to hb).b)
            clear hb
            go_wp2_with fail
            go_ret
            exact ⟨rfl, HF.out⟩
        · obtain ⟨j, rfl⟩ : ∃ j : Nat, z = j := ⟨z.toNat, by omega⟩
          rw [Int.toNat_natCast] at hzs
          have hj : j < l.length := by omega
          have hz0 : (0 : Int) ≤ (j : Int) := by omega
          have hz1 : (j : Int) < (l.length : Int) := by omega
          obtain ⟨g1, _⟩ := one_facts HG9.out
          have hg8 : H8 < V9.heap.size := (Array.getElem?_eq_some_iff.1 HG9.out).1
          have hsz9 := HS9.out.sz
          have hfa9 : w.heap.size < V9.heap.size := by omega
          have hfb9 : w.heap.size + 1 < V9.heap.size := by omega
          obtain ⟨a1, _⟩ := one_facts HS9.out.a
          obtain ⟨t0, t1, t2, _⟩ := three_facts HS9.out.t
          clear a1 t0 t1 t2 g1
          have HS10 := Lib.hid (HS9.out.al (.cells #[.int .i64 0, .string ⟨#[]⟩, .slice none 0 0] 27))
          have HT10 : Hid ((V9.alloc (.cells #[.int .i64 0, .string ⟨#[]⟩, .slice none 0 0] 27)).heap[V9.heap.size]? = some (.cells #[.int .i64 0, .string ⟨#[]⟩, .slice none 0 0] 27 (0, 0))) := heap_alloc_new V9 _
          have HG10 := Lib.hid (alloc_keeps (.cells #[.int .i64 0, .string ⟨#[]⟩, .slice none 0 0] 27) HG9.out)
          have HN10 := Lib.hid (HN9.out.alloc (.cells #[.int .i64 0, .string ⟨#[]⟩, .slice none 0 0] 27))
          go_upto_region 13 with fail
          generalize V9.alloc (.cells #[.int .i64 0, .string ⟨#[]⟩, .slice none 0 0] 27) = V10 at *
          generalize V9.heap.size = H9 at *
          have hsz10 := HS10.out.sz
          have hfa10 : w.heap.size < V10.heap.size := by omega
          have hfb10 : w.heap.size + 1 < V10.heap.size := by omega
          obtain ⟨a1, _⟩ := one_facts HS10.out.a
          obtain ⟨t0, t1, t2, _⟩ := three_facts HS10.out.t
          have hw10 := wfr_any n x ta tc V10 HX.out (HK.out.to HS10.out.b)
          rw [HWF.out] at hw10
          have HW10 := Lib.hid hw10
          clear hw10
          go_wp2_with fail
          change Calls _ _ _ V10 _
          refine HW10.out.mono ?_
          rintro e V11 ⟨rfl, hb⟩
          have HS11 := Lib.hid (HS10.out.to hb)
          have HT11 := Lib.hid (keeps_below hb (Array.getElem?_eq_some_iff.1 HT10.out).1 HT10.out)
          have HG11 := Lib.hid (keeps_below hb (Array.getElem?_eq_some_iff.1 HG10.out).1 HG10.out)
          have HN11 := Lib.hid (HN10.out.to hb)
          clear hb a1 t0 t1 t2
          have hsz11 := HS11.out.sz
          have hfa11 : w.heap.size < V11.heap.size := by omega
          have hfb11 : w.heap.size + 1 < V11.heap.size := by omega
          obtain ⟨a1, _⟩ := one_facts HS11.out.a
          obtain ⟨t0, t1, t2, _⟩ := three_facts HS11.out.t
          go_wp2_with fail
          change Calls _ _ _ V11 _
          refine (rins_any n x ta tc l a0 cap0 (· < V11.heap.size) V11 HX.out (HK.out.to HS11.out.b) HGD.out HLX.out (fun b hb => hb) (HN.out.to HS11.out.b) HNIL.out).mono ?_
          rintro e V12 ⟨l3, a3, cap3, rfl, hg3, hn3, _, hb⟩
          clear a1 t0 t1 t2
          have hsb := hb.size
          have hl3 : l2.length = l3.length := by have := congrArg List.length (HG2.out.trans hg3.symm); simpa [gs] using this
          have hn3' : Nodes V12 (· < V12.heap.size) a3 l3 := hn3.sub (fun b h => h.elim (fun h => Nat.lt_of_lt_of_le h hsb) (fun h => h.2))
          have hl2 : l2.length ≤ maxLen := by
            have h1 := (insT_grown x (gs l)).1.len
            rw [← HG2.out, gs_len, gs_len] at h1
            have h2 := HLX.out
            unfold maxLen
            omega
          have HS12 := Lib.hid ((HS11.out.to hb).al (oneBox (.slice a3 l3.length cap3)))
          have HT12 := Lib.hid (alloc_keeps (oneBox (.slice a3 l3.length cap3)) (keeps_below hb (Array.getElem?_eq_some_iff.1 HT11.out).1 HT11.out))
          have G12 := keeps_below hb (Array.getElem?_eq_some_iff.1 HG11.out).1 HG11.out
          obtain ⟨g1, _⟩ := one_facts G12
          have hg8' : H8 < V12.heap.size := (Array.getElem?_eq_some_iff.1 G12).1
          rw [← hl3] at HS12 HT12 
          have HAY := Lib.hid (arena_yes l2 l3 a2 cap2 a3 cap3 (V12.alloc (oneBox (.slice a3 l2.length cap3))) (HG2.out.trans hg3.symm) hl2 ((HN11.out.to hb).alloc _) (hn3'.alloc _))
          rw [← hl3]
          clear hb hn3 hn3' hg3 G12 hsb hl3 hl2
          go_wp2_with fail
          change Calls _ _ _ (V12.alloc (oneBox (.slice a3 l2.length cap3))) _
          refine HAY.out.mono ?_
          rintro e V13 ⟨rfl, hb⟩
          clear g1 hg8'
          have HS13 := Lib.hid (HS12.out.to hb)
          have HT13 := Lib.hid (keeps_below hb (Array.getElem?_eq_some_iff.1 HT12.out).1 HT12.out)
          clear hb
          have hsz13 := HS13.out.sz
          have hfa13 : w.heap.size < V13.heap.size := by omega
          have hfb13 : w.heap.size + 1 < V13.heap.size := by omega
          obtain ⟨a1, _⟩ := one_facts HS13.out.a
          obtain ⟨t0, t1, t2, _⟩ := three_facts HS13.out.t
          obtain ⟨q0, q1, q2, _⟩ := three_facts HT13.out
          have HR := rsize_any l a0 cap0 j V13 HL4.out HGD.out.down hj (HN.out.to HS13.out.b)
          rw [show m4 (szAt (gs l) j) = 4001 from by unfold m4; split <;> omega] at HR
          have HRH := Lib.hid HR
          clear HR
          go_wp2_with fail
          change Calls _ _ _ V13 _
          refine HRH.out.mono ?_
          rintro e V14 ⟨rfl, hb⟩
          have HS14 := Lib.hid (HS13.out.to hb)
          obtain ⟨q0, q1, q2, _⟩ := three_facts (keeps_below hb (Array.getElem?_eq_some_iff.1 HT13.out).1 HT13.out)
          clear hb
          go_wp2_with fail
          change Calls _ _ _ V14 _
          refine (tree_nil V14).mono ?_
          rintro e V15 ⟨rfl, hb⟩
          have HF := Lib.hid ((HS14.out.to hb).b)
          clear hb
          go_wp2_with fail
          go_ret
          exact ⟨rfl, HF.out⟩
        · obtain ⟨j, rfl⟩ : ∃ j : Nat, z = j := ⟨z.toNat, by omega⟩
          rw [Int.toNat_natCast] at hzs
          have hj : j < l.length := by omega
          have hz0 : (0 : Int) ≤ (j : Int) := by omega
          have hz1 : (j : Int) < (l.length : Int) := by omega
          rw [Int.toNat_natCast] at hkT hoT
          try rw [Int.toNat_natCast]
          obtain ⟨X, hX⟩ : ∃ X, X = trAt (gs l) j := ⟨_, rfl⟩
          rw [← hX] at hkT hoT
          try rw [← hX]
          have HXE := Lib.hid hX
          have HKT := Lib.hid hkT
          have HOT := Lib.hid hoT
          clear hX hkT hoT
          obtain ⟨g1, _⟩ := one_facts HG9.out
          have hg8 : H8 < V9.heap.size := (Array.getElem?_eq_some_iff.1 HG9.out).1
          have hsz9 := HS9.out.sz
          have hfa9 : w.heap.size < V9.heap.size := by omega
          have hfb9 : w.heap.size + 1 < V9.heap.size := by omega
          obtain ⟨a1, _⟩ := one_facts HS9.out.a
          obtain ⟨t0, t1, t2, _⟩ := three_facts HS9.out.t
          clear a1 t0 t1 t2 g1
          have HS10 := Lib.hid (HS9.out.al (.cells #[.int .i64 X.k, .string X.t, .slice ra X.c.length rc] 27))
          have HT10 : Hid ((V9.alloc (.cells #[.int .i64 X.k, .string X.t, .slice ra X.c.length rc] 27)).heap[V9.heap.size]? = some (.cells #[.int .i64 X.k, .string X.t, .slice ra X.c.length rc] 27 (0, 0))) := heap_alloc_new V9 _
          have HG10 := Lib.hid (alloc_keeps (.cells #[.int .i64 X.k, .string X.t, .slice ra X.c.length rc] 27) HG9.out)
          have HN10 := Lib.hid (HN9.out.alloc (.cells #[.int .i64 X.k, .string X.t, .slice ra X.c.length rc] 27))
          have HK10 := Lib.hid (HKT.out.alloc (.cells #[.int .i64 X.k, .string X.t, .slice ra X.c.length rc] 27))
          go_upto_region 13 with fail
          generalize V9.alloc (.cells #[.int .i64 X.k, .string X.t, .slice ra X.c.length rc] 27) = V10 at *
          generalize V9.heap.size = H9 at *
          have hsz10 := HS10.out.sz
          have hfa10 : w.heap.size < V10.heap.size := by omega
          have hfb10 : w.heap.size + 1 < V10.heap.size := by omega
          obtain ⟨a1, _⟩ := one_facts HS10.out.a
          obtain ⟨t0, t1, t2, _⟩ := three_facts HS10.out.t
          have hw10 := wfr_any n x ta tc V10 HX.out (HK.out.to HS10.out.b)
          rw [HWF.out] at hw10
          have HW10 := Lib.hid hw10
          clear hw10
          go_wp2_with fail
          change Calls _ _ _ V10 _
          refine HW10.out.mono ?_
          rintro e V11 ⟨rfl, hb⟩
          have HS11 := Lib.hid (HS10.out.to hb)
          have HT11 := Lib.hid (keeps_below hb (Array.getElem?_eq_some_iff.1 HT10.out).1 HT10.out)
          have HG11 := Lib.hid (keeps_below hb (Array.getElem?_eq_some_iff.1 HG10.out).1 HG10.out)
          have HN11 := Lib.hid (HN10.out.to hb)
          have HK11 := Lib.hid (HK10.out.to hb)
          clear hb a1 t0 t1 t2
          have hsz11 := HS11.out.sz
          have hfa11 : w.heap.size < V11.heap.size := by omega
          have hfb11 : w.heap.size + 1 < V11.heap.size := by omega
          obtain ⟨a1, _⟩ := one_facts HS11.out.a
          obtain ⟨t0, t1, t2, _⟩ := three_facts HS11.out.t
          go_wp2_with fail
          change Calls _ _ _ V11 _
          refine (rins_any n x ta tc l a0 cap0 (· < V11.heap.size) V11 HX.out (HK.out.to HS11.out.b) HGD.out HLX.out (fun b hb => hb) (HN.out.to HS11.out.b) HNIL.out).mono ?_
          rintro e V12 ⟨l3, a3, cap3, rfl, hg3, hn3, _, hb⟩
          clear a1 t0 t1 t2
          have hsb := hb.size
          have hl3 : l2.length = l3.length := by have := congrArg List.length (HG2.out.trans hg3.symm); simpa [gs] using this
          have hn3' : Nodes V12 (· < V12.heap.size) a3 l3 := hn3.sub (fun b h => h.elim (fun h => Nat.lt_of_lt_of_le h hsb) (fun h => h.2))
          have hl2 : l2.length ≤ maxLen := by
            have h1 := (insT_grown x (gs l)).1.len
            rw [← HG2.out, gs_len, gs_len] at h1
            have h2 := HLX.out
            unfold maxLen
            omega
          have HS12 := Lib.hid ((HS11.out.to hb).al (oneBox (.slice a3 l3.length cap3)))
          have HT12 := Lib.hid (alloc_keeps (oneBox (.slice a3 l3.length cap3)) (keeps_below hb (Array.getElem?_eq_some_iff.1 HT11.out).1 HT11.out))
          have G12 := keeps_below hb (Array.getElem?_eq_some_iff.1 HG11.out).1 HG11.out
          have HK12 := Lib.hid ((HK11.out.to hb).alloc (oneBox (.slice a3 l3.length cap3)))
          obtain ⟨g1, _⟩ := one_facts G12
          have hg8' : H8 < V12.heap.size := (Array.getElem?_eq_some_iff.1 G12).1
          rw [← hl3] at HS12 HT12 HK12
          have HAY := Lib.hid (arena_yes l2 l3 a2 cap2 a3 cap3 (V12.alloc (oneBox (.slice a3 l2.length cap3))) (HG2.out.trans hg3.symm) hl2 ((HN11.out.to hb).alloc _) (hn3'.alloc _))
          rw [← hl3]
          clear hb hn3 hn3' hg3 G12 hsb hl3 hl2
          go_wp2_with fail
          change Calls _ _ _ (V12.alloc (oneBox (.slice a3 l2.length cap3))) _
          refine HAY.out.mono ?_
          rintro e V13 ⟨rfl, hb⟩
          clear g1 hg8'
          have HS13 := Lib.hid (HS12.out.to hb)
          have HT13 := Lib.hid (keeps_below hb (Array.getElem?_eq_some_iff.1 HT12.out).1 HT12.out)
          have HK13 := Lib.hid (HK12.out.to hb)
          clear hb
          have hsz13 := HS13.out.sz
          have hfa13 : w.heap.size < V13.heap.size := by omega
          have hfb13 : w.heap.size + 1 < V13.heap.size := by omega
          obtain ⟨a1, _⟩ := one_facts HS13.out.a
          obtain ⟨t0, t1, t2, _⟩ := three_facts HS13.out.t
          obtain ⟨q0, q1, q2, _⟩ := three_facts HT13.out
          have HR := rsize_any l a0 cap0 j V13 HL4.out HGD.out.down hj (HN.out.to HS13.out.b)
          rw [show m4 (szAt (gs l) j) = (szAt (gs l) j : Nat) from by unfold m4; rw [if_pos (by omega)]] at HR
          have HRH := Lib.hid HR
          clear HR
          have hzi : ((szAt (gs l) j : Nat) : Int) ≤ 4000 := by omega
          go_wp2_with fail
          change Calls _ _ _ V13 _
          refine HRH.out.mono ?_
          rintro e V14 ⟨rfl, hb⟩
          have HS14 := Lib.hid (HS13.out.to hb)
          have HK14 := Lib.hid (HK13.out.to hb)
          clear q0 q1 q2 a1 t0 t1 t2
          obtain ⟨q0, q1, q2, _⟩ := three_facts (keeps_below hb (Array.getElem?_eq_some_iff.1 HT13.out).1 HT13.out)
          clear hb
          obtain ⟨a1, _⟩ := one_facts HS14.out.a
          have HRT := fun W : World => fun hW : Nodes W (· < W.heap.size) a0 l => Lib.hid (rtree_any l a0 cap0 HGD.out.down j W hj hzs hW)
          rw [← HXE.out] at HRT
          go_wp2_with fail
          go_region_held3 (fun w' => w'.cell? ⟨w.heap.size, 0, none⟩ = some (.slice a0 l.length cap0) ∧ w'.cell? ⟨H9, 0, none⟩ = some (.int .i64 X.k) ∧ w'.cell? ⟨H9, 1, none⟩ = some (.string X.t) ∧ w'.cell? ⟨H9, 2, none⟩ = some (.slice ra X.c.length rc))
            (first | with_reducible exact hS16 | with_reducible exact hS15 | exact ⟨a1, q0, q1, q2⟩)
            (first
              | (go_at_call 16; refine (HRT _ (HN.out.to HS14.out.b.drew)).out.mono ?_; rintro e V15 ⟨qa, qc, rfl, hk15, _, hb15⟩; have hS15 := TwoBox.to (by assumption) hb15; have HB15 := Lib.hid hb15; have HK15 := Lib.hid hk15; clear hb15 hk15)
              | (go_at_call 12; refine (tree_yes _ X _ _ _ _ _ _ HOT.out (HK14.out.drew.to HB15.out) (HK15.out.up (fun b hb => hb.2) (Nat.le_refl _))).mono ?_; rintro e V16 ⟨rfl, hb16⟩; have hS16 := TwoBox.to (by assumption) hb16; have HB16 := Lib.hid hb16; clear hb16))
          have HF : Hid (Below w.heap.size w V16) := HS14.out.b.drew.trans ((HB15.out.mono HS14.out.b.size).trans (HB16.out.mono (Nat.le_trans HS14.out.b.size HB15.out.size)))
          go_wp2_with fail
          go_ret
          exact ⟨rfl, HF.out⟩
    · have HS5 := Lib.hid (HS4.out.to hb)
      clear hb
      have HOK := Lib.hid hok
      clear hok
      have hsz5 := HS5.out.sz
      have hfa5 : w.heap.size < V5.heap.size := by omega
      have hfb5 : w.heap.size + 1 < V5.heap.size := by omega
      obtain ⟨a1, _⟩ := one_facts HS5.out.a
      obtain ⟨t0, t1, t2, _⟩ := three_facts HS5.out.t
      go_wp2_with fail
      change Calls _ _ _ V5 _
      refine (check_bad l a0 cap0 V5 HL4.out (HN.out.to HS5.out.b) HOK.out).mono ?_
      rintro e V6 ⟨rfl, hb⟩
      have HS6 := Lib.hid (HS5.out.to hb)
      clear hb
      clear a1 t0 t1 t2
      have hsz6 := HS6.out.sz
      have hfa6 : w.heap.size < V6.heap.size := by omega
      have hfb6 : w.heap.size + 1 < V6.heap.size := by omega
      obtain ⟨a1, _⟩ := one_facts HS6.out.a
      obtain ⟨t0, t1, t2, _⟩ := three_facts HS6.out.t
      go_wp2_with fail
      change Calls _ _ _ V6 _
      refine (insert_bad l a0 cap0 V6 x ta tc HL4.out (HN.out.to HS6.out.b) HOK.out).mono ?_
      rintro e V7 ⟨rfl, hb⟩
      have HS7 := Lib.hid (HS6.out.to hb)
      clear hb
      clear a1 t0 t1 t2
      have hsz7 := HS7.out.sz
      have hfa7 : w.heap.size < V7.heap.size := by omega
      have hfb7 : w.heap.size + 1 < V7.heap.size := by omega
      obtain ⟨a1, _⟩ := one_facts HS7.out.a
      obtain ⟨t0, t1, t2, _⟩ := three_facts HS7.out.t
      go_wp2_with fail
      change Calls _ _ _ (V7.alloc (oneBox (.slice none 0 0))) _
      have HS7b := Lib.hid (HS7.out.al (oneBox (.slice none 0 0)))
      have g1 : (V7.alloc (oneBox (.slice none 0 0))).heap[V7.heap.size]? = some (.cells #[.slice none 0 0] 24 (0, 0)) := heap_alloc_new V7 _
      have HG1 := Lib.hid g1
      clear a1 t0 t1 t2 g1
      generalize V7.alloc (oneBox (.slice none 0 0)) = V8 at *
      generalize V7.heap.size = H8 at *
      refine (tree_any l a0 cap0 z V8 HL4.out (HN.out.to HS7b.out.b)).mono ?_
      rintro e V9 ⟨hb, hp⟩
      rcases hp with ⟨_, rfl⟩ | ⟨h, _⟩ | ⟨h, _⟩ | ⟨h, _⟩
      case inr.inl => exact absurd h HOK.out
      case inr.inr.inl => exact absurd h HOK.out
      case inr.inr.inr => exact absurd h HOK.out
      have HS9 := Lib.hid (HS7b.out.to hb)
      have HG9 := Lib.hid (keeps_below hb (Array.getElem?_eq_some_iff.1 HG1.out).1 HG1.out)
      clear hb HG1
      obtain ⟨g1, _⟩ := one_facts HG9.out
      have hg8 : H8 < V9.heap.size := (Array.getElem?_eq_some_iff.1 HG9.out).1
      go_wp2_with fail
      change Calls _ _ _ (V9.alloc (treeBox 0 ⟨#[]⟩ (.slice none 0 0))) _
      have HB10 : Hid (Below w.heap.size w (V9.alloc (treeBox 0 ⟨#[]⟩ (.slice none 0 0)))) := (HS9.out.al _).b
      have HT10 : Hid ((V9.alloc (treeBox 0 ⟨#[]⟩ (.slice none 0 0))).heap[V9.heap.size]? = some (.cells #[.int .i64 0, .string ⟨#[]⟩, .slice none 0 0] 27 (0, 0))) := heap_alloc_new V9 _
      clear g1
      generalize V9.alloc (treeBox 0 ⟨#[]⟩ (.slice none 0 0)) = V10 at *
      generalize V9.heap.size = H9 at *
      refine (arena_nil V10).mono ?_
      rintro e V11 ⟨rfl, hb⟩
      have HB11 : Hid (Below w.heap.size w V11) := HB10.out.trans (hb.mono HB10.out.size)
      obtain ⟨q0, q1, q2, _⟩ := three_facts (keeps_below hb (Array.getElem?_eq_some_iff.1 HT10.out).1 HT10.out)
      clear hb
      go_wp2_with fail
      change Calls _ _ _ V11 _
      refine (tree_nil V11).mono ?_
      rintro e V12 ⟨rfl, hb⟩
      have HB12 : Hid (Below w.heap.size w V12) := HB11.out.trans (hb.mono HB11.out.size)
      clear hb
      go_wp2_with fail
      go_ret
      exact ⟨rfl, HB12.out⟩
  · have hcp : capI (x.size : Int) 60 = 61 := by unfold capI; rw [if_neg (by omega)]; rfl
    rw [hcp]
    clear hcp
    go_wp2_with fail
    go_ret
    exact ⟨rfl, HS3.out.b⟩
end Go.Proofs.Ytjnnilidnceplaa
