/-
  printPartOfItem, kind by kind.
  printType, kind by kind.
  printStatement, kind by kind.
  printExpression, kind by kind.
-/
import Derived.Test.YtcpojagfnpajeaaGreatDoorRZPrItemA
namespace Go.Proofs.YtcpojagfnpajeaaGreatDoorR.Ps
open Go.RowKit

section
variable {b n0 m : Nat} {kd vl : Int} {tx : List UInt8} {st en nm : Int} {c : List Nd} {a : Option Addr} {cap : Nat} {w : World} {v0 : Value} {text : List UInt8}

set_option maxRecDepth 100000 in
set_option maxHeartbeats 4000000 in
theorem part_10 (hN : NV w n0 m a cap c) (HP : Hid (∀ y, y ∈ c → PT b n0 y)) (h : PrIn w b n0 v0 text) (hn : n0 ≤ w.heap.size) (_htx : tx.length ≤ 1100000) :
    Calls Tryz.prog 147 #[.pointer (some ⟨b, 0, none⟩), nw 10 vl tx st en nm c a cap] w (PW b n0 text (ofItemT 10 tx c (tokss c)) v0 w) := by
  go_enter Tryz.func147, Tryz.ntmps147
  have HR0 := Lib.hid (PrRun.start h hn)
  have HN0 := Lib.hid hN
  go_upto_region 1 with fail
  obtain ⟨w1, hw1⟩ : ∃ w1, w1 = w.alloc (nbx 10 vl tx st en nm c a cap) := ⟨_, rfl⟩
  rw [show World.alloc w _ = w1 from hw1.symm]
  have HR1 : Hid (PrRun b n0 w v0 text [] w1 v0) := by rw [hw1]; exact HR0.out.below (below_box _ _)
  have HX1 : Hid (BoxIn w1 v0 b w.heap.size (nbx 10 vl tx st en nm c a cap)) := by rw [hw1]; exact BoxIn.made h
  have HN1 : Hid (NV w1 n0 m a cap c) := by rw [hw1]; exact HN0.out.below hn (below_box _ _)
  clear hw1 h hN
  obtain ⟨x0, x1, x2, x3, x4, x5, x6⟩ := cells7 HX1.out.h
  have K1 := Lib.hid (nonempty_any ⟨#[60]⟩ ⟨#[62]⟩ [60] [62] (Lib.hid rfl) (Lib.hid rfl) (Lib.hid (by decide)) (Lib.hid (by decide)) HN1.out HP HR1.out.pr HR1.out.n)
  go_wp2_with fail
  refine K1.out.mono ?_
  rintro e w2 ⟨rfl, v2, hp, hr⟩
  have HR2 := Lib.hid (HR1.out.step hp.out hr.out)
  have HN2 := Lib.hid (HN1.out.rep HR1.out.n HR1.out.pr hr.out)
  have HX2 := Lib.hid (HX1.out.rep hr.out)
  clear hp hr K1 HR1 HN1 HX1 x0 x1 x2 x3 x4 x5 x6
  obtain ⟨x0, x1, x2, x3, x4, x5, x6⟩ := cells7 HX2.out.h
  go_wp2_with fail
  first | go_end0 | refine bodyPost_ret (results_none rfl _ _ _) rfl ?_
  exact HR2.out.done (by simp [ofItemT])

set_option maxRecDepth 100000 in
set_option maxHeartbeats 4000000 in
theorem part_11 (hN : NV w n0 m a cap c) (HP : Hid (∀ y, y ∈ c → PT b n0 y)) (h : PrIn w b n0 v0 text) (hn : n0 ≤ w.heap.size) (htx : tx.length ≤ 1100000) :
    Calls Tryz.prog 147 #[.pointer (some ⟨b, 0, none⟩), nw 11 vl tx st en nm c a cap] w (PW b n0 text (ofItemT 11 tx c (tokss c)) v0 w) := by
  by_cases hc : c = []
  · have hl0 : (c.length : Int) = 0 := by rw [hc]; rfl
    have HC := Lib.hid hc
    clear hc
    go_enter Tryz.func147, Tryz.ntmps147
    have HR0 := Lib.hid (PrRun.start h hn)
    have HN0 := Lib.hid hN
    go_upto_region 1 with fail
    obtain ⟨w1, hw1⟩ : ∃ w1, w1 = w.alloc (nbx 11 vl tx st en nm c a cap) := ⟨_, rfl⟩
    rw [show World.alloc w _ = w1 from hw1.symm]
    have HR1 : Hid (PrRun b n0 w v0 text [] w1 v0) := by rw [hw1]; exact HR0.out.below (below_box _ _)
    have HX1 : Hid (BoxIn w1 v0 b w.heap.size (nbx 11 vl tx st en nm c a cap)) := by rw [hw1]; exact BoxIn.made h
    have HN1 : Hid (NV w1 n0 m a cap c) := by rw [hw1]; exact HN0.out.below hn (below_box _ _)
    clear hw1 h hN
    obtain ⟨x0, x1, x2, x3, x4, x5, x6⟩ := cells7 HX1.out.h
    have K1 := Lib.hid (tok1_call HR1.out (Lx.bs tx) tx (Lx.L_bs tx) (by rw [Lx.bs_size]; omega))
    go_wp2_with fail
    refine K1.out.mono ?_
    rintro e w2 ⟨rfl, v2, hp, hr⟩
    have HR2 := Lib.hid (HR1.out.step hp.out hr.out)
    have HN2 := Lib.hid (HN1.out.rep HR1.out.n HR1.out.pr hr.out)
    have HX2 := Lib.hid (HX1.out.rep hr.out)
    clear hp hr K1 HR1 HN1 HX1 x0 x1 x2 x3 x4 x5 x6
    obtain ⟨x0, x1, x2, x3, x4, x5, x6⟩ := cells7 HX2.out.h
    have K2 := Lib.hid (list_any ⟨#[43]⟩ [43] (Lib.hid rfl) (Lib.hid (by decide)) HN2.out HP HR2.out.pr HR2.out.n)
    go_wp2_with fail
    refine K2.out.mono ?_
    rintro e w3 ⟨rfl, v3, hp, hr⟩
    have HR3 := Lib.hid (HR2.out.step hp.out hr.out)
    have HN3 := Lib.hid (HN2.out.rep HR2.out.n HR2.out.pr hr.out)
    have HX3 := Lib.hid (HX2.out.rep hr.out)
    clear hp hr K2 HR2 HN2 HX2 x0 x1 x2 x3 x4 x5 x6
    obtain ⟨x0, x1, x2, x3, x4, x5, x6⟩ := cells7 HX3.out.h
    go_wp2_with fail
    first | go_end0 | refine bodyPost_ret (results_none rfl _ _ _) rfl ?_
    exact HR3.out.done (by rw [HC.out]; simp [ofItemT])
  · have HC := Lib.hid hc
    have hc0 : (0 : Int) < (c.length : Int) := by have := List.length_pos_iff.2 hc; omega
    clear hc
    go_enter Tryz.func147, Tryz.ntmps147
    have HR0 := Lib.hid (PrRun.start h hn)
    have HN0 := Lib.hid hN
    go_upto_region 1 with fail
    obtain ⟨w1, hw1⟩ : ∃ w1, w1 = w.alloc (nbx 11 vl tx st en nm c a cap) := ⟨_, rfl⟩
    rw [show World.alloc w _ = w1 from hw1.symm]
    have HR1 : Hid (PrRun b n0 w v0 text [] w1 v0) := by rw [hw1]; exact HR0.out.below (below_box _ _)
    have HX1 : Hid (BoxIn w1 v0 b w.heap.size (nbx 11 vl tx st en nm c a cap)) := by rw [hw1]; exact BoxIn.made h
    have HN1 : Hid (NV w1 n0 m a cap c) := by rw [hw1]; exact HN0.out.below hn (below_box _ _)
    clear hw1 h hN
    obtain ⟨x0, x1, x2, x3, x4, x5, x6⟩ := cells7 HX1.out.h
    have K1 := Lib.hid (tok1_call HR1.out (Lx.bs tx) tx (Lx.L_bs tx) (by rw [Lx.bs_size]; omega))
    go_wp2_with fail
    refine K1.out.mono ?_
    rintro e w2 ⟨rfl, v2, hp, hr⟩
    have HR2 := Lib.hid (HR1.out.step hp.out hr.out)
    have HN2 := Lib.hid (HN1.out.rep HR1.out.n HR1.out.pr hr.out)
    have HX2 := Lib.hid (HX1.out.rep hr.out)
    clear hp hr K1 HR1 HN1 HX1 x0 x1 x2 x3 x4 x5 x6
    obtain ⟨x0, x1, x2, x3, x4, x5, x6⟩ := cells7 HX2.out.h
    have K2 := Lib.hid (tok1_call HR2.out ⟨#[58]⟩ [58] rfl (by decide))
    go_wp2_with fail
    refine K2.out.mono ?_
    rintro e w3 ⟨rfl, v3, hp, hr⟩
    have HR3 := Lib.hid (HR2.out.step hp.out hr.out)
    have HN3 := Lib.hid (HN2.out.rep HR2.out.n HR2.out.pr hr.out)
    have HX3 := Lib.hid (HX2.out.rep hr.out)
    clear hp hr K2 HR2 HN2 HX2 x0 x1 x2 x3 x4 x5 x6
    obtain ⟨x0, x1, x2, x3, x4, x5, x6⟩ := cells7 HX3.out.h
    have K3 := Lib.hid (list_any ⟨#[43]⟩ [43] (Lib.hid rfl) (Lib.hid (by decide)) HN3.out HP HR3.out.pr HR3.out.n)
    go_wp2_with fail
    refine K3.out.mono ?_
    rintro e w4 ⟨rfl, v4, hp, hr⟩
    have HR4 := Lib.hid (HR3.out.step hp.out hr.out)
    have HN4 := Lib.hid (HN3.out.rep HR3.out.n HR3.out.pr hr.out)
    have HX4 := Lib.hid (HX3.out.rep hr.out)
    clear hp hr K3 HR3 HN3 HX3 x0 x1 x2 x3 x4 x5 x6
    obtain ⟨x0, x1, x2, x3, x4, x5, x6⟩ := cells7 HX4.out.h
    go_wp2_with fail
    first | go_end0 | refine bodyPost_ret (results_none rfl _ _ _) rfl ?_
    exact HR4.out.done (by have q := HC.out; simp [ofItemT, q])

set_option maxRecDepth 100000 in
set_option maxHeartbeats 4000000 in
theorem part_12 (hN : NV w n0 m a cap c) (HP : Hid (∀ y, y ∈ c → PT b n0 y)) (h : PrIn w b n0 v0 text) (hn : n0 ≤ w.heap.size) (_htx : tx.length ≤ 1100000) :
    Calls Tryz.prog 147 #[.pointer (some ⟨b, 0, none⟩), nw 12 vl tx st en nm c a cap] w (PW b n0 text (ofItemT 12 tx c (tokss c)) v0 w) := by
  go_enter Tryz.func147, Tryz.ntmps147
  have HR0 := Lib.hid (PrRun.start h hn)
  have HN0 := Lib.hid hN
  go_upto_region 1 with fail
  obtain ⟨w1, hw1⟩ : ∃ w1, w1 = w.alloc (nbx 12 vl tx st en nm c a cap) := ⟨_, rfl⟩
  rw [show World.alloc w _ = w1 from hw1.symm]
  have HR1 : Hid (PrRun b n0 w v0 text [] w1 v0) := by rw [hw1]; exact HR0.out.below (below_box _ _)
  have HX1 : Hid (BoxIn w1 v0 b w.heap.size (nbx 12 vl tx st en nm c a cap)) := by rw [hw1]; exact BoxIn.made h
  have HN1 : Hid (NV w1 n0 m a cap c) := by rw [hw1]; exact HN0.out.below hn (below_box _ _)
  clear hw1 h hN
  obtain ⟨x0, x1, x2, x3, x4, x5, x6⟩ := cells7 HX1.out.h
  have K1 := Lib.hid (list_any ⟨#[44]⟩ [44] (Lib.hid rfl) (Lib.hid (by decide)) HN1.out HP HR1.out.pr HR1.out.n)
  go_wp2_with fail
  refine K1.out.mono ?_
  rintro e w2 ⟨rfl, v2, hp, hr⟩
  have HR2 := Lib.hid (HR1.out.step hp.out hr.out)
  have HN2 := Lib.hid (HN1.out.rep HR1.out.n HR1.out.pr hr.out)
  have HX2 := Lib.hid (HX1.out.rep hr.out)
  clear hp hr K1 HR1 HN1 HX1 x0 x1 x2 x3 x4 x5 x6
  obtain ⟨x0, x1, x2, x3, x4, x5, x6⟩ := cells7 HX2.out.h
  go_wp2_with fail
  first | go_end0 | refine bodyPost_ret (results_none rfl _ _ _) rfl ?_
  exact HR2.out.done (by simp [ofItemT])

set_option maxRecDepth 100000 in
set_option maxHeartbeats 4000000 in
theorem part_13 (hN : NV w n0 m a cap c) (HP : Hid (∀ y, y ∈ c → PT b n0 y)) (h : PrIn w b n0 v0 text) (hn : n0 ≤ w.heap.size) (htx : tx.length ≤ 1100000) :
    Calls Tryz.prog 147 #[.pointer (some ⟨b, 0, none⟩), nw 13 vl tx st en nm c a cap] w (PW b n0 text (ofItemT 13 tx c (tokss c)) v0 w) := by
  go_enter Tryz.func147, Tryz.ntmps147
  have HR0 := Lib.hid (PrRun.start h hn)
  have HN0 := Lib.hid hN
  go_upto_region 1 with fail
  obtain ⟨w1, hw1⟩ : ∃ w1, w1 = w.alloc (nbx 13 vl tx st en nm c a cap) := ⟨_, rfl⟩
  rw [show World.alloc w _ = w1 from hw1.symm]
  have HR1 : Hid (PrRun b n0 w v0 text [] w1 v0) := by rw [hw1]; exact HR0.out.below (below_box _ _)
  have HX1 : Hid (BoxIn w1 v0 b w.heap.size (nbx 13 vl tx st en nm c a cap)) := by rw [hw1]; exact BoxIn.made h
  have HN1 : Hid (NV w1 n0 m a cap c) := by rw [hw1]; exact HN0.out.below hn (below_box _ _)
  clear hw1 h hN
  obtain ⟨x0, x1, x2, x3, x4, x5, x6⟩ := cells7 HX1.out.h
  have K1 := Lib.hid (tok1_call HR1.out (Lx.bs tx) tx (Lx.L_bs tx) (by rw [Lx.bs_size]; omega))
  go_wp2_with fail
  refine K1.out.mono ?_
  rintro e w2 ⟨rfl, v2, hp, hr⟩
  have HR2 := Lib.hid (HR1.out.step hp.out hr.out)
  have HN2 := Lib.hid (HN1.out.rep HR1.out.n HR1.out.pr hr.out)
  have HX2 := Lib.hid (HX1.out.rep hr.out)
  clear hp hr K1 HR1 HN1 HX1 x0 x1 x2 x3 x4 x5 x6
  obtain ⟨x0, x1, x2, x3, x4, x5, x6⟩ := cells7 HX2.out.h
  have K2 := Lib.hid (optional_any (kd := 13) (vl := vl) (tx := tx) (st := st) (en := en) (nm := nm) ⟨#[58]⟩ [58] (Lib.hid rfl) (Lib.hid (by decide)) 0 (by decide) HN2.out HP HR2.out.pr HR2.out.n)
  go_wp2_with fail
  refine K2.out.mono ?_
  rintro e w3 ⟨rfl, v3, hp, hr⟩
  have HR3 := Lib.hid (HR2.out.step hp.out hr.out)
  have HN3 := Lib.hid (HN2.out.rep HR2.out.n HR2.out.pr hr.out)
  have HX3 := Lib.hid (HX2.out.rep hr.out)
  clear hp hr K2 HR2 HN2 HX2 x0 x1 x2 x3 x4 x5 x6
  obtain ⟨x0, x1, x2, x3, x4, x5, x6⟩ := cells7 HX3.out.h
  go_wp2_with fail
  first | go_end0 | refine bodyPost_ret (results_none rfl _ _ _) rfl ?_
  exact HR3.out.done (by simp [ofItemT])

set_option maxRecDepth 100000 in
set_option maxHeartbeats 4000000 in
theorem part_14 (hN : NV w n0 m a cap c) (HP : Hid (∀ y, y ∈ c → PT b n0 y)) (h : PrIn w b n0 v0 text) (hn : n0 ≤ w.heap.size) (htx : tx.length ≤ 1100000) :
    Calls Tryz.prog 147 #[.pointer (some ⟨b, 0, none⟩), nw 14 vl tx st en nm c a cap] w (PW b n0 text (ofItemT 14 tx c (tokss c)) v0 w) := by
  go_enter Tryz.func147, Tryz.ntmps147
  have HR0 := Lib.hid (PrRun.start h hn)
  have HN0 := Lib.hid hN
  go_upto_region 1 with fail
  obtain ⟨w1, hw1⟩ : ∃ w1, w1 = w.alloc (nbx 14 vl tx st en nm c a cap) := ⟨_, rfl⟩
  rw [show World.alloc w _ = w1 from hw1.symm]
  have HR1 : Hid (PrRun b n0 w v0 text [] w1 v0) := by rw [hw1]; exact HR0.out.below (below_box _ _)
  have HX1 : Hid (BoxIn w1 v0 b w.heap.size (nbx 14 vl tx st en nm c a cap)) := by rw [hw1]; exact BoxIn.made h
  have HN1 : Hid (NV w1 n0 m a cap c) := by rw [hw1]; exact HN0.out.below hn (below_box _ _)
  clear hw1 h hN
  obtain ⟨x0, x1, x2, x3, x4, x5, x6⟩ := cells7 HX1.out.h
  have K1 := Lib.hid (tok2_call HR1.out (Lx.bs tx) ⟨#[58]⟩ tx [58] (Lx.L_bs tx) rfl (by rw [Lx.bs_size]; omega) (by decide))
  go_wp2_with fail
  refine K1.out.mono ?_
  rintro e w2 ⟨rfl, v2, hp, hr⟩
  have HR2 := Lib.hid (HR1.out.step hp.out hr.out)
  have HN2 := Lib.hid (HN1.out.rep HR1.out.n HR1.out.pr hr.out)
  have HX2 := Lib.hid (HX1.out.rep hr.out)
  clear hp hr K1 HR1 HN1 HX1 x0 x1 x2 x3 x4 x5 x6
  obtain ⟨x0, x1, x2, x3, x4, x5, x6⟩ := cells7 HX2.out.h
  have K2 := Lib.hid (part_any (kd := 14) (vl := vl) (tx := tx) (st := st) (en := en) (nm := nm) 0 (by decide) HN2.out HP HR2.out.pr HR2.out.n)
  go_wp2_with fail
  refine K2.out.mono ?_
  rintro e w3 ⟨rfl, v3, hp, hr⟩
  have HR3 := Lib.hid (HR2.out.step hp.out hr.out)
  have HN3 := Lib.hid (HN2.out.rep HR2.out.n HR2.out.pr hr.out)
  have HX3 := Lib.hid (HX2.out.rep hr.out)
  clear hp hr K2 HR2 HN2 HX2 x0 x1 x2 x3 x4 x5 x6
  obtain ⟨x0, x1, x2, x3, x4, x5, x6⟩ := cells7 HX3.out.h
  go_wp2_with fail
  first | go_end0 | refine bodyPost_ret (results_none rfl _ _ _) rfl ?_
  exact HR3.out.done (by simp [ofItemT])

set_option maxRecDepth 100000 in
set_option maxHeartbeats 4000000 in
theorem part_15 (hN : NV w n0 m a cap c) (HP : Hid (∀ y, y ∈ c → PT b n0 y)) (h : PrIn w b n0 v0 text) (hn : n0 ≤ w.heap.size) (htx : tx.length ≤ 1100000) :
    Calls Tryz.prog 147 #[.pointer (some ⟨b, 0, none⟩), nw 15 vl tx st en nm c a cap] w (PW b n0 text (ofItemT 15 tx c (tokss c)) v0 w) := by
  go_enter Tryz.func147, Tryz.ntmps147
  have HR0 := Lib.hid (PrRun.start h hn)
  have HN0 := Lib.hid hN
  go_upto_region 1 with fail
  obtain ⟨w1, hw1⟩ : ∃ w1, w1 = w.alloc (nbx 15 vl tx st en nm c a cap) := ⟨_, rfl⟩
  rw [show World.alloc w _ = w1 from hw1.symm]
  have HR1 : Hid (PrRun b n0 w v0 text [] w1 v0) := by rw [hw1]; exact HR0.out.below (below_box _ _)
  have HX1 : Hid (BoxIn w1 v0 b w.heap.size (nbx 15 vl tx st en nm c a cap)) := by rw [hw1]; exact BoxIn.made h
  have HN1 : Hid (NV w1 n0 m a cap c) := by rw [hw1]; exact HN0.out.below hn (below_box _ _)
  clear hw1 h hN
  obtain ⟨x0, x1, x2, x3, x4, x5, x6⟩ := cells7 HX1.out.h
  have K1 := Lib.hid (tok1_call HR1.out (Lx.bs tx) tx (Lx.L_bs tx) (by rw [Lx.bs_size]; omega))
  go_wp2_with fail
  refine K1.out.mono ?_
  rintro e w2 ⟨rfl, v2, hp, hr⟩
  have HR2 := Lib.hid (HR1.out.step hp.out hr.out)
  have HN2 := Lib.hid (HN1.out.rep HR1.out.n HR1.out.pr hr.out)
  have HX2 := Lib.hid (HX1.out.rep hr.out)
  clear hp hr K1 HR1 HN1 HX1 x0 x1 x2 x3 x4 x5 x6
  obtain ⟨x0, x1, x2, x3, x4, x5, x6⟩ := cells7 HX2.out.h
  have K2 := Lib.hid (nonempty_any ⟨#[40]⟩ ⟨#[41]⟩ [40] [41] (Lib.hid rfl) (Lib.hid rfl) (Lib.hid (by decide)) (Lib.hid (by decide)) HN2.out HP HR2.out.pr HR2.out.n)
  go_wp2_with fail
  refine K2.out.mono ?_
  rintro e w3 ⟨rfl, v3, hp, hr⟩
  have HR3 := Lib.hid (HR2.out.step hp.out hr.out)
  have HN3 := Lib.hid (HN2.out.rep HR2.out.n HR2.out.pr hr.out)
  have HX3 := Lib.hid (HX2.out.rep hr.out)
  clear hp hr K2 HR2 HN2 HX2 x0 x1 x2 x3 x4 x5 x6
  obtain ⟨x0, x1, x2, x3, x4, x5, x6⟩ := cells7 HX3.out.h
  go_wp2_with fail
  first | go_end0 | refine bodyPost_ret (results_none rfl _ _ _) rfl ?_
  exact HR3.out.done (by simp [ofItemT])

set_option maxRecDepth 100000 in
set_option maxHeartbeats 4000000 in
theorem part_16 (hN : NV w n0 m a cap c) (HP : Hid (∀ y, y ∈ c → PT b n0 y)) (h : PrIn w b n0 v0 text) (hn : n0 ≤ w.heap.size) (htx : tx.length ≤ 1100000) :
    Calls Tryz.prog 147 #[.pointer (some ⟨b, 0, none⟩), nw 16 vl tx st en nm c a cap] w (PW b n0 text (ofItemT 16 tx c (tokss c)) v0 w) := by
  go_enter Tryz.func147, Tryz.ntmps147
  have HR0 := Lib.hid (PrRun.start h hn)
  have HN0 := Lib.hid hN
  go_upto_region 1 with fail
  obtain ⟨w1, hw1⟩ : ∃ w1, w1 = w.alloc (nbx 16 vl tx st en nm c a cap) := ⟨_, rfl⟩
  rw [show World.alloc w _ = w1 from hw1.symm]
  have HR1 : Hid (PrRun b n0 w v0 text [] w1 v0) := by rw [hw1]; exact HR0.out.below (below_box _ _)
  have HX1 : Hid (BoxIn w1 v0 b w.heap.size (nbx 16 vl tx st en nm c a cap)) := by rw [hw1]; exact BoxIn.made h
  have HN1 : Hid (NV w1 n0 m a cap c) := by rw [hw1]; exact HN0.out.below hn (below_box _ _)
  clear hw1 h hN
  obtain ⟨x0, x1, x2, x3, x4, x5, x6⟩ := cells7 HX1.out.h
  have K1 := Lib.hid (tok2_call HR1.out ⟨#[116, 121, 112, 101]⟩ (Lx.bs tx) [116, 121, 112, 101] tx rfl (Lx.L_bs tx) (by decide) (by rw [Lx.bs_size]; omega))
  go_wp2_with fail
  refine K1.out.mono ?_
  rintro e w2 ⟨rfl, v2, hp, hr⟩
  have HR2 := Lib.hid (HR1.out.step hp.out hr.out)
  have HN2 := Lib.hid (HN1.out.rep HR1.out.n HR1.out.pr hr.out)
  have HX2 := Lib.hid (HX1.out.rep hr.out)
  clear hp hr K1 HR1 HN1 HX1 x0 x1 x2 x3 x4 x5 x6
  obtain ⟨x0, x1, x2, x3, x4, x5, x6⟩ := cells7 HX2.out.h
  have K2 := Lib.hid (optional_any (kd := 16) (vl := vl) (tx := tx) (st := st) (en := en) (nm := nm) ⟨#[61]⟩ [61] (Lib.hid rfl) (Lib.hid (by decide)) 0 (by decide) HN2.out HP HR2.out.pr HR2.out.n)
  go_wp2_with fail
  refine K2.out.mono ?_
  rintro e w3 ⟨rfl, v3, hp, hr⟩
  have HR3 := Lib.hid (HR2.out.step hp.out hr.out)
  have HN3 := Lib.hid (HN2.out.rep HR2.out.n HR2.out.pr hr.out)
  have HX3 := Lib.hid (HX2.out.rep hr.out)
  clear hp hr K2 HR2 HN2 HX2 x0 x1 x2 x3 x4 x5 x6
  obtain ⟨x0, x1, x2, x3, x4, x5, x6⟩ := cells7 HX3.out.h
  have K3 := Lib.hid (tok1_call HR3.out ⟨#[59]⟩ [59] rfl (by decide))
  go_wp2_with fail
  refine K3.out.mono ?_
  rintro e w4 ⟨rfl, v4, hp, hr⟩
  have HR4 := Lib.hid (HR3.out.step hp.out hr.out)
  have HN4 := Lib.hid (HN3.out.rep HR3.out.n HR3.out.pr hr.out)
  have HX4 := Lib.hid (HX3.out.rep hr.out)
  clear hp hr K3 HR3 HN3 HX3 x0 x1 x2 x3 x4 x5 x6
  obtain ⟨x0, x1, x2, x3, x4, x5, x6⟩ := cells7 HX4.out.h
  go_wp2_with fail
  first | go_end0 | refine bodyPost_ret (results_none rfl _ _ _) rfl ?_
  exact HR4.out.done (by simp [ofItemT])

end
end Go.Proofs.YtcpojagfnpajeaaGreatDoorR.Ps

namespace Go.Proofs.YtcpojagfnpajeaaGreatDoorR.Ps
open Go.RowKit

section
variable {b n0 m : Nat} {kd vl : Int} {tx : List UInt8} {st en nm : Int} {c : List Nd} {a : Option Addr} {cap : Nat} {w : World} {v0 : Value} {text : List UInt8}

set_option maxRecDepth 100000 in
set_option maxHeartbeats 4000000 in
theorem type_17 (hN : NV w n0 m a cap c) (HP : Hid (∀ y, y ∈ c → PT b n0 y)) (h : PrIn w b n0 v0 text) (hn : n0 ≤ w.heap.size) (_htx : tx.length ≤ 1100000) :
    Calls Tryz.prog 148 #[.pointer (some ⟨b, 0, none⟩), nw 17 vl tx st en nm c a cap] w (PW b n0 text (typeT 17 vl tx c (tokss c)) v0 w) := by
  go_enter Tryz.func148, Tryz.ntmps148
  have HR0 := Lib.hid (PrRun.start h hn)
  have HN0 := Lib.hid hN
  go_upto_region 1 with fail
  obtain ⟨w1, hw1⟩ : ∃ w1, w1 = w.alloc (nbx 17 vl tx st en nm c a cap) := ⟨_, rfl⟩
  rw [show World.alloc w _ = w1 from hw1.symm]
  have HR1 : Hid (PrRun b n0 w v0 text [] w1 v0) := by rw [hw1]; exact HR0.out.below (below_box _ _)
  have HX1 : Hid (BoxIn w1 v0 b w.heap.size (nbx 17 vl tx st en nm c a cap)) := by rw [hw1]; exact BoxIn.made h
  have HN1 : Hid (NV w1 n0 m a cap c) := by rw [hw1]; exact HN0.out.below hn (below_box _ _)
  clear hw1 h hN
  obtain ⟨x0, x1, x2, x3, x4, x5, x6⟩ := cells7 HX1.out.h
  have K1 := Lib.hid (list_any ⟨#[58, 58]⟩ [58, 58] (Lib.hid rfl) (Lib.hid (by decide)) HN1.out HP HR1.out.pr HR1.out.n)
  go_wp2_with fail
  refine K1.out.mono ?_
  rintro e w2 ⟨rfl, v2, hp, hr⟩
  have HR2 := Lib.hid (HR1.out.step hp.out hr.out)
  have HN2 := Lib.hid (HN1.out.rep HR1.out.n HR1.out.pr hr.out)
  have HX2 := Lib.hid (HX1.out.rep hr.out)
  clear hp hr K1 HR1 HN1 HX1 x0 x1 x2 x3 x4 x5 x6
  obtain ⟨x0, x1, x2, x3, x4, x5, x6⟩ := cells7 HX2.out.h
  go_wp2_with fail
  first | go_end0 | refine bodyPost_ret (results_none rfl _ _ _) rfl ?_
  exact HR2.out.done (by simp [typeT])

set_option maxRecDepth 100000 in
set_option maxHeartbeats 4000000 in
theorem type_18 (hN : NV w n0 m a cap c) (HP : Hid (∀ y, y ∈ c → PT b n0 y)) (h : PrIn w b n0 v0 text) (hn : n0 ≤ w.heap.size) (htx : tx.length ≤ 1100000) :
    Calls Tryz.prog 148 #[.pointer (some ⟨b, 0, none⟩), nw 18 vl tx st en nm c a cap] w (PW b n0 text (typeT 18 vl tx c (tokss c)) v0 w) := by
  go_enter Tryz.func148, Tryz.ntmps148
  have HR0 := Lib.hid (PrRun.start h hn)
  have HN0 := Lib.hid hN
  go_upto_region 1 with fail
  obtain ⟨w1, hw1⟩ : ∃ w1, w1 = w.alloc (nbx 18 vl tx st en nm c a cap) := ⟨_, rfl⟩
  rw [show World.alloc w _ = w1 from hw1.symm]
  have HR1 : Hid (PrRun b n0 w v0 text [] w1 v0) := by rw [hw1]; exact HR0.out.below (below_box _ _)
  have HX1 : Hid (BoxIn w1 v0 b w.heap.size (nbx 18 vl tx st en nm c a cap)) := by rw [hw1]; exact BoxIn.made h
  have HN1 : Hid (NV w1 n0 m a cap c) := by rw [hw1]; exact HN0.out.below hn (below_box _ _)
  clear hw1 h hN
  obtain ⟨x0, x1, x2, x3, x4, x5, x6⟩ := cells7 HX1.out.h
  have K1 := Lib.hid (tok1_call HR1.out (Lx.bs tx) tx (Lx.L_bs tx) (by rw [Lx.bs_size]; omega))
  go_wp2_with fail
  refine K1.out.mono ?_
  rintro e w2 ⟨rfl, v2, hp, hr⟩
  have HR2 := Lib.hid (HR1.out.step hp.out hr.out)
  have HN2 := Lib.hid (HN1.out.rep HR1.out.n HR1.out.pr hr.out)
  have HX2 := Lib.hid (HX1.out.rep hr.out)
  clear hp hr K1 HR1 HN1 HX1 x0 x1 x2 x3 x4 x5 x6
  obtain ⟨x0, x1, x2, x3, x4, x5, x6⟩ := cells7 HX2.out.h
  have K2 := Lib.hid (nonempty_any ⟨#[60]⟩ ⟨#[62]⟩ [60] [62] (Lib.hid rfl) (Lib.hid rfl) (Lib.hid (by decide)) (Lib.hid (by decide)) HN2.out HP HR2.out.pr HR2.out.n)
  go_wp2_with fail
  refine K2.out.mono ?_
  rintro e w3 ⟨rfl, v3, hp, hr⟩
  have HR3 := Lib.hid (HR2.out.step hp.out hr.out)
  have HN3 := Lib.hid (HN2.out.rep HR2.out.n HR2.out.pr hr.out)
  have HX3 := Lib.hid (HX2.out.rep hr.out)
  clear hp hr K2 HR2 HN2 HX2 x0 x1 x2 x3 x4 x5 x6
  obtain ⟨x0, x1, x2, x3, x4, x5, x6⟩ := cells7 HX3.out.h
  go_wp2_with fail
  first | go_end0 | refine bodyPost_ret (results_none rfl _ _ _) rfl ?_
  exact HR3.out.done (by simp [typeT])

set_option maxRecDepth 100000 in
set_option maxHeartbeats 4000000 in
theorem type_19 (hN : NV w n0 m a cap c) (HP : Hid (∀ y, y ∈ c → PT b n0 y)) (h : PrIn w b n0 v0 text) (hn : n0 ≤ w.heap.size) (_htx : tx.length ≤ 1100000) :
    Calls Tryz.prog 148 #[.pointer (some ⟨b, 0, none⟩), nw 19 vl tx st en nm c a cap] w (PW b n0 text (typeT 19 vl tx c (tokss c)) v0 w) := by
  go_enter Tryz.func148, Tryz.ntmps148
  have HR0 := Lib.hid (PrRun.start h hn)
  have HN0 := Lib.hid hN
  go_upto_region 1 with fail
  obtain ⟨w1, hw1⟩ : ∃ w1, w1 = w.alloc (nbx 19 vl tx st en nm c a cap) := ⟨_, rfl⟩
  rw [show World.alloc w _ = w1 from hw1.symm]
  have HR1 : Hid (PrRun b n0 w v0 text [] w1 v0) := by rw [hw1]; exact HR0.out.below (below_box _ _)
  have HX1 : Hid (BoxIn w1 v0 b w.heap.size (nbx 19 vl tx st en nm c a cap)) := by rw [hw1]; exact BoxIn.made h
  have HN1 : Hid (NV w1 n0 m a cap c) := by rw [hw1]; exact HN0.out.below hn (below_box _ _)
  clear hw1 h hN
  obtain ⟨x0, x1, x2, x3, x4, x5, x6⟩ := cells7 HX1.out.h
  have K1 := Lib.hid (tok1_call HR1.out ⟨#[38]⟩ [38] rfl (by decide))
  go_wp2_with fail
  refine K1.out.mono ?_
  rintro e w2 ⟨rfl, v2, hp, hr⟩
  have HR2 := Lib.hid (HR1.out.step hp.out hr.out)
  have HN2 := Lib.hid (HN1.out.rep HR1.out.n HR1.out.pr hr.out)
  have HX2 := Lib.hid (HX1.out.rep hr.out)
  clear hp hr K1 HR1 HN1 HX1 x0 x1 x2 x3 x4 x5 x6
  obtain ⟨x0, x1, x2, x3, x4, x5, x6⟩ := cells7 HX2.out.h
  have K2 := Lib.hid (mutable_any (kd := 19) (vl := vl) (tx := tx) (st := st) (en := en) (nm := nm)  HN2.out HR2.out.pr HR2.out.n)
  go_wp2_with fail
  refine K2.out.mono ?_
  rintro e w3 ⟨rfl, v3, hp, hr⟩
  have HR3 := Lib.hid (HR2.out.step hp.out hr.out)
  have HN3 := Lib.hid (HN2.out.rep HR2.out.n HR2.out.pr hr.out)
  have HX3 := Lib.hid (HX2.out.rep hr.out)
  clear hp hr K2 HR2 HN2 HX2 x0 x1 x2 x3 x4 x5 x6
  obtain ⟨x0, x1, x2, x3, x4, x5, x6⟩ := cells7 HX3.out.h
  have K3 := Lib.hid (part_any (kd := 19) (vl := vl) (tx := tx) (st := st) (en := en) (nm := nm) 0 (by decide) HN3.out HP HR3.out.pr HR3.out.n)
  go_wp2_with fail
  refine K3.out.mono ?_
  rintro e w4 ⟨rfl, v4, hp, hr⟩
  have HR4 := Lib.hid (HR3.out.step hp.out hr.out)
  have HN4 := Lib.hid (HN3.out.rep HR3.out.n HR3.out.pr hr.out)
  have HX4 := Lib.hid (HX3.out.rep hr.out)
  clear hp hr K3 HR3 HN3 HX3 x0 x1 x2 x3 x4 x5 x6
  obtain ⟨x0, x1, x2, x3, x4, x5, x6⟩ := cells7 HX4.out.h
  go_wp2_with fail
  first | go_end0 | refine bodyPost_ret (results_none rfl _ _ _) rfl ?_
  exact HR4.out.done (by simp [typeT])

set_option maxRecDepth 100000 in
set_option maxHeartbeats 4000000 in
theorem type_20 (hN : NV w n0 m a cap c) (HP : Hid (∀ y, y ∈ c → PT b n0 y)) (h : PrIn w b n0 v0 text) (hn : n0 ≤ w.heap.size) (_htx : tx.length ≤ 1100000) :
    Calls Tryz.prog 148 #[.pointer (some ⟨b, 0, none⟩), nw 20 vl tx st en nm c a cap] w (PW b n0 text (typeT 20 vl tx c (tokss c)) v0 w) := by
  obtain ⟨d, hd⟩ : ∃ d, d = c.take (c.length - 1) := ⟨_, rfl⟩
  have hdl : d.length = c.length - 1 := by rw [hd, List.length_take]; omega
  have HE := Lib.hid hd
  have HM := Lib.hid hdl
  have hlen := hN.len
  have hw1 : IntKind.i64.wrap ((c.length : Int) - 1) = (c.length : Int) - 1 := by simp [IntKind.wrap, IntKind.bits, IntKind.signed]; omega
  have hmx : max 0 ((c.length : Int) - 1) = (d.length : Int) := by omega
  have hM0 : (0 : Int) ≤ (d.length : Int) := by omega
  have hcp := hN.cap1
  have hM1 : (d.length : Int) ≤ (c.length : Int) := by omega
  have hM2 : (d.length : Int) ≤ (cap : Int) := by omega
  have hi : d.length ≤ 100000 := by omega
  clear hd hdl
  go_enter Tryz.func148, Tryz.ntmps148
  have HR0 := Lib.hid (PrRun.start h hn)
  have HN0 := Lib.hid hN
  go_upto_region 1 with fail
  obtain ⟨w1, hw1⟩ : ∃ w1, w1 = w.alloc (nbx 20 vl tx st en nm c a cap) := ⟨_, rfl⟩
  rw [show World.alloc w _ = w1 from hw1.symm]
  have HR1 : Hid (PrRun b n0 w v0 text [] w1 v0) := by rw [hw1]; exact HR0.out.below (below_box _ _)
  have HX1 : Hid (BoxIn w1 v0 b w.heap.size (nbx 20 vl tx st en nm c a cap)) := by rw [hw1]; exact BoxIn.made h
  have HN1 : Hid (NV w1 n0 m a cap c) := by rw [hw1]; exact HN0.out.below hn (below_box _ _)
  clear hw1 h hN
  obtain ⟨x0, x1, x2, x3, x4, x5, x6⟩ := cells7 HX1.out.h
  have K1 := Lib.hid (tok1_call HR1.out ⟨#[102, 110]⟩ [102, 110] rfl (by decide))
  go_wp2_with fail
  refine K1.out.mono ?_
  rintro e w2 ⟨rfl, v2, hp, hr⟩
  have HR2 := Lib.hid (HR1.out.step hp.out hr.out)
  have HN2 := Lib.hid (HN1.out.rep HR1.out.n HR1.out.pr hr.out)
  have HX2 := Lib.hid (HX1.out.rep hr.out)
  clear hp hr K1 HR1 HN1 HX1 x0 x1 x2 x3 x4 x5 x6
  obtain ⟨x0, x1, x2, x3, x4, x5, x6⟩ := cells7 HX2.out.h
  have HD2 : Hid (NV w2 n0 m a cap d) := by have q := HN2.out.take (c.length - 1); rw [← HE.out] at q; exact q
  have K2 := Lib.hid (bracketed_any ⟨#[40]⟩ ⟨#[41]⟩ [40] [41] (Lib.hid rfl) (Lib.hid rfl) (Lib.hid (by decide)) (Lib.hid (by decide)) HD2.out (Lib.hid (fun y hy => HP.out y (List.mem_of_mem_take (by rw [← HE.out]; exact hy)))) HR2.out.pr HR2.out.n)
  go_wp2_with fail
  refine K2.out.mono ?_
  rintro e w3 ⟨rfl, v3, hp, hr⟩
  have HR3 := Lib.hid (HR2.out.step hp.out hr.out)
  have HN3 := Lib.hid (HN2.out.rep HR2.out.n HR2.out.pr hr.out)
  have HX3 := Lib.hid (HX2.out.rep hr.out)
  clear hp hr K2 HR2 HN2 HX2 x0 x1 x2 x3 x4 x5 x6
  obtain ⟨x0, x1, x2, x3, x4, x5, x6⟩ := cells7 HX3.out.h
  have K3 := Lib.hid (optional_any (kd := 20) (vl := vl) (tx := tx) (st := st) (en := en) (nm := nm) ⟨#[45, 62]⟩ [45, 62] (Lib.hid rfl) (Lib.hid (by decide)) d.length hi HN3.out HP HR3.out.pr HR3.out.n)
  go_wp2_with fail
  refine K3.out.mono ?_
  rintro e w4 ⟨rfl, v4, hp, hr⟩
  have HR4 := Lib.hid (HR3.out.step hp.out hr.out)
  have HN4 := Lib.hid (HN3.out.rep HR3.out.n HR3.out.pr hr.out)
  have HX4 := Lib.hid (HX3.out.rep hr.out)
  clear hp hr K3 HR3 HN3 HX3 x0 x1 x2 x3 x4 x5 x6
  obtain ⟨x0, x1, x2, x3, x4, x5, x6⟩ := cells7 HX4.out.h
  go_wp2_with fail
  first | go_end0 | refine bodyPost_ret (results_none rfl _ _ _) rfl ?_
  exact HR4.out.done (by have q1 := HE.out; have q2 := HM.out; rw [q2]; simp [typeT, q1, tokss_take])

end
end Go.Proofs.YtcpojagfnpajeaaGreatDoorR.Ps

namespace Go.Proofs.YtcpojagfnpajeaaGreatDoorR.Ps
open Go.RowKit

section
variable {b n0 m : Nat} {kd vl : Int} {tx : List UInt8} {st en nm : Int} {c : List Nd} {a : Option Addr} {cap : Nat} {w : World} {v0 : Value} {text : List UInt8}

set_option maxRecDepth 100000 in
set_option maxHeartbeats 4000000 in
theorem stmt_21 (hN : NV w n0 m a cap c) (HP : Hid (∀ y, y ∈ c → PT b n0 y)) (h : PrIn w b n0 v0 text) (hn : n0 ≤ w.heap.size) (_htx : tx.length ≤ 1100000) :
    Calls Tryz.prog 149 #[.pointer (some ⟨b, 0, none⟩), nw 21 vl tx st en nm c a cap] w (PW b n0 text (stmtT 21 c (tokss c)) v0 w) := by
  go_enter Tryz.func149, Tryz.ntmps149
  have HR0 := Lib.hid (PrRun.start h hn)
  have HN0 := Lib.hid hN
  go_upto_region 1 with fail
  obtain ⟨w1, hw1⟩ : ∃ w1, w1 = w.alloc (nbx 21 vl tx st en nm c a cap) := ⟨_, rfl⟩
  rw [show World.alloc w _ = w1 from hw1.symm]
  have HR1 : Hid (PrRun b n0 w v0 text [] w1 v0) := by rw [hw1]; exact HR0.out.below (below_box _ _)
  have HX1 : Hid (BoxIn w1 v0 b w.heap.size (nbx 21 vl tx st en nm c a cap)) := by rw [hw1]; exact BoxIn.made h
  have HN1 : Hid (NV w1 n0 m a cap c) := by rw [hw1]; exact HN0.out.below hn (below_box _ _)
  clear hw1 h hN
  obtain ⟨x0, x1, x2, x3, x4, x5, x6⟩ := cells7 HX1.out.h
  have K1 := Lib.hid (tok1_call HR1.out ⟨#[123]⟩ [123] rfl (by decide))
  go_wp2_with fail
  refine K1.out.mono ?_
  rintro e w2 ⟨rfl, v2, hp, hr⟩
  have HR2 := Lib.hid (HR1.out.step hp.out hr.out)
  have HN2 := Lib.hid (HN1.out.rep HR1.out.n HR1.out.pr hr.out)
  have HX2 := Lib.hid (HX1.out.rep hr.out)
  clear hp hr K1 HR1 HN1 HX1 x0 x1 x2 x3 x4 x5 x6
  obtain ⟨x0, x1, x2, x3, x4, x5, x6⟩ := cells7 HX2.out.h
  have K2 := Lib.hid (sequence_any  HN2.out HP HR2.out.pr HR2.out.n)
  go_wp2_with fail
  refine K2.out.mono ?_
  rintro e w3 ⟨rfl, v3, hp, hr⟩
  have HR3 := Lib.hid (HR2.out.step hp.out hr.out)
  have HN3 := Lib.hid (HN2.out.rep HR2.out.n HR2.out.pr hr.out)
  have HX3 := Lib.hid (HX2.out.rep hr.out)
  clear hp hr K2 HR2 HN2 HX2 x0 x1 x2 x3 x4 x5 x6
  obtain ⟨x0, x1, x2, x3, x4, x5, x6⟩ := cells7 HX3.out.h
  have K3 := Lib.hid (tok1_call HR3.out ⟨#[125]⟩ [125] rfl (by decide))
  go_wp2_with fail
  refine K3.out.mono ?_
  rintro e w4 ⟨rfl, v4, hp, hr⟩
  have HR4 := Lib.hid (HR3.out.step hp.out hr.out)
  have HN4 := Lib.hid (HN3.out.rep HR3.out.n HR3.out.pr hr.out)
  have HX4 := Lib.hid (HX3.out.rep hr.out)
  clear hp hr K3 HR3 HN3 HX3 x0 x1 x2 x3 x4 x5 x6
  obtain ⟨x0, x1, x2, x3, x4, x5, x6⟩ := cells7 HX4.out.h
  go_wp2_with fail
  first | go_end0 | refine bodyPost_ret (results_none rfl _ _ _) rfl ?_
  exact HR4.out.done (by simp [stmtT, memT])

set_option maxRecDepth 100000 in
set_option maxHeartbeats 4000000 in
theorem stmt_22 (hN : NV w n0 m a cap c) (HP : Hid (∀ y, y ∈ c → PT b n0 y)) (h : PrIn w b n0 v0 text) (hn : n0 ≤ w.heap.size) (_htx : tx.length ≤ 1100000) :
    Calls Tryz.prog 149 #[.pointer (some ⟨b, 0, none⟩), nw 22 vl tx st en nm c a cap] w (PW b n0 text (stmtT 22 c (tokss c)) v0 w) := by
  go_enter Tryz.func149, Tryz.ntmps149
  have HR0 := Lib.hid (PrRun.start h hn)
  have HN0 := Lib.hid hN
  go_upto_region 1 with fail
  obtain ⟨w1, hw1⟩ : ∃ w1, w1 = w.alloc (nbx 22 vl tx st en nm c a cap) := ⟨_, rfl⟩
  rw [show World.alloc w _ = w1 from hw1.symm]
  have HR1 : Hid (PrRun b n0 w v0 text [] w1 v0) := by rw [hw1]; exact HR0.out.below (below_box _ _)
  have HX1 : Hid (BoxIn w1 v0 b w.heap.size (nbx 22 vl tx st en nm c a cap)) := by rw [hw1]; exact BoxIn.made h
  have HN1 : Hid (NV w1 n0 m a cap c) := by rw [hw1]; exact HN0.out.below hn (below_box _ _)
  clear hw1 h hN
  obtain ⟨x0, x1, x2, x3, x4, x5, x6⟩ := cells7 HX1.out.h
  have K1 := Lib.hid (tok1_call HR1.out ⟨#[108, 101, 116]⟩ [108, 101, 116] rfl (by decide))
  go_wp2_with fail
  refine K1.out.mono ?_
  rintro e w2 ⟨rfl, v2, hp, hr⟩
  have HR2 := Lib.hid (HR1.out.step hp.out hr.out)
  have HN2 := Lib.hid (HN1.out.rep HR1.out.n HR1.out.pr hr.out)
  have HX2 := Lib.hid (HX1.out.rep hr.out)
  clear hp hr K1 HR1 HN1 HX1 x0 x1 x2 x3 x4 x5 x6
  obtain ⟨x0, x1, x2, x3, x4, x5, x6⟩ := cells7 HX2.out.h
  have K2 := Lib.hid (part_any (kd := 22) (vl := vl) (tx := tx) (st := st) (en := en) (nm := nm) 0 (by decide) HN2.out HP HR2.out.pr HR2.out.n)
  go_wp2_with fail
  refine K2.out.mono ?_
  rintro e w3 ⟨rfl, v3, hp, hr⟩
  have HR3 := Lib.hid (HR2.out.step hp.out hr.out)
  have HN3 := Lib.hid (HN2.out.rep HR2.out.n HR2.out.pr hr.out)
  have HX3 := Lib.hid (HX2.out.rep hr.out)
  clear hp hr K2 HR2 HN2 HX2 x0 x1 x2 x3 x4 x5 x6
  obtain ⟨x0, x1, x2, x3, x4, x5, x6⟩ := cells7 HX3.out.h
  have K3 := Lib.hid (optional_any (kd := 22) (vl := vl) (tx := tx) (st := st) (en := en) (nm := nm) ⟨#[58]⟩ [58] (Lib.hid rfl) (Lib.hid (by decide)) 1 (by decide) HN3.out HP HR3.out.pr HR3.out.n)
  go_wp2_with fail
  refine K3.out.mono ?_
  rintro e w4 ⟨rfl, v4, hp, hr⟩
  have HR4 := Lib.hid (HR3.out.step hp.out hr.out)
  have HN4 := Lib.hid (HN3.out.rep HR3.out.n HR3.out.pr hr.out)
  have HX4 := Lib.hid (HX3.out.rep hr.out)
  clear hp hr K3 HR3 HN3 HX3 x0 x1 x2 x3 x4 x5 x6
  obtain ⟨x0, x1, x2, x3, x4, x5, x6⟩ := cells7 HX4.out.h
  have K4 := Lib.hid (tok1_call HR4.out ⟨#[61]⟩ [61] rfl (by decide))
  go_wp2_with fail
  refine K4.out.mono ?_
  rintro e w5 ⟨rfl, v5, hp, hr⟩
  have HR5 := Lib.hid (HR4.out.step hp.out hr.out)
  have HN5 := Lib.hid (HN4.out.rep HR4.out.n HR4.out.pr hr.out)
  have HX5 := Lib.hid (HX4.out.rep hr.out)
  clear hp hr K4 HR4 HN4 HX4 x0 x1 x2 x3 x4 x5 x6
  obtain ⟨x0, x1, x2, x3, x4, x5, x6⟩ := cells7 HX5.out.h
  have K5 := Lib.hid (part_any (kd := 22) (vl := vl) (tx := tx) (st := st) (en := en) (nm := nm) 2 (by decide) HN5.out HP HR5.out.pr HR5.out.n)
  go_wp2_with fail
  refine K5.out.mono ?_
  rintro e w6 ⟨rfl, v6, hp, hr⟩
  have HR6 := Lib.hid (HR5.out.step hp.out hr.out)
  have HN6 := Lib.hid (HN5.out.rep HR5.out.n HR5.out.pr hr.out)
  have HX6 := Lib.hid (HX5.out.rep hr.out)
  clear hp hr K5 HR5 HN5 HX5 x0 x1 x2 x3 x4 x5 x6
  obtain ⟨x0, x1, x2, x3, x4, x5, x6⟩ := cells7 HX6.out.h
  have K6 := Lib.hid (tok1_call HR6.out ⟨#[59]⟩ [59] rfl (by decide))
  go_wp2_with fail
  refine K6.out.mono ?_
  rintro e w7 ⟨rfl, v7, hp, hr⟩
  have HR7 := Lib.hid (HR6.out.step hp.out hr.out)
  have HN7 := Lib.hid (HN6.out.rep HR6.out.n HR6.out.pr hr.out)
  have HX7 := Lib.hid (HX6.out.rep hr.out)
  clear hp hr K6 HR6 HN6 HX6 x0 x1 x2 x3 x4 x5 x6
  obtain ⟨x0, x1, x2, x3, x4, x5, x6⟩ := cells7 HX7.out.h
  go_wp2_with fail
  first | go_end0 | refine bodyPost_ret (results_none rfl _ _ _) rfl ?_
  exact HR7.out.done (by simp [stmtT])

set_option maxRecDepth 100000 in
set_option maxHeartbeats 4000000 in
theorem stmt_24 (hN : NV w n0 m a cap c) (HP : Hid (∀ y, y ∈ c → PT b n0 y)) (h : PrIn w b n0 v0 text) (hn : n0 ≤ w.heap.size) (_htx : tx.length ≤ 1100000) :
    Calls Tryz.prog 149 #[.pointer (some ⟨b, 0, none⟩), nw 24 vl tx st en nm c a cap] w (PW b n0 text (stmtT 24 c (tokss c)) v0 w) := by
  go_enter Tryz.func149, Tryz.ntmps149
  have HR0 := Lib.hid (PrRun.start h hn)
  have HN0 := Lib.hid hN
  go_upto_region 1 with fail
  obtain ⟨w1, hw1⟩ : ∃ w1, w1 = w.alloc (nbx 24 vl tx st en nm c a cap) := ⟨_, rfl⟩
  rw [show World.alloc w _ = w1 from hw1.symm]
  have HR1 : Hid (PrRun b n0 w v0 text [] w1 v0) := by rw [hw1]; exact HR0.out.below (below_box _ _)
  have HX1 : Hid (BoxIn w1 v0 b w.heap.size (nbx 24 vl tx st en nm c a cap)) := by rw [hw1]; exact BoxIn.made h
  have HN1 : Hid (NV w1 n0 m a cap c) := by rw [hw1]; exact HN0.out.below hn (below_box _ _)
  clear hw1 h hN
  obtain ⟨x0, x1, x2, x3, x4, x5, x6⟩ := cells7 HX1.out.h
  have K1 := Lib.hid (tok1_call HR1.out ⟨#[119, 104, 105, 108, 101]⟩ [119, 104, 105, 108, 101] rfl (by decide))
  go_wp2_with fail
  refine K1.out.mono ?_
  rintro e w2 ⟨rfl, v2, hp, hr⟩
  have HR2 := Lib.hid (HR1.out.step hp.out hr.out)
  have HN2 := Lib.hid (HN1.out.rep HR1.out.n HR1.out.pr hr.out)
  have HX2 := Lib.hid (HX1.out.rep hr.out)
  clear hp hr K1 HR1 HN1 HX1 x0 x1 x2 x3 x4 x5 x6
  obtain ⟨x0, x1, x2, x3, x4, x5, x6⟩ := cells7 HX2.out.h
  have K2 := Lib.hid (sequence_any  HN2.out HP HR2.out.pr HR2.out.n)
  go_wp2_with fail
  refine K2.out.mono ?_
  rintro e w3 ⟨rfl, v3, hp, hr⟩
  have HR3 := Lib.hid (HR2.out.step hp.out hr.out)
  have HN3 := Lib.hid (HN2.out.rep HR2.out.n HR2.out.pr hr.out)
  have HX3 := Lib.hid (HX2.out.rep hr.out)
  clear hp hr K2 HR2 HN2 HX2 x0 x1 x2 x3 x4 x5 x6
  obtain ⟨x0, x1, x2, x3, x4, x5, x6⟩ := cells7 HX3.out.h
  go_wp2_with fail
  first | go_end0 | refine bodyPost_ret (results_none rfl _ _ _) rfl ?_
  exact HR3.out.done (by simp [stmtT])

set_option maxRecDepth 100000 in
set_option maxHeartbeats 4000000 in
theorem stmt_25 (hN : NV w n0 m a cap c) (HP : Hid (∀ y, y ∈ c → PT b n0 y)) (h : PrIn w b n0 v0 text) (hn : n0 ≤ w.heap.size) (_htx : tx.length ≤ 1100000) :
    Calls Tryz.prog 149 #[.pointer (some ⟨b, 0, none⟩), nw 25 vl tx st en nm c a cap] w (PW b n0 text (stmtT 25 c (tokss c)) v0 w) := by
  go_enter Tryz.func149, Tryz.ntmps149
  have HR0 := Lib.hid (PrRun.start h hn)
  have HN0 := Lib.hid hN
  go_upto_region 1 with fail
  obtain ⟨w1, hw1⟩ : ∃ w1, w1 = w.alloc (nbx 25 vl tx st en nm c a cap) := ⟨_, rfl⟩
  rw [show World.alloc w _ = w1 from hw1.symm]
  have HR1 : Hid (PrRun b n0 w v0 text [] w1 v0) := by rw [hw1]; exact HR0.out.below (below_box _ _)
  have HX1 : Hid (BoxIn w1 v0 b w.heap.size (nbx 25 vl tx st en nm c a cap)) := by rw [hw1]; exact BoxIn.made h
  have HN1 : Hid (NV w1 n0 m a cap c) := by rw [hw1]; exact HN0.out.below hn (below_box _ _)
  clear hw1 h hN
  obtain ⟨x0, x1, x2, x3, x4, x5, x6⟩ := cells7 HX1.out.h
  have K1 := Lib.hid (tok1_call HR1.out ⟨#[114, 101, 116, 117, 114, 110]⟩ [114, 101, 116, 117, 114, 110] rfl (by decide))
  go_wp2_with fail
  refine K1.out.mono ?_
  rintro e w2 ⟨rfl, v2, hp, hr⟩
  have HR2 := Lib.hid (HR1.out.step hp.out hr.out)
  have HN2 := Lib.hid (HN1.out.rep HR1.out.n HR1.out.pr hr.out)
  have HX2 := Lib.hid (HX1.out.rep hr.out)
  clear hp hr K1 HR1 HN1 HX1 x0 x1 x2 x3 x4 x5 x6
  obtain ⟨x0, x1, x2, x3, x4, x5, x6⟩ := cells7 HX2.out.h
  have K2 := Lib.hid (part_any (kd := 25) (vl := vl) (tx := tx) (st := st) (en := en) (nm := nm) 0 (by decide) HN2.out HP HR2.out.pr HR2.out.n)
  go_wp2_with fail
  refine K2.out.mono ?_
  rintro e w3 ⟨rfl, v3, hp, hr⟩
  have HR3 := Lib.hid (HR2.out.step hp.out hr.out)
  have HN3 := Lib.hid (HN2.out.rep HR2.out.n HR2.out.pr hr.out)
  have HX3 := Lib.hid (HX2.out.rep hr.out)
  clear hp hr K2 HR2 HN2 HX2 x0 x1 x2 x3 x4 x5 x6
  obtain ⟨x0, x1, x2, x3, x4, x5, x6⟩ := cells7 HX3.out.h
  have K3 := Lib.hid (tok1_call HR3.out ⟨#[59]⟩ [59] rfl (by decide))
  go_wp2_with fail
  refine K3.out.mono ?_
  rintro e w4 ⟨rfl, v4, hp, hr⟩
  have HR4 := Lib.hid (HR3.out.step hp.out hr.out)
  have HN4 := Lib.hid (HN3.out.rep HR3.out.n HR3.out.pr hr.out)
  have HX4 := Lib.hid (HX3.out.rep hr.out)
  clear hp hr K3 HR3 HN3 HX3 x0 x1 x2 x3 x4 x5 x6
  obtain ⟨x0, x1, x2, x3, x4, x5, x6⟩ := cells7 HX4.out.h
  go_wp2_with fail
  first | go_end0 | refine bodyPost_ret (results_none rfl _ _ _) rfl ?_
  exact HR4.out.done (by simp [stmtT])

set_option maxRecDepth 100000 in
set_option maxHeartbeats 4000000 in
theorem stmt_26 (hN : NV w n0 m a cap c) (HP : Hid (∀ y, y ∈ c → PT b n0 y)) (h : PrIn w b n0 v0 text) (hn : n0 ≤ w.heap.size) (_htx : tx.length ≤ 1100000) :
    Calls Tryz.prog 149 #[.pointer (some ⟨b, 0, none⟩), nw 26 vl tx st en nm c a cap] w (PW b n0 text (stmtT 26 c (tokss c)) v0 w) := by
  go_enter Tryz.func149, Tryz.ntmps149
  have HR0 := Lib.hid (PrRun.start h hn)
  have HN0 := Lib.hid hN
  go_upto_region 1 with fail
  obtain ⟨w1, hw1⟩ : ∃ w1, w1 = w.alloc (nbx 26 vl tx st en nm c a cap) := ⟨_, rfl⟩
  rw [show World.alloc w _ = w1 from hw1.symm]
  have HR1 : Hid (PrRun b n0 w v0 text [] w1 v0) := by rw [hw1]; exact HR0.out.below (below_box _ _)
  have HX1 : Hid (BoxIn w1 v0 b w.heap.size (nbx 26 vl tx st en nm c a cap)) := by rw [hw1]; exact BoxIn.made h
  have HN1 : Hid (NV w1 n0 m a cap c) := by rw [hw1]; exact HN0.out.below hn (below_box _ _)
  clear hw1 h hN
  obtain ⟨x0, x1, x2, x3, x4, x5, x6⟩ := cells7 HX1.out.h
  have K1 := Lib.hid (part_any (kd := 26) (vl := vl) (tx := tx) (st := st) (en := en) (nm := nm) 0 (by decide) HN1.out HP HR1.out.pr HR1.out.n)
  go_wp2_with fail
  refine K1.out.mono ?_
  rintro e w2 ⟨rfl, v2, hp, hr⟩
  have HR2 := Lib.hid (HR1.out.step hp.out hr.out)
  have HN2 := Lib.hid (HN1.out.rep HR1.out.n HR1.out.pr hr.out)
  have HX2 := Lib.hid (HX1.out.rep hr.out)
  clear hp hr K1 HR1 HN1 HX1 x0 x1 x2 x3 x4 x5 x6
  obtain ⟨x0, x1, x2, x3, x4, x5, x6⟩ := cells7 HX2.out.h
  have K2 := Lib.hid (tok1_call HR2.out ⟨#[59]⟩ [59] rfl (by decide))
  go_wp2_with fail
  refine K2.out.mono ?_
  rintro e w3 ⟨rfl, v3, hp, hr⟩
  have HR3 := Lib.hid (HR2.out.step hp.out hr.out)
  have HN3 := Lib.hid (HN2.out.rep HR2.out.n HR2.out.pr hr.out)
  have HX3 := Lib.hid (HX2.out.rep hr.out)
  clear hp hr K2 HR2 HN2 HX2 x0 x1 x2 x3 x4 x5 x6
  obtain ⟨x0, x1, x2, x3, x4, x5, x6⟩ := cells7 HX3.out.h
  go_wp2_with fail
  first | go_end0 | refine bodyPost_ret (results_none rfl _ _ _) rfl ?_
  exact HR3.out.done (by simp [stmtT])

end
end Go.Proofs.YtcpojagfnpajeaaGreatDoorR.Ps

namespace Go.Proofs.YtcpojagfnpajeaaGreatDoorR.Ps
open Go.RowKit

section
variable {b n0 m : Nat} {kd vl : Int} {tx : List UInt8} {st en nm : Int} {c : List Nd} {a : Option Addr} {cap : Nat} {w : World} {v0 : Value} {text : List UInt8}

set_option maxRecDepth 100000 in
set_option maxHeartbeats 4000000 in
theorem expr_33 (hN : NV w n0 m a cap c) (HP : Hid (∀ y, y ∈ c → PT b n0 y)) (h : PrIn w b n0 v0 text) (hn : n0 ≤ w.heap.size) (_htx : tx.length ≤ 1100000) :
    Calls Tryz.prog 150 #[.pointer (some ⟨b, 0, none⟩), nw 33 vl tx st en nm c a cap] w (PW b n0 text (exprT 33 vl tx c (tokss c)) v0 w) := by
  go_enter Tryz.func150, Tryz.ntmps150
  have HR0 := Lib.hid (PrRun.start h hn)
  have HN0 := Lib.hid hN
  go_upto_region 1 with fail
  obtain ⟨w1, hw1⟩ : ∃ w1, w1 = w.alloc (nbx 33 vl tx st en nm c a cap) := ⟨_, rfl⟩
  rw [show World.alloc w _ = w1 from hw1.symm]
  have HR1 : Hid (PrRun b n0 w v0 text [] w1 v0) := by rw [hw1]; exact HR0.out.below (below_box _ _)
  have HX1 : Hid (BoxIn w1 v0 b w.heap.size (nbx 33 vl tx st en nm c a cap)) := by rw [hw1]; exact BoxIn.made h
  have HN1 : Hid (NV w1 n0 m a cap c) := by rw [hw1]; exact HN0.out.below hn (below_box _ _)
  clear hw1 h hN
  obtain ⟨x0, x1, x2, x3, x4, x5, x6⟩ := cells7 HX1.out.h
  have K1 := Lib.hid (tok1_call HR1.out ⟨#[110, 101, 119]⟩ [110, 101, 119] rfl (by decide))
  go_wp2_with fail
  refine K1.out.mono ?_
  rintro e w2 ⟨rfl, v2, hp, hr⟩
  have HR2 := Lib.hid (HR1.out.step hp.out hr.out)
  have HN2 := Lib.hid (HN1.out.rep HR1.out.n HR1.out.pr hr.out)
  have HX2 := Lib.hid (HX1.out.rep hr.out)
  clear hp hr K1 HR1 HN1 HX1 x0 x1 x2 x3 x4 x5 x6
  obtain ⟨x0, x1, x2, x3, x4, x5, x6⟩ := cells7 HX2.out.h
  have K2 := Lib.hid (part_any (kd := 33) (vl := vl) (tx := tx) (st := st) (en := en) (nm := nm) 0 (by decide) HN2.out HP HR2.out.pr HR2.out.n)
  go_wp2_with fail
  refine K2.out.mono ?_
  rintro e w3 ⟨rfl, v3, hp, hr⟩
  have HR3 := Lib.hid (HR2.out.step hp.out hr.out)
  have HN3 := Lib.hid (HN2.out.rep HR2.out.n HR2.out.pr hr.out)
  have HX3 := Lib.hid (HX2.out.rep hr.out)
  clear hp hr K2 HR2 HN2 HX2 x0 x1 x2 x3 x4 x5 x6
  obtain ⟨x0, x1, x2, x3, x4, x5, x6⟩ := cells7 HX3.out.h
  have K3 := Lib.hid (from_any 33 vl tx st en nm c a cap n0 m 1 w3 HN3.out HR3.out.n (by decide))
  go_wp2_with fail
  refine K3.out.mono ?_
  rintro e w4 ⟨hb, a4, cap4, m4, rfl, hnv⟩
  obtain ⟨d4, hd⟩ : ∃ d, d = c.drop 1 := ⟨_, rfl⟩
  rw [← hd] at hnv ⊢
  have HE4 := Lib.hid hd
  clear hd
  have HD4 := Lib.hid hnv
  have HR4 := Lib.hid (HR3.out.below hb)
  have HN4 := Lib.hid (HN3.out.below HR3.out.n hb)
  have HX4 := Lib.hid (HX3.out.below hb)
  clear hb hnv K3 HR3 HN3 HX3 x0 x1 x2 x3 x4 x5 x6
  obtain ⟨x0, x1, x2, x3, x4, x5, x6⟩ := cells7 HX4.out.h
  have K4 := Lib.hid (bracketed_any ⟨#[123]⟩ ⟨#[125]⟩ [123] [125] (Lib.hid rfl) (Lib.hid rfl) (Lib.hid (by decide)) (Lib.hid (by decide)) HD4.out (Lib.hid (fun y hy => HP.out y (List.mem_of_mem_drop (by rw [← HE4.out]; exact hy)))) HR4.out.pr HR4.out.n)
  go_wp2_with fail
  refine K4.out.mono ?_
  rintro e w5 ⟨rfl, v5, hp, hr⟩
  have HR5 := Lib.hid (HR4.out.step hp.out hr.out)
  have HN5 := Lib.hid (HN4.out.rep HR4.out.n HR4.out.pr hr.out)
  have HX5 := Lib.hid (HX4.out.rep hr.out)
  clear hp hr K4 HR4 HN4 HX4 x0 x1 x2 x3 x4 x5 x6
  obtain ⟨x0, x1, x2, x3, x4, x5, x6⟩ := cells7 HX5.out.h
  go_wp2_with fail
  first | go_end0 | refine bodyPost_ret (results_none rfl _ _ _) rfl ?_
  exact HR5.out.done (by simp [exprT, tokss_drop, -List.drop_one, HE4.out])

set_option maxRecDepth 100000 in
set_option maxHeartbeats 4000000 in
theorem expr_34 (hN : NV w n0 m a cap c) (HP : Hid (∀ y, y ∈ c → PT b n0 y)) (h : PrIn w b n0 v0 text) (hn : n0 ≤ w.heap.size) (htx : tx.length ≤ 1100000) :
    Calls Tryz.prog 150 #[.pointer (some ⟨b, 0, none⟩), nw 34 vl tx st en nm c a cap] w (PW b n0 text (exprT 34 vl tx c (tokss c)) v0 w) := by
  go_enter Tryz.func150, Tryz.ntmps150
  have HR0 := Lib.hid (PrRun.start h hn)
  have HN0 := Lib.hid hN
  go_upto_region 1 with fail
  obtain ⟨w1, hw1⟩ : ∃ w1, w1 = w.alloc (nbx 34 vl tx st en nm c a cap) := ⟨_, rfl⟩
  rw [show World.alloc w _ = w1 from hw1.symm]
  have HR1 : Hid (PrRun b n0 w v0 text [] w1 v0) := by rw [hw1]; exact HR0.out.below (below_box _ _)
  have HX1 : Hid (BoxIn w1 v0 b w.heap.size (nbx 34 vl tx st en nm c a cap)) := by rw [hw1]; exact BoxIn.made h
  have HN1 : Hid (NV w1 n0 m a cap c) := by rw [hw1]; exact HN0.out.below hn (below_box _ _)
  clear hw1 h hN
  obtain ⟨x0, x1, x2, x3, x4, x5, x6⟩ := cells7 HX1.out.h
  have K1 := Lib.hid (tok2_call HR1.out (Lx.bs tx) ⟨#[58]⟩ tx [58] (Lx.L_bs tx) rfl (by rw [Lx.bs_size]; omega) (by decide))
  go_wp2_with fail
  refine K1.out.mono ?_
  rintro e w2 ⟨rfl, v2, hp, hr⟩
  have HR2 := Lib.hid (HR1.out.step hp.out hr.out)
  have HN2 := Lib.hid (HN1.out.rep HR1.out.n HR1.out.pr hr.out)
  have HX2 := Lib.hid (HX1.out.rep hr.out)
  clear hp hr K1 HR1 HN1 HX1 x0 x1 x2 x3 x4 x5 x6
  obtain ⟨x0, x1, x2, x3, x4, x5, x6⟩ := cells7 HX2.out.h
  have K2 := Lib.hid (part_any (kd := 34) (vl := vl) (tx := tx) (st := st) (en := en) (nm := nm) 0 (by decide) HN2.out HP HR2.out.pr HR2.out.n)
  go_wp2_with fail
  refine K2.out.mono ?_
  rintro e w3 ⟨rfl, v3, hp, hr⟩
  have HR3 := Lib.hid (HR2.out.step hp.out hr.out)
  have HN3 := Lib.hid (HN2.out.rep HR2.out.n HR2.out.pr hr.out)
  have HX3 := Lib.hid (HX2.out.rep hr.out)
  clear hp hr K2 HR2 HN2 HX2 x0 x1 x2 x3 x4 x5 x6
  obtain ⟨x0, x1, x2, x3, x4, x5, x6⟩ := cells7 HX3.out.h
  go_wp2_with fail
  first | go_end0 | refine bodyPost_ret (results_none rfl _ _ _) rfl ?_
  exact HR3.out.done (by simp [exprT])

set_option maxRecDepth 100000 in
set_option maxHeartbeats 4000000 in
theorem expr_35 (hN : NV w n0 m a cap c) (HP : Hid (∀ y, y ∈ c → PT b n0 y)) (h : PrIn w b n0 v0 text) (hn : n0 ≤ w.heap.size) (_htx : tx.length ≤ 1100000) :
    Calls Tryz.prog 150 #[.pointer (some ⟨b, 0, none⟩), nw 35 vl tx st en nm c a cap] w (PW b n0 text (exprT 35 vl tx c (tokss c)) v0 w) := by
  go_enter Tryz.func150, Tryz.ntmps150
  have HR0 := Lib.hid (PrRun.start h hn)
  have HN0 := Lib.hid hN
  go_upto_region 1 with fail
  obtain ⟨w1, hw1⟩ : ∃ w1, w1 = w.alloc (nbx 35 vl tx st en nm c a cap) := ⟨_, rfl⟩
  rw [show World.alloc w _ = w1 from hw1.symm]
  have HR1 : Hid (PrRun b n0 w v0 text [] w1 v0) := by rw [hw1]; exact HR0.out.below (below_box _ _)
  have HX1 : Hid (BoxIn w1 v0 b w.heap.size (nbx 35 vl tx st en nm c a cap)) := by rw [hw1]; exact BoxIn.made h
  have HN1 : Hid (NV w1 n0 m a cap c) := by rw [hw1]; exact HN0.out.below hn (below_box _ _)
  clear hw1 h hN
  obtain ⟨x0, x1, x2, x3, x4, x5, x6⟩ := cells7 HX1.out.h
  have K1 := Lib.hid (tok1_call HR1.out ⟨#[109, 97, 116, 99, 104]⟩ [109, 97, 116, 99, 104] rfl (by decide))
  go_wp2_with fail
  refine K1.out.mono ?_
  rintro e w2 ⟨rfl, v2, hp, hr⟩
  have HR2 := Lib.hid (HR1.out.step hp.out hr.out)
  have HN2 := Lib.hid (HN1.out.rep HR1.out.n HR1.out.pr hr.out)
  have HX2 := Lib.hid (HX1.out.rep hr.out)
  clear hp hr K1 HR1 HN1 HX1 x0 x1 x2 x3 x4 x5 x6
  obtain ⟨x0, x1, x2, x3, x4, x5, x6⟩ := cells7 HX2.out.h
  have K2 := Lib.hid (part_any (kd := 35) (vl := vl) (tx := tx) (st := st) (en := en) (nm := nm) 0 (by decide) HN2.out HP HR2.out.pr HR2.out.n)
  go_wp2_with fail
  refine K2.out.mono ?_
  rintro e w3 ⟨rfl, v3, hp, hr⟩
  have HR3 := Lib.hid (HR2.out.step hp.out hr.out)
  have HN3 := Lib.hid (HN2.out.rep HR2.out.n HR2.out.pr hr.out)
  have HX3 := Lib.hid (HX2.out.rep hr.out)
  clear hp hr K2 HR2 HN2 HX2 x0 x1 x2 x3 x4 x5 x6
  obtain ⟨x0, x1, x2, x3, x4, x5, x6⟩ := cells7 HX3.out.h
  have K3 := Lib.hid (from_any 35 vl tx st en nm c a cap n0 m 1 w3 HN3.out HR3.out.n (by decide))
  go_wp2_with fail
  refine K3.out.mono ?_
  rintro e w4 ⟨hb, a4, cap4, m4, rfl, hnv⟩
  obtain ⟨d4, hd⟩ : ∃ d, d = c.drop 1 := ⟨_, rfl⟩
  rw [← hd] at hnv ⊢
  have HE4 := Lib.hid hd
  clear hd
  have HD4 := Lib.hid hnv
  have HR4 := Lib.hid (HR3.out.below hb)
  have HN4 := Lib.hid (HN3.out.below HR3.out.n hb)
  have HX4 := Lib.hid (HX3.out.below hb)
  clear hb hnv K3 HR3 HN3 HX3 x0 x1 x2 x3 x4 x5 x6
  obtain ⟨x0, x1, x2, x3, x4, x5, x6⟩ := cells7 HX4.out.h
  have K4 := Lib.hid (bracketed_any ⟨#[123]⟩ ⟨#[125]⟩ [123] [125] (Lib.hid rfl) (Lib.hid rfl) (Lib.hid (by decide)) (Lib.hid (by decide)) HD4.out (Lib.hid (fun y hy => HP.out y (List.mem_of_mem_drop (by rw [← HE4.out]; exact hy)))) HR4.out.pr HR4.out.n)
  go_wp2_with fail
  refine K4.out.mono ?_
  rintro e w5 ⟨rfl, v5, hp, hr⟩
  have HR5 := Lib.hid (HR4.out.step hp.out hr.out)
  have HN5 := Lib.hid (HN4.out.rep HR4.out.n HR4.out.pr hr.out)
  have HX5 := Lib.hid (HX4.out.rep hr.out)
  clear hp hr K4 HR4 HN4 HX4 x0 x1 x2 x3 x4 x5 x6
  obtain ⟨x0, x1, x2, x3, x4, x5, x6⟩ := cells7 HX5.out.h
  go_wp2_with fail
  first | go_end0 | refine bodyPost_ret (results_none rfl _ _ _) rfl ?_
  exact HR5.out.done (by simp [exprT, tokss_drop, -List.drop_one, HE4.out])

set_option maxRecDepth 100000 in
set_option maxHeartbeats 4000000 in
theorem expr_36 (hN : NV w n0 m a cap c) (HP : Hid (∀ y, y ∈ c → PT b n0 y)) (h : PrIn w b n0 v0 text) (hn : n0 ≤ w.heap.size) (_htx : tx.length ≤ 1100000) :
    Calls Tryz.prog 150 #[.pointer (some ⟨b, 0, none⟩), nw 36 vl tx st en nm c a cap] w (PW b n0 text (exprT 36 vl tx c (tokss c)) v0 w) := by
  go_enter Tryz.func150, Tryz.ntmps150
  have HR0 := Lib.hid (PrRun.start h hn)
  have HN0 := Lib.hid hN
  go_upto_region 1 with fail
  obtain ⟨w1, hw1⟩ : ∃ w1, w1 = w.alloc (nbx 36 vl tx st en nm c a cap) := ⟨_, rfl⟩
  rw [show World.alloc w _ = w1 from hw1.symm]
  have HR1 : Hid (PrRun b n0 w v0 text [] w1 v0) := by rw [hw1]; exact HR0.out.below (below_box _ _)
  have HX1 : Hid (BoxIn w1 v0 b w.heap.size (nbx 36 vl tx st en nm c a cap)) := by rw [hw1]; exact BoxIn.made h
  have HN1 : Hid (NV w1 n0 m a cap c) := by rw [hw1]; exact HN0.out.below hn (below_box _ _)
  clear hw1 h hN
  obtain ⟨x0, x1, x2, x3, x4, x5, x6⟩ := cells7 HX1.out.h
  have K1 := Lib.hid (part_any (kd := 36) (vl := vl) (tx := tx) (st := st) (en := en) (nm := nm) 0 (by decide) HN1.out HP HR1.out.pr HR1.out.n)
  go_wp2_with fail
  refine K1.out.mono ?_
  rintro e w2 ⟨rfl, v2, hp, hr⟩
  have HR2 := Lib.hid (HR1.out.step hp.out hr.out)
  have HN2 := Lib.hid (HN1.out.rep HR1.out.n HR1.out.pr hr.out)
  have HX2 := Lib.hid (HX1.out.rep hr.out)
  clear hp hr K1 HR1 HN1 HX1 x0 x1 x2 x3 x4 x5 x6
  obtain ⟨x0, x1, x2, x3, x4, x5, x6⟩ := cells7 HX2.out.h
  have K2 := Lib.hid (tok1_call HR2.out ⟨#[61, 62]⟩ [61, 62] rfl (by decide))
  go_wp2_with fail
  refine K2.out.mono ?_
  rintro e w3 ⟨rfl, v3, hp, hr⟩
  have HR3 := Lib.hid (HR2.out.step hp.out hr.out)
  have HN3 := Lib.hid (HN2.out.rep HR2.out.n HR2.out.pr hr.out)
  have HX3 := Lib.hid (HX2.out.rep hr.out)
  clear hp hr K2 HR2 HN2 HX2 x0 x1 x2 x3 x4 x5 x6
  obtain ⟨x0, x1, x2, x3, x4, x5, x6⟩ := cells7 HX3.out.h
  have K3 := Lib.hid (part_any (kd := 36) (vl := vl) (tx := tx) (st := st) (en := en) (nm := nm) 1 (by decide) HN3.out HP HR3.out.pr HR3.out.n)
  go_wp2_with fail
  refine K3.out.mono ?_
  rintro e w4 ⟨rfl, v4, hp, hr⟩
  have HR4 := Lib.hid (HR3.out.step hp.out hr.out)
  have HN4 := Lib.hid (HN3.out.rep HR3.out.n HR3.out.pr hr.out)
  have HX4 := Lib.hid (HX3.out.rep hr.out)
  clear hp hr K3 HR3 HN3 HX3 x0 x1 x2 x3 x4 x5 x6
  obtain ⟨x0, x1, x2, x3, x4, x5, x6⟩ := cells7 HX4.out.h
  go_wp2_with fail
  first | go_end0 | refine bodyPost_ret (results_none rfl _ _ _) rfl ?_
  exact HR4.out.done (by simp [exprT])

set_option maxRecDepth 100000 in
set_option maxHeartbeats 4000000 in
theorem expr_37 (hN : NV w n0 m a cap c) (HP : Hid (∀ y, y ∈ c → PT b n0 y)) (h : PrIn w b n0 v0 text) (hn : n0 ≤ w.heap.size) (_htx : tx.length ≤ 1100000) :
    Calls Tryz.prog 150 #[.pointer (some ⟨b, 0, none⟩), nw 37 vl tx st en nm c a cap] w (PW b n0 text (exprT 37 vl tx c (tokss c)) v0 w) := by
  go_enter Tryz.func150, Tryz.ntmps150
  have HR0 := Lib.hid (PrRun.start h hn)
  have HN0 := Lib.hid hN
  go_upto_region 1 with fail
  obtain ⟨w1, hw1⟩ : ∃ w1, w1 = w.alloc (nbx 37 vl tx st en nm c a cap) := ⟨_, rfl⟩
  rw [show World.alloc w _ = w1 from hw1.symm]
  have HR1 : Hid (PrRun b n0 w v0 text [] w1 v0) := by rw [hw1]; exact HR0.out.below (below_box _ _)
  have HX1 : Hid (BoxIn w1 v0 b w.heap.size (nbx 37 vl tx st en nm c a cap)) := by rw [hw1]; exact BoxIn.made h
  have HN1 : Hid (NV w1 n0 m a cap c) := by rw [hw1]; exact HN0.out.below hn (below_box _ _)
  clear hw1 h hN
  obtain ⟨x0, x1, x2, x3, x4, x5, x6⟩ := cells7 HX1.out.h
  have K1 := Lib.hid (tok1_call HR1.out ⟨#[105, 102]⟩ [105, 102] rfl (by decide))
  go_wp2_with fail
  refine K1.out.mono ?_
  rintro e w2 ⟨rfl, v2, hp, hr⟩
  have HR2 := Lib.hid (HR1.out.step hp.out hr.out)
  have HN2 := Lib.hid (HN1.out.rep HR1.out.n HR1.out.pr hr.out)
  have HX2 := Lib.hid (HX1.out.rep hr.out)
  clear hp hr K1 HR1 HN1 HX1 x0 x1 x2 x3 x4 x5 x6
  obtain ⟨x0, x1, x2, x3, x4, x5, x6⟩ := cells7 HX2.out.h
  have K2 := Lib.hid (part_any (kd := 37) (vl := vl) (tx := tx) (st := st) (en := en) (nm := nm) 0 (by decide) HN2.out HP HR2.out.pr HR2.out.n)
  go_wp2_with fail
  refine K2.out.mono ?_
  rintro e w3 ⟨rfl, v3, hp, hr⟩
  have HR3 := Lib.hid (HR2.out.step hp.out hr.out)
  have HN3 := Lib.hid (HN2.out.rep HR2.out.n HR2.out.pr hr.out)
  have HX3 := Lib.hid (HX2.out.rep hr.out)
  clear hp hr K2 HR2 HN2 HX2 x0 x1 x2 x3 x4 x5 x6
  obtain ⟨x0, x1, x2, x3, x4, x5, x6⟩ := cells7 HX3.out.h
  have K3 := Lib.hid (part_any (kd := 37) (vl := vl) (tx := tx) (st := st) (en := en) (nm := nm) 1 (by decide) HN3.out HP HR3.out.pr HR3.out.n)
  go_wp2_with fail
  refine K3.out.mono ?_
  rintro e w4 ⟨rfl, v4, hp, hr⟩
  have HR4 := Lib.hid (HR3.out.step hp.out hr.out)
  have HN4 := Lib.hid (HN3.out.rep HR3.out.n HR3.out.pr hr.out)
  have HX4 := Lib.hid (HX3.out.rep hr.out)
  clear hp hr K3 HR3 HN3 HX3 x0 x1 x2 x3 x4 x5 x6
  obtain ⟨x0, x1, x2, x3, x4, x5, x6⟩ := cells7 HX4.out.h
  have K4 := Lib.hid (optional_any (kd := 37) (vl := vl) (tx := tx) (st := st) (en := en) (nm := nm) ⟨#[101, 108, 115, 101]⟩ [101, 108, 115, 101] (Lib.hid rfl) (Lib.hid (by decide)) 2 (by decide) HN4.out HP HR4.out.pr HR4.out.n)
  go_wp2_with fail
  refine K4.out.mono ?_
  rintro e w5 ⟨rfl, v5, hp, hr⟩
  have HR5 := Lib.hid (HR4.out.step hp.out hr.out)
  have HN5 := Lib.hid (HN4.out.rep HR4.out.n HR4.out.pr hr.out)
  have HX5 := Lib.hid (HX4.out.rep hr.out)
  clear hp hr K4 HR4 HN4 HX4 x0 x1 x2 x3 x4 x5 x6
  obtain ⟨x0, x1, x2, x3, x4, x5, x6⟩ := cells7 HX5.out.h
  go_wp2_with fail
  first | go_end0 | refine bodyPost_ret (results_none rfl _ _ _) rfl ?_
  exact HR5.out.done (by simp [exprT])

set_option maxRecDepth 100000 in
set_option maxHeartbeats 4000000 in
theorem expr_38 (hN : NV w n0 m a cap c) (HP : Hid (∀ y, y ∈ c → PT b n0 y)) (h : PrIn w b n0 v0 text) (hn : n0 ≤ w.heap.size) (_htx : tx.length ≤ 1100000) :
    Calls Tryz.prog 150 #[.pointer (some ⟨b, 0, none⟩), nw 38 vl tx st en nm c a cap] w (PW b n0 text (exprT 38 vl tx c (tokss c)) v0 w) := by
  go_enter Tryz.func150, Tryz.ntmps150
  have HR0 := Lib.hid (PrRun.start h hn)
  have HN0 := Lib.hid hN
  go_upto_region 1 with fail
  obtain ⟨w1, hw1⟩ : ∃ w1, w1 = w.alloc (nbx 38 vl tx st en nm c a cap) := ⟨_, rfl⟩
  rw [show World.alloc w _ = w1 from hw1.symm]
  have HR1 : Hid (PrRun b n0 w v0 text [] w1 v0) := by rw [hw1]; exact HR0.out.below (below_box _ _)
  have HX1 : Hid (BoxIn w1 v0 b w.heap.size (nbx 38 vl tx st en nm c a cap)) := by rw [hw1]; exact BoxIn.made h
  have HN1 : Hid (NV w1 n0 m a cap c) := by rw [hw1]; exact HN0.out.below hn (below_box _ _)
  clear hw1 h hN
  obtain ⟨x0, x1, x2, x3, x4, x5, x6⟩ := cells7 HX1.out.h
  have K1 := Lib.hid (tok1_call HR1.out ⟨#[124]⟩ [124] rfl (by decide))
  go_wp2_with fail
  refine K1.out.mono ?_
  rintro e w2 ⟨rfl, v2, hp, hr⟩
  have HR2 := Lib.hid (HR1.out.step hp.out hr.out)
  have HN2 := Lib.hid (HN1.out.rep HR1.out.n HR1.out.pr hr.out)
  have HX2 := Lib.hid (HX1.out.rep hr.out)
  clear hp hr K1 HR1 HN1 HX1 x0 x1 x2 x3 x4 x5 x6
  obtain ⟨x0, x1, x2, x3, x4, x5, x6⟩ := cells7 HX2.out.h
  have K2 := Lib.hid (part_any (kd := 38) (vl := vl) (tx := tx) (st := st) (en := en) (nm := nm) 0 (by decide) HN2.out HP HR2.out.pr HR2.out.n)
  go_wp2_with fail
  refine K2.out.mono ?_
  rintro e w3 ⟨rfl, v3, hp, hr⟩
  have HR3 := Lib.hid (HR2.out.step hp.out hr.out)
  have HN3 := Lib.hid (HN2.out.rep HR2.out.n HR2.out.pr hr.out)
  have HX3 := Lib.hid (HX2.out.rep hr.out)
  clear hp hr K2 HR2 HN2 HX2 x0 x1 x2 x3 x4 x5 x6
  obtain ⟨x0, x1, x2, x3, x4, x5, x6⟩ := cells7 HX3.out.h
  have K3 := Lib.hid (tok1_call HR3.out ⟨#[124]⟩ [124] rfl (by decide))
  go_wp2_with fail
  refine K3.out.mono ?_
  rintro e w4 ⟨rfl, v4, hp, hr⟩
  have HR4 := Lib.hid (HR3.out.step hp.out hr.out)
  have HN4 := Lib.hid (HN3.out.rep HR3.out.n HR3.out.pr hr.out)
  have HX4 := Lib.hid (HX3.out.rep hr.out)
  clear hp hr K3 HR3 HN3 HX3 x0 x1 x2 x3 x4 x5 x6
  obtain ⟨x0, x1, x2, x3, x4, x5, x6⟩ := cells7 HX4.out.h
  have K4 := Lib.hid (part_any (kd := 38) (vl := vl) (tx := tx) (st := st) (en := en) (nm := nm) 1 (by decide) HN4.out HP HR4.out.pr HR4.out.n)
  go_wp2_with fail
  refine K4.out.mono ?_
  rintro e w5 ⟨rfl, v5, hp, hr⟩
  have HR5 := Lib.hid (HR4.out.step hp.out hr.out)
  have HN5 := Lib.hid (HN4.out.rep HR4.out.n HR4.out.pr hr.out)
  have HX5 := Lib.hid (HX4.out.rep hr.out)
  clear hp hr K4 HR4 HN4 HX4 x0 x1 x2 x3 x4 x5 x6
  obtain ⟨x0, x1, x2, x3, x4, x5, x6⟩ := cells7 HX5.out.h
  go_wp2_with fail
  first | go_end0 | refine bodyPost_ret (results_none rfl _ _ _) rfl ?_
  exact HR5.out.done (by simp [exprT])

set_option maxRecDepth 100000 in
set_option maxHeartbeats 4000000 in
theorem expr_39 (hN : NV w n0 m a cap c) (HP : Hid (∀ y, y ∈ c → PT b n0 y)) (h : PrIn w b n0 v0 text) (hn : n0 ≤ w.heap.size) (htx : tx.length ≤ 1100000) :
    Calls Tryz.prog 150 #[.pointer (some ⟨b, 0, none⟩), nw 39 vl tx st en nm c a cap] w (PW b n0 text (exprT 39 vl tx c (tokss c)) v0 w) := by
  go_enter Tryz.func150, Tryz.ntmps150
  have HR0 := Lib.hid (PrRun.start h hn)
  have HN0 := Lib.hid hN
  go_upto_region 1 with fail
  obtain ⟨w1, hw1⟩ : ∃ w1, w1 = w.alloc (nbx 39 vl tx st en nm c a cap) := ⟨_, rfl⟩
  rw [show World.alloc w _ = w1 from hw1.symm]
  have HR1 : Hid (PrRun b n0 w v0 text [] w1 v0) := by rw [hw1]; exact HR0.out.below (below_box _ _)
  have HX1 : Hid (BoxIn w1 v0 b w.heap.size (nbx 39 vl tx st en nm c a cap)) := by rw [hw1]; exact BoxIn.made h
  have HN1 : Hid (NV w1 n0 m a cap c) := by rw [hw1]; exact HN0.out.below hn (below_box _ _)
  clear hw1 h hN
  obtain ⟨x0, x1, x2, x3, x4, x5, x6⟩ := cells7 HX1.out.h
  have K1 := Lib.hid (operand_any (kd := 39) (vl := vl) (tx := tx) (st := st) (en := en) (nm := nm) 0 (by decide) HN1.out HP HR1.out.pr HR1.out.n)
  go_wp2_with fail
  refine K1.out.mono ?_
  rintro e w2 ⟨rfl, v2, hp, hr⟩
  have HR2 := Lib.hid (HR1.out.step hp.out hr.out)
  have HN2 := Lib.hid (HN1.out.rep HR1.out.n HR1.out.pr hr.out)
  have HX2 := Lib.hid (HX1.out.rep hr.out)
  clear hp hr K1 HR1 HN1 HX1 x0 x1 x2 x3 x4 x5 x6
  obtain ⟨x0, x1, x2, x3, x4, x5, x6⟩ := cells7 HX2.out.h
  have K2 := Lib.hid (tok1_call HR2.out (Lx.bs tx) tx (Lx.L_bs tx) (by rw [Lx.bs_size]; omega))
  go_wp2_with fail
  refine K2.out.mono ?_
  rintro e w3 ⟨rfl, v3, hp, hr⟩
  have HR3 := Lib.hid (HR2.out.step hp.out hr.out)
  have HN3 := Lib.hid (HN2.out.rep HR2.out.n HR2.out.pr hr.out)
  have HX3 := Lib.hid (HX2.out.rep hr.out)
  clear hp hr K2 HR2 HN2 HX2 x0 x1 x2 x3 x4 x5 x6
  obtain ⟨x0, x1, x2, x3, x4, x5, x6⟩ := cells7 HX3.out.h
  have K3 := Lib.hid (operand_any (kd := 39) (vl := vl) (tx := tx) (st := st) (en := en) (nm := nm) 1 (by decide) HN3.out HP HR3.out.pr HR3.out.n)
  go_wp2_with fail
  refine K3.out.mono ?_
  rintro e w4 ⟨rfl, v4, hp, hr⟩
  have HR4 := Lib.hid (HR3.out.step hp.out hr.out)
  have HN4 := Lib.hid (HN3.out.rep HR3.out.n HR3.out.pr hr.out)
  have HX4 := Lib.hid (HX3.out.rep hr.out)
  clear hp hr K3 HR3 HN3 HX3 x0 x1 x2 x3 x4 x5 x6
  obtain ⟨x0, x1, x2, x3, x4, x5, x6⟩ := cells7 HX4.out.h
  go_wp2_with fail
  first | go_end0 | refine bodyPost_ret (results_none rfl _ _ _) rfl ?_
  exact HR4.out.done (by simp [exprT])

set_option maxRecDepth 100000 in
set_option maxHeartbeats 4000000 in
theorem expr_40 (hN : NV w n0 m a cap c) (HP : Hid (∀ y, y ∈ c → PT b n0 y)) (h : PrIn w b n0 v0 text) (hn : n0 ≤ w.heap.size) (htx : tx.length ≤ 1100000) :
    Calls Tryz.prog 150 #[.pointer (some ⟨b, 0, none⟩), nw 40 vl tx st en nm c a cap] w (PW b n0 text (exprT 40 vl tx c (tokss c)) v0 w) := by
  go_enter Tryz.func150, Tryz.ntmps150
  have HR0 := Lib.hid (PrRun.start h hn)
  have HN0 := Lib.hid hN
  go_upto_region 1 with fail
  obtain ⟨w1, hw1⟩ : ∃ w1, w1 = w.alloc (nbx 40 vl tx st en nm c a cap) := ⟨_, rfl⟩
  rw [show World.alloc w _ = w1 from hw1.symm]
  have HR1 : Hid (PrRun b n0 w v0 text [] w1 v0) := by rw [hw1]; exact HR0.out.below (below_box _ _)
  have HX1 : Hid (BoxIn w1 v0 b w.heap.size (nbx 40 vl tx st en nm c a cap)) := by rw [hw1]; exact BoxIn.made h
  have HN1 : Hid (NV w1 n0 m a cap c) := by rw [hw1]; exact HN0.out.below hn (below_box _ _)
  clear hw1 h hN
  obtain ⟨x0, x1, x2, x3, x4, x5, x6⟩ := cells7 HX1.out.h
  have K1 := Lib.hid (tok1_call HR1.out (Lx.bs tx) tx (Lx.L_bs tx) (by rw [Lx.bs_size]; omega))
  go_wp2_with fail
  refine K1.out.mono ?_
  rintro e w2 ⟨rfl, v2, hp, hr⟩
  have HR2 := Lib.hid (HR1.out.step hp.out hr.out)
  have HN2 := Lib.hid (HN1.out.rep HR1.out.n HR1.out.pr hr.out)
  have HX2 := Lib.hid (HX1.out.rep hr.out)
  clear hp hr K1 HR1 HN1 HX1 x0 x1 x2 x3 x4 x5 x6
  obtain ⟨x0, x1, x2, x3, x4, x5, x6⟩ := cells7 HX2.out.h
  have K2 := Lib.hid (operand_any (kd := 40) (vl := vl) (tx := tx) (st := st) (en := en) (nm := nm) 0 (by decide) HN2.out HP HR2.out.pr HR2.out.n)
  go_wp2_with fail
  refine K2.out.mono ?_
  rintro e w3 ⟨rfl, v3, hp, hr⟩
  have HR3 := Lib.hid (HR2.out.step hp.out hr.out)
  have HN3 := Lib.hid (HN2.out.rep HR2.out.n HR2.out.pr hr.out)
  have HX3 := Lib.hid (HX2.out.rep hr.out)
  clear hp hr K2 HR2 HN2 HX2 x0 x1 x2 x3 x4 x5 x6
  obtain ⟨x0, x1, x2, x3, x4, x5, x6⟩ := cells7 HX3.out.h
  go_wp2_with fail
  first | go_end0 | refine bodyPost_ret (results_none rfl _ _ _) rfl ?_
  exact HR3.out.done (by simp [exprT])

set_option maxRecDepth 100000 in
set_option maxHeartbeats 4000000 in
theorem expr_41 (hN : NV w n0 m a cap c) (HP : Hid (∀ y, y ∈ c → PT b n0 y)) (h : PrIn w b n0 v0 text) (hn : n0 ≤ w.heap.size) (_htx : tx.length ≤ 1100000) :
    Calls Tryz.prog 150 #[.pointer (some ⟨b, 0, none⟩), nw 41 vl tx st en nm c a cap] w (PW b n0 text (exprT 41 vl tx c (tokss c)) v0 w) := by
  go_enter Tryz.func150, Tryz.ntmps150
  have HR0 := Lib.hid (PrRun.start h hn)
  have HN0 := Lib.hid hN
  go_upto_region 1 with fail
  obtain ⟨w1, hw1⟩ : ∃ w1, w1 = w.alloc (nbx 41 vl tx st en nm c a cap) := ⟨_, rfl⟩
  rw [show World.alloc w _ = w1 from hw1.symm]
  have HR1 : Hid (PrRun b n0 w v0 text [] w1 v0) := by rw [hw1]; exact HR0.out.below (below_box _ _)
  have HX1 : Hid (BoxIn w1 v0 b w.heap.size (nbx 41 vl tx st en nm c a cap)) := by rw [hw1]; exact BoxIn.made h
  have HN1 : Hid (NV w1 n0 m a cap c) := by rw [hw1]; exact HN0.out.below hn (below_box _ _)
  clear hw1 h hN
  obtain ⟨x0, x1, x2, x3, x4, x5, x6⟩ := cells7 HX1.out.h
  have K1 := Lib.hid (tok1_call HR1.out ⟨#[38]⟩ [38] rfl (by decide))
  go_wp2_with fail
  refine K1.out.mono ?_
  rintro e w2 ⟨rfl, v2, hp, hr⟩
  have HR2 := Lib.hid (HR1.out.step hp.out hr.out)
  have HN2 := Lib.hid (HN1.out.rep HR1.out.n HR1.out.pr hr.out)
  have HX2 := Lib.hid (HX1.out.rep hr.out)
  clear hp hr K1 HR1 HN1 HX1 x0 x1 x2 x3 x4 x5 x6
  obtain ⟨x0, x1, x2, x3, x4, x5, x6⟩ := cells7 HX2.out.h
  have K2 := Lib.hid (mutable_any (kd := 41) (vl := vl) (tx := tx) (st := st) (en := en) (nm := nm)  HN2.out HR2.out.pr HR2.out.n)
  go_wp2_with fail
  refine K2.out.mono ?_
  rintro e w3 ⟨rfl, v3, hp, hr⟩
  have HR3 := Lib.hid (HR2.out.step hp.out hr.out)
  have HN3 := Lib.hid (HN2.out.rep HR2.out.n HR2.out.pr hr.out)
  have HX3 := Lib.hid (HX2.out.rep hr.out)
  clear hp hr K2 HR2 HN2 HX2 x0 x1 x2 x3 x4 x5 x6
  obtain ⟨x0, x1, x2, x3, x4, x5, x6⟩ := cells7 HX3.out.h
  have K3 := Lib.hid (operand_any (kd := 41) (vl := vl) (tx := tx) (st := st) (en := en) (nm := nm) 0 (by decide) HN3.out HP HR3.out.pr HR3.out.n)
  go_wp2_with fail
  refine K3.out.mono ?_
  rintro e w4 ⟨rfl, v4, hp, hr⟩
  have HR4 := Lib.hid (HR3.out.step hp.out hr.out)
  have HN4 := Lib.hid (HN3.out.rep HR3.out.n HR3.out.pr hr.out)
  have HX4 := Lib.hid (HX3.out.rep hr.out)
  clear hp hr K3 HR3 HN3 HX3 x0 x1 x2 x3 x4 x5 x6
  obtain ⟨x0, x1, x2, x3, x4, x5, x6⟩ := cells7 HX4.out.h
  go_wp2_with fail
  first | go_end0 | refine bodyPost_ret (results_none rfl _ _ _) rfl ?_
  exact HR4.out.done (by simp [exprT])

end
end Go.Proofs.YtcpojagfnpajeaaGreatDoorR.Ps
