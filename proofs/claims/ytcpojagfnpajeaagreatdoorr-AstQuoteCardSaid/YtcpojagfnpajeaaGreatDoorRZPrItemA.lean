/-
  printItem, kind by kind.
  printItem, kind by kind.
  printItem, kind by kind.
  printItem, kind by kind.
-/
import Derived.Test.YtcpojagfnpajeaaGreatDoorRZPrMid
namespace Go.Proofs.YtcpojagfnpajeaaGreatDoorR.Ps
open Go.RowKit

section
variable {b n0 m : Nat} {kd vl : Int} {tx : List UInt8} {st en nm : Int} {c : List Nd} {a : Option Addr} {cap : Nat} {w : World} {v0 : Value} {text : List UInt8}

theorem tokss_drop (l : List Nd) (i : Nat) : tokss (l.drop i) = (tokss l).drop i := by rw [tokss_map, tokss_map, List.map_drop]
theorem tokss_take (l : List Nd) (i : Nat) : tokss (l.take i) = (tokss l).take i := by rw [tokss_map, tokss_map, List.map_take]
def useT (v : Int) (t : Tok) (c : List Nd) (cs : List (List Tok)) : List Tok := [117, 115, 101] :: (partT c cs 0 ++ (if (v / 2) % 2 = 1 then [[58, 58], [42]] else []) ++ (if t ≠ [] then [[97, 115], t] else []) ++ [[59]])
def funcT (t : Tok) (c : List Nd) (cs : List (List Tok)) : List Tok := [102, 110] :: t :: (partT c cs 0 ++ [40] :: (partT c cs 1 ++ [41] :: (optT [45, 62] c cs 2 ++ (if kAt c 3 = 0 then [[59]] else partT c cs 3))))
def implT (c : List Nd) (cs : List (List Tok)) : List Tok := [105, 109, 112, 108] :: (partT c cs 0 ++ (if kAt c 1 = 0 then [] else partT c cs 1 ++ [[102, 111, 114]]) ++ partT c cs 2 ++ memT (cs.drop 3))

set_option maxRecDepth 100000 in
set_option maxHeartbeats 2000000 in
theorem k_use (hN : NV w n0 m a cap c) (HP : Hid (∀ y, y ∈ c → PT b n0 y)) (h : PrIn w b n0 v0 text) (hn : n0 ≤ w.heap.size) (htx : tx.length ≤ 1100000) :
    Calls Tryz.prog 195 #[.pointer (some ⟨b, 0, none⟩), nw kd vl tx st en nm c a cap] w (PW b n0 text (useT vl tx c (tokss c)) v0 w) := by
  by_cases hg : (vl / 2) % 2 = 1
  · have HG := Lib.hid hg
    have hb2 := bit2 hg
    clear hg
    by_cases ht : tx = []
    · have HT := Lib.hid ht
      have he := toL_nil ht
      clear ht
      go_enter Tryz.func195, Tryz.ntmps195
      have HR0 := Lib.hid (PrRun.start h hn)
      have HN0 := Lib.hid hN
      go_upto_region 1 with fail
      obtain ⟨w1, hw1⟩ : ∃ w1, w1 = w.alloc (nbx kd vl tx st en nm c a cap) := ⟨_, rfl⟩
      rw [show World.alloc w _ = w1 from hw1.symm]
      have HR1 : Hid (PrRun b n0 w v0 text [] w1 v0) := by rw [hw1]; exact HR0.out.below (below_box _ _)
      have HX1 : Hid (BoxIn w1 v0 b w.heap.size (nbx kd vl tx st en nm c a cap)) := by rw [hw1]; exact BoxIn.made h
      have HN1 : Hid (NV w1 n0 m a cap c) := by rw [hw1]; exact HN0.out.below hn (below_box _ _)
      clear hw1 h hN
      obtain ⟨x0, x1, x2, x3, x4, x5, x6⟩ := cells7 HX1.out.h
      have K1 := Lib.hid (tok1_call HR1.out ⟨#[117, 115, 101]⟩ [117, 115, 101] rfl (by decide))
      go_wp2_with fail
      refine K1.out.mono ?_
      rintro e w2 ⟨rfl, v2, hp, hr⟩
      have HR2 := Lib.hid (HR1.out.step hp.out hr.out)
      have HN2 := Lib.hid (HN1.out.rep HR1.out.n HR1.out.pr hr.out)
      have HX2 := Lib.hid (HX1.out.rep hr.out)
      clear hp hr K1 HR1 HN1 HX1 x0 x1 x2 x3 x4 x5 x6
      obtain ⟨x0, x1, x2, x3, x4, x5, x6⟩ := cells7 HX2.out.h
      have K2 := Lib.hid (part_any (kd := kd) (vl := vl) (tx := tx) (st := st) (en := en) (nm := nm) 0 (by decide) HN2.out HP HR2.out.pr HR2.out.n)
      go_wp2_with fail
      refine K2.out.mono ?_
      rintro e w3 ⟨rfl, v3, hp, hr⟩
      have HR3 := Lib.hid (HR2.out.step hp.out hr.out)
      have HN3 := Lib.hid (HN2.out.rep HR2.out.n HR2.out.pr hr.out)
      have HX3 := Lib.hid (HX2.out.rep hr.out)
      clear hp hr K2 HR2 HN2 HX2 x0 x1 x2 x3 x4 x5 x6
      obtain ⟨x0, x1, x2, x3, x4, x5, x6⟩ := cells7 HX3.out.h
      have K3 := Lib.hid (tok2_call HR3.out ⟨#[58, 58]⟩ ⟨#[42]⟩ [58, 58] [42] rfl rfl (by decide) (by decide))
      go_wp2_with fail
      refine K3.out.mono ?_
      rintro e w4 ⟨rfl, v4, hp, hr⟩
      have HR4 := Lib.hid (HR3.out.step hp.out hr.out)
      have HN4 := Lib.hid (HN3.out.rep HR3.out.n HR3.out.pr hr.out)
      have HX4 := Lib.hid (HX3.out.rep hr.out)
      clear hp hr K3 HR3 HN3 HX3 x0 x1 x2 x3 x4 x5 x6
      obtain ⟨x0, x1, x2, x3, x4, x5, x6⟩ := cells7 HX4.out.h
      have K4 := Lib.hid (tok1_call HR4.out ⟨#[59]⟩ [59] rfl (by decide))
      go_wp2_with fail
      refine K4.out.mono ?_
      rintro e w5 ⟨rfl, v5, hp, hr⟩
      have HR5 := Lib.hid (HR4.out.step hp.out hr.out)
      have HN5 := Lib.hid (HN4.out.rep HR4.out.n HR4.out.pr hr.out)
      have HX5 := Lib.hid (HX4.out.rep hr.out)
      clear hp hr K4 HR4 HN4 HX4 x0 x1 x2 x3 x4 x5 x6
      obtain ⟨x0, x1, x2, x3, x4, x5, x6⟩ := cells7 HX5.out.h
      go_wp2_with fail
      first | go_end0 | refine bodyPost_ret (results_none rfl _ _ _) rfl ?_
      exact HR5.out.done (by simp [useT, HG.out, HT.out])
    · have HT := Lib.hid ht
      have he := toL_some ht
      clear ht
      go_enter Tryz.func195, Tryz.ntmps195
      have HR0 := Lib.hid (PrRun.start h hn)
      have HN0 := Lib.hid hN
      go_upto_region 1 with fail
      obtain ⟨w1, hw1⟩ : ∃ w1, w1 = w.alloc (nbx kd vl tx st en nm c a cap) := ⟨_, rfl⟩
      rw [show World.alloc w _ = w1 from hw1.symm]
      have HR1 : Hid (PrRun b n0 w v0 text [] w1 v0) := by rw [hw1]; exact HR0.out.below (below_box _ _)
      have HX1 : Hid (BoxIn w1 v0 b w.heap.size (nbx kd vl tx st en nm c a cap)) := by rw [hw1]; exact BoxIn.made h
      have HN1 : Hid (NV w1 n0 m a cap c) := by rw [hw1]; exact HN0.out.below hn (below_box _ _)
      clear hw1 h hN
      obtain ⟨x0, x1, x2, x3, x4, x5, x6⟩ := cells7 HX1.out.h
      have K1 := Lib.hid (tok1_call HR1.out ⟨#[117, 115, 101]⟩ [117, 115, 101] rfl (by decide))
      go_wp2_with fail
      refine K1.out.mono ?_
      rintro e w2 ⟨rfl, v2, hp, hr⟩
      have HR2 := Lib.hid (HR1.out.step hp.out hr.out)
      have HN2 := Lib.hid (HN1.out.rep HR1.out.n HR1.out.pr hr.out)
      have HX2 := Lib.hid (HX1.out.rep hr.out)
      clear hp hr K1 HR1 HN1 HX1 x0 x1 x2 x3 x4 x5 x6
      obtain ⟨x0, x1, x2, x3, x4, x5, x6⟩ := cells7 HX2.out.h
      have K2 := Lib.hid (part_any (kd := kd) (vl := vl) (tx := tx) (st := st) (en := en) (nm := nm) 0 (by decide) HN2.out HP HR2.out.pr HR2.out.n)
      go_wp2_with fail
      refine K2.out.mono ?_
      rintro e w3 ⟨rfl, v3, hp, hr⟩
      have HR3 := Lib.hid (HR2.out.step hp.out hr.out)
      have HN3 := Lib.hid (HN2.out.rep HR2.out.n HR2.out.pr hr.out)
      have HX3 := Lib.hid (HX2.out.rep hr.out)
      clear hp hr K2 HR2 HN2 HX2 x0 x1 x2 x3 x4 x5 x6
      obtain ⟨x0, x1, x2, x3, x4, x5, x6⟩ := cells7 HX3.out.h
      have K3 := Lib.hid (tok2_call HR3.out ⟨#[58, 58]⟩ ⟨#[42]⟩ [58, 58] [42] rfl rfl (by decide) (by decide))
      go_wp2_with fail
      refine K3.out.mono ?_
      rintro e w4 ⟨rfl, v4, hp, hr⟩
      have HR4 := Lib.hid (HR3.out.step hp.out hr.out)
      have HN4 := Lib.hid (HN3.out.rep HR3.out.n HR3.out.pr hr.out)
      have HX4 := Lib.hid (HX3.out.rep hr.out)
      clear hp hr K3 HR3 HN3 HX3 x0 x1 x2 x3 x4 x5 x6
      obtain ⟨x0, x1, x2, x3, x4, x5, x6⟩ := cells7 HX4.out.h
      have K4 := Lib.hid (tok2_call HR4.out ⟨#[97, 115]⟩ (Lx.bs tx) [97, 115] tx rfl (Lx.L_bs tx) (by decide) (by rw [Lx.bs_size]; omega))
      go_wp2_with fail
      refine K4.out.mono ?_
      rintro e w5 ⟨rfl, v5, hp, hr⟩
      have HR5 := Lib.hid (HR4.out.step hp.out hr.out)
      have HN5 := Lib.hid (HN4.out.rep HR4.out.n HR4.out.pr hr.out)
      have HX5 := Lib.hid (HX4.out.rep hr.out)
      clear hp hr K4 HR4 HN4 HX4 x0 x1 x2 x3 x4 x5 x6
      obtain ⟨x0, x1, x2, x3, x4, x5, x6⟩ := cells7 HX5.out.h
      have K5 := Lib.hid (tok1_call HR5.out ⟨#[59]⟩ [59] rfl (by decide))
      go_wp2_with fail
      refine K5.out.mono ?_
      rintro e w6 ⟨rfl, v6, hp, hr⟩
      have HR6 := Lib.hid (HR5.out.step hp.out hr.out)
      have HN6 := Lib.hid (HN5.out.rep HR5.out.n HR5.out.pr hr.out)
      have HX6 := Lib.hid (HX5.out.rep hr.out)
      clear hp hr K5 HR5 HN5 HX5 x0 x1 x2 x3 x4 x5 x6
      obtain ⟨x0, x1, x2, x3, x4, x5, x6⟩ := cells7 HX6.out.h
      go_wp2_with fail
      first | go_end0 | refine bodyPost_ret (results_none rfl _ _ _) rfl ?_
      exact HR6.out.done (by simp [useT, HG.out, HT.out])
  · have HG := Lib.hid hg
    have hb2 := bit3 hg
    clear hg
    by_cases ht : tx = []
    · have HT := Lib.hid ht
      have he := toL_nil ht
      clear ht
      go_enter Tryz.func195, Tryz.ntmps195
      have HR0 := Lib.hid (PrRun.start h hn)
      have HN0 := Lib.hid hN
      go_upto_region 1 with fail
      obtain ⟨w1, hw1⟩ : ∃ w1, w1 = w.alloc (nbx kd vl tx st en nm c a cap) := ⟨_, rfl⟩
      rw [show World.alloc w _ = w1 from hw1.symm]
      have HR1 : Hid (PrRun b n0 w v0 text [] w1 v0) := by rw [hw1]; exact HR0.out.below (below_box _ _)
      have HX1 : Hid (BoxIn w1 v0 b w.heap.size (nbx kd vl tx st en nm c a cap)) := by rw [hw1]; exact BoxIn.made h
      have HN1 : Hid (NV w1 n0 m a cap c) := by rw [hw1]; exact HN0.out.below hn (below_box _ _)
      clear hw1 h hN
      obtain ⟨x0, x1, x2, x3, x4, x5, x6⟩ := cells7 HX1.out.h
      have K1 := Lib.hid (tok1_call HR1.out ⟨#[117, 115, 101]⟩ [117, 115, 101] rfl (by decide))
      go_wp2_with fail
      refine K1.out.mono ?_
      rintro e w2 ⟨rfl, v2, hp, hr⟩
      have HR2 := Lib.hid (HR1.out.step hp.out hr.out)
      have HN2 := Lib.hid (HN1.out.rep HR1.out.n HR1.out.pr hr.out)
      have HX2 := Lib.hid (HX1.out.rep hr.out)
      clear hp hr K1 HR1 HN1 HX1 x0 x1 x2 x3 x4 x5 x6
      obtain ⟨x0, x1, x2, x3, x4, x5, x6⟩ := cells7 HX2.out.h
      have K2 := Lib.hid (part_any (kd := kd) (vl := vl) (tx := tx) (st := st) (en := en) (nm := nm) 0 (by decide) HN2.out HP HR2.out.pr HR2.out.n)
      go_wp2_with fail
      refine K2.out.mono ?_
      rintro e w3 ⟨rfl, v3, hp, hr⟩
      have HR3 := Lib.hid (HR2.out.step hp.out hr.out)
      have HN3 := Lib.hid (HN2.out.rep HR2.out.n HR2.out.pr hr.out)
      have HX3 := Lib.hid (HX2.out.rep hr.out)
      clear hp hr K2 HR2 HN2 HX2 x0 x1 x2 x3 x4 x5 x6
      obtain ⟨x0, x1, x2, x3, x4, x5, x6⟩ := cells7 HX3.out.h
      have K3 := Lib.hid (tok1_call HR3.out ⟨#[59]⟩ [59] rfl (by decide))
      go_wp2_with fail
      refine K3.out.mono ?_
      rintro e w4 ⟨rfl, v4, hp, hr⟩
      have HR4 := Lib.hid (HR3.out.step hp.out hr.out)
      have HN4 := Lib.hid (HN3.out.rep HR3.out.n HR3.out.pr hr.out)
      have HX4 := Lib.hid (HX3.out.rep hr.out)
      clear hp hr K3 HR3 HN3 HX3 x0 x1 x2 x3 x4 x5 x6
      obtain ⟨x0, x1, x2, x3, x4, x5, x6⟩ := cells7 HX4.out.h
      go_wp2_with fail
      first | go_end0 | refine bodyPost_ret (results_none rfl _ _ _) rfl ?_
      exact HR4.out.done (by simp [useT, HG.out, HT.out])
    · have HT := Lib.hid ht
      have he := toL_some ht
      clear ht
      go_enter Tryz.func195, Tryz.ntmps195
      have HR0 := Lib.hid (PrRun.start h hn)
      have HN0 := Lib.hid hN
      go_upto_region 1 with fail
      obtain ⟨w1, hw1⟩ : ∃ w1, w1 = w.alloc (nbx kd vl tx st en nm c a cap) := ⟨_, rfl⟩
      rw [show World.alloc w _ = w1 from hw1.symm]
      have HR1 : Hid (PrRun b n0 w v0 text [] w1 v0) := by rw [hw1]; exact HR0.out.below (below_box _ _)
      have HX1 : Hid (BoxIn w1 v0 b w.heap.size (nbx kd vl tx st en nm c a cap)) := by rw [hw1]; exact BoxIn.made h
      have HN1 : Hid (NV w1 n0 m a cap c) := by rw [hw1]; exact HN0.out.below hn (below_box _ _)
      clear hw1 h hN
      obtain ⟨x0, x1, x2, x3, x4, x5, x6⟩ := cells7 HX1.out.h
      have K1 := Lib.hid (tok1_call HR1.out ⟨#[117, 115, 101]⟩ [117, 115, 101] rfl (by decide))
      go_wp2_with fail
      refine K1.out.mono ?_
      rintro e w2 ⟨rfl, v2, hp, hr⟩
      have HR2 := Lib.hid (HR1.out.step hp.out hr.out)
      have HN2 := Lib.hid (HN1.out.rep HR1.out.n HR1.out.pr hr.out)
      have HX2 := Lib.hid (HX1.out.rep hr.out)
      clear hp hr K1 HR1 HN1 HX1 x0 x1 x2 x3 x4 x5 x6
      obtain ⟨x0, x1, x2, x3, x4, x5, x6⟩ := cells7 HX2.out.h
      have K2 := Lib.hid (part_any (kd := kd) (vl := vl) (tx := tx) (st := st) (en := en) (nm := nm) 0 (by decide) HN2.out HP HR2.out.pr HR2.out.n)
      go_wp2_with fail
      refine K2.out.mono ?_
      rintro e w3 ⟨rfl, v3, hp, hr⟩
      have HR3 := Lib.hid (HR2.out.step hp.out hr.out)
      have HN3 := Lib.hid (HN2.out.rep HR2.out.n HR2.out.pr hr.out)
      have HX3 := Lib.hid (HX2.out.rep hr.out)
      clear hp hr K2 HR2 HN2 HX2 x0 x1 x2 x3 x4 x5 x6
      obtain ⟨x0, x1, x2, x3, x4, x5, x6⟩ := cells7 HX3.out.h
      have K3 := Lib.hid (tok2_call HR3.out ⟨#[97, 115]⟩ (Lx.bs tx) [97, 115] tx rfl (Lx.L_bs tx) (by decide) (by rw [Lx.bs_size]; omega))
      go_wp2_with fail
      refine K3.out.mono ?_
      rintro e w4 ⟨rfl, v4, hp, hr⟩
      have HR4 := Lib.hid (HR3.out.step hp.out hr.out)
      have HN4 := Lib.hid (HN3.out.rep HR3.out.n HR3.out.pr hr.out)
      have HX4 := Lib.hid (HX3.out.rep hr.out)
      clear hp hr K3 HR3 HN3 HX3 x0 x1 x2 x3 x4 x5 x6
      obtain ⟨x0, x1, x2, x3, x4, x5, x6⟩ := cells7 HX4.out.h
      have K4 := Lib.hid (tok1_call HR4.out ⟨#[59]⟩ [59] rfl (by decide))
      go_wp2_with fail
      refine K4.out.mono ?_
      rintro e w5 ⟨rfl, v5, hp, hr⟩
      have HR5 := Lib.hid (HR4.out.step hp.out hr.out)
      have HN5 := Lib.hid (HN4.out.rep HR4.out.n HR4.out.pr hr.out)
      have HX5 := Lib.hid (HX4.out.rep hr.out)
      clear hp hr K4 HR4 HN4 HX4 x0 x1 x2 x3 x4 x5 x6
      obtain ⟨x0, x1, x2, x3, x4, x5, x6⟩ := cells7 HX5.out.h
      go_wp2_with fail
      first | go_end0 | refine bodyPost_ret (results_none rfl _ _ _) rfl ?_
      exact HR5.out.done (by simp [useT, HG.out, HT.out])

set_option maxRecDepth 100000 in
set_option maxHeartbeats 4000000 in
theorem k_func (hN : NV w n0 m a cap c) (HP : Hid (∀ y, y ∈ c → PT b n0 y)) (h : PrIn w b n0 v0 text) (hn : n0 ≤ w.heap.size) (htx : tx.length ≤ 1100000) :
    Calls Tryz.prog 196 #[.pointer (some ⟨b, 0, none⟩), nw kd vl tx st en nm c a cap] w (PW b n0 text (funcT tx c (tokss c)) v0 w) := by
  by_cases hk : kAt c 3 = 0
  · have HK := Lib.hid hk
    clear hk
    go_enter Tryz.func196, Tryz.ntmps196
    have HR0 := Lib.hid (PrRun.start h hn)
    have HN0 := Lib.hid hN
    go_upto_region 1 with fail
    obtain ⟨w1, hw1⟩ : ∃ w1, w1 = w.alloc (nbx kd vl tx st en nm c a cap) := ⟨_, rfl⟩
    rw [show World.alloc w _ = w1 from hw1.symm]
    have HR1 : Hid (PrRun b n0 w v0 text [] w1 v0) := by rw [hw1]; exact HR0.out.below (below_box _ _)
    have HX1 : Hid (BoxIn w1 v0 b w.heap.size (nbx kd vl tx st en nm c a cap)) := by rw [hw1]; exact BoxIn.made h
    have HN1 : Hid (NV w1 n0 m a cap c) := by rw [hw1]; exact HN0.out.below hn (below_box _ _)
    clear hw1 h hN
    obtain ⟨x0, x1, x2, x3, x4, x5, x6⟩ := cells7 HX1.out.h
    have K1 := Lib.hid (tok2_call HR1.out ⟨#[102, 110]⟩ (Lx.bs tx) [102, 110] tx rfl (Lx.L_bs tx) (by decide) (by rw [Lx.bs_size]; omega))
    go_wp2_with fail
    refine K1.out.mono ?_
    rintro e w2 ⟨rfl, v2, hp, hr⟩
    have HR2 := Lib.hid (HR1.out.step hp.out hr.out)
    have HN2 := Lib.hid (HN1.out.rep HR1.out.n HR1.out.pr hr.out)
    have HX2 := Lib.hid (HX1.out.rep hr.out)
    clear hp hr K1 HR1 HN1 HX1 x0 x1 x2 x3 x4 x5 x6
    obtain ⟨x0, x1, x2, x3, x4, x5, x6⟩ := cells7 HX2.out.h
    have K2 := Lib.hid (part_any (kd := kd) (vl := vl) (tx := tx) (st := st) (en := en) (nm := nm) 0 (by decide) HN2.out HP HR2.out.pr HR2.out.n)
    go_wp2_with fail
    refine K2.out.mono ?_
    rintro e w3 ⟨rfl, v3, hp, hr⟩
    have HR3 := Lib.hid (HR2.out.step hp.out hr.out)
    have HN3 := Lib.hid (HN2.out.rep HR2.out.n HR2.out.pr hr.out)
    have HX3 := Lib.hid (HX2.out.rep hr.out)
    clear hp hr K2 HR2 HN2 HX2 x0 x1 x2 x3 x4 x5 x6
    obtain ⟨x0, x1, x2, x3, x4, x5, x6⟩ := cells7 HX3.out.h
    have K3 := Lib.hid (tok1_call HR3.out ⟨#[40]⟩ [40] rfl (by decide))
    go_wp2_with fail
    refine K3.out.mono ?_
    rintro e w4 ⟨rfl, v4, hp, hr⟩
    have HR4 := Lib.hid (HR3.out.step hp.out hr.out)
    have HN4 := Lib.hid (HN3.out.rep HR3.out.n HR3.out.pr hr.out)
    have HX4 := Lib.hid (HX3.out.rep hr.out)
    clear hp hr K3 HR3 HN3 HX3 x0 x1 x2 x3 x4 x5 x6
    obtain ⟨x0, x1, x2, x3, x4, x5, x6⟩ := cells7 HX4.out.h
    have K4 := Lib.hid (part_any (kd := kd) (vl := vl) (tx := tx) (st := st) (en := en) (nm := nm) 1 (by decide) HN4.out HP HR4.out.pr HR4.out.n)
    go_wp2_with fail
    refine K4.out.mono ?_
    rintro e w5 ⟨rfl, v5, hp, hr⟩
    have HR5 := Lib.hid (HR4.out.step hp.out hr.out)
    have HN5 := Lib.hid (HN4.out.rep HR4.out.n HR4.out.pr hr.out)
    have HX5 := Lib.hid (HX4.out.rep hr.out)
    clear hp hr K4 HR4 HN4 HX4 x0 x1 x2 x3 x4 x5 x6
    obtain ⟨x0, x1, x2, x3, x4, x5, x6⟩ := cells7 HX5.out.h
    have K5 := Lib.hid (tok1_call HR5.out ⟨#[41]⟩ [41] rfl (by decide))
    go_wp2_with fail
    refine K5.out.mono ?_
    rintro e w6 ⟨rfl, v6, hp, hr⟩
    have HR6 := Lib.hid (HR5.out.step hp.out hr.out)
    have HN6 := Lib.hid (HN5.out.rep HR5.out.n HR5.out.pr hr.out)
    have HX6 := Lib.hid (HX5.out.rep hr.out)
    clear hp hr K5 HR5 HN5 HX5 x0 x1 x2 x3 x4 x5 x6
    obtain ⟨x0, x1, x2, x3, x4, x5, x6⟩ := cells7 HX6.out.h
    have K6 := Lib.hid (optional_any (kd := kd) (vl := vl) (tx := tx) (st := st) (en := en) (nm := nm) ⟨#[45, 62]⟩ [45, 62] (Lib.hid rfl) (Lib.hid (by decide)) 2 (by decide) HN6.out HP HR6.out.pr HR6.out.n)
    go_wp2_with fail
    refine K6.out.mono ?_
    rintro e w7 ⟨rfl, v7, hp, hr⟩
    have HR7 := Lib.hid (HR6.out.step hp.out hr.out)
    have HN7 := Lib.hid (HN6.out.rep HR6.out.n HR6.out.pr hr.out)
    have HX7 := Lib.hid (HX6.out.rep hr.out)
    clear hp hr K6 HR6 HN6 HX6 x0 x1 x2 x3 x4 x5 x6
    obtain ⟨x0, x1, x2, x3, x4, x5, x6⟩ := cells7 HX7.out.h
    have KK7 := kind_any kd vl tx st en nm c a cap n0 m 3 w7 HN7.out HR7.out.n (by decide)
    rw [HK.out] at KK7
    have K7 := Lib.hid (KK7)
    go_wp2_with fail
    refine K7.out.mono ?_
    rintro e w8 ⟨rfl, hb⟩
    have HR8 := Lib.hid (HR7.out.below hb)
    have HN8 := Lib.hid (HN7.out.below HR7.out.n hb)
    have HX8 := Lib.hid (HX7.out.below hb)
    clear hb K7 HR7 HN7 HX7 x0 x1 x2 x3 x4 x5 x6
    obtain ⟨x0, x1, x2, x3, x4, x5, x6⟩ := cells7 HX8.out.h
    have K8 := Lib.hid (tok1_call HR8.out ⟨#[59]⟩ [59] rfl (by decide))
    go_wp2_with fail
    refine K8.out.mono ?_
    rintro e w9 ⟨rfl, v9, hp, hr⟩
    have HR9 := Lib.hid (HR8.out.step hp.out hr.out)
    have HN9 := Lib.hid (HN8.out.rep HR8.out.n HR8.out.pr hr.out)
    have HX9 := Lib.hid (HX8.out.rep hr.out)
    clear hp hr K8 HR8 HN8 HX8 x0 x1 x2 x3 x4 x5 x6
    obtain ⟨x0, x1, x2, x3, x4, x5, x6⟩ := cells7 HX9.out.h
    go_wp2_with fail
    first | go_end0 | refine bodyPost_ret (results_none rfl _ _ _) rfl ?_
    exact HR9.out.done (by simp [funcT, HK.out])
  · have HK := Lib.hid hk
    have hkb : (kAt c 3 == 0) = false := by simpa using hk
    clear hk
    go_enter Tryz.func196, Tryz.ntmps196
    have HR0 := Lib.hid (PrRun.start h hn)
    have HN0 := Lib.hid hN
    go_upto_region 1 with fail
    obtain ⟨w1, hw1⟩ : ∃ w1, w1 = w.alloc (nbx kd vl tx st en nm c a cap) := ⟨_, rfl⟩
    rw [show World.alloc w _ = w1 from hw1.symm]
    have HR1 : Hid (PrRun b n0 w v0 text [] w1 v0) := by rw [hw1]; exact HR0.out.below (below_box _ _)
    have HX1 : Hid (BoxIn w1 v0 b w.heap.size (nbx kd vl tx st en nm c a cap)) := by rw [hw1]; exact BoxIn.made h
    have HN1 : Hid (NV w1 n0 m a cap c) := by rw [hw1]; exact HN0.out.below hn (below_box _ _)
    clear hw1 h hN
    obtain ⟨x0, x1, x2, x3, x4, x5, x6⟩ := cells7 HX1.out.h
    have K1 := Lib.hid (tok2_call HR1.out ⟨#[102, 110]⟩ (Lx.bs tx) [102, 110] tx rfl (Lx.L_bs tx) (by decide) (by rw [Lx.bs_size]; omega))
    go_wp2_with fail
    refine K1.out.mono ?_
    rintro e w2 ⟨rfl, v2, hp, hr⟩
    have HR2 := Lib.hid (HR1.out.step hp.out hr.out)
    have HN2 := Lib.hid (HN1.out.rep HR1.out.n HR1.out.pr hr.out)
    have HX2 := Lib.hid (HX1.out.rep hr.out)
    clear hp hr K1 HR1 HN1 HX1 x0 x1 x2 x3 x4 x5 x6
    obtain ⟨x0, x1, x2, x3, x4, x5, x6⟩ := cells7 HX2.out.h
    have K2 := Lib.hid (part_any (kd := kd) (vl := vl) (tx := tx) (st := st) (en := en) (nm := nm) 0 (by decide) HN2.out HP HR2.out.pr HR2.out.n)
    go_wp2_with fail
    refine K2.out.mono ?_
    rintro e w3 ⟨rfl, v3, hp, hr⟩
    have HR3 := Lib.hid (HR2.out.step hp.out hr.out)
    have HN3 := Lib.hid (HN2.out.rep HR2.out.n HR2.out.pr hr.out)
    have HX3 := Lib.hid (HX2.out.rep hr.out)
    clear hp hr K2 HR2 HN2 HX2 x0 x1 x2 x3 x4 x5 x6
    obtain ⟨x0, x1, x2, x3, x4, x5, x6⟩ := cells7 HX3.out.h
    have K3 := Lib.hid (tok1_call HR3.out ⟨#[40]⟩ [40] rfl (by decide))
    go_wp2_with fail
    refine K3.out.mono ?_
    rintro e w4 ⟨rfl, v4, hp, hr⟩
    have HR4 := Lib.hid (HR3.out.step hp.out hr.out)
    have HN4 := Lib.hid (HN3.out.rep HR3.out.n HR3.out.pr hr.out)
    have HX4 := Lib.hid (HX3.out.rep hr.out)
    clear hp hr K3 HR3 HN3 HX3 x0 x1 x2 x3 x4 x5 x6
    obtain ⟨x0, x1, x2, x3, x4, x5, x6⟩ := cells7 HX4.out.h
    have K4 := Lib.hid (part_any (kd := kd) (vl := vl) (tx := tx) (st := st) (en := en) (nm := nm) 1 (by decide) HN4.out HP HR4.out.pr HR4.out.n)
    go_wp2_with fail
    refine K4.out.mono ?_
    rintro e w5 ⟨rfl, v5, hp, hr⟩
    have HR5 := Lib.hid (HR4.out.step hp.out hr.out)
    have HN5 := Lib.hid (HN4.out.rep HR4.out.n HR4.out.pr hr.out)
    have HX5 := Lib.hid (HX4.out.rep hr.out)
    clear hp hr K4 HR4 HN4 HX4 x0 x1 x2 x3 x4 x5 x6
    obtain ⟨x0, x1, x2, x3, x4, x5, x6⟩ := cells7 HX5.out.h
    have K5 := Lib.hid (tok1_call HR5.out ⟨#[41]⟩ [41] rfl (by decide))
    go_wp2_with fail
    refine K5.out.mono ?_
    rintro e w6 ⟨rfl, v6, hp, hr⟩
    have HR6 := Lib.hid (HR5.out.step hp.out hr.out)
    have HN6 := Lib.hid (HN5.out.rep HR5.out.n HR5.out.pr hr.out)
    have HX6 := Lib.hid (HX5.out.rep hr.out)
    clear hp hr K5 HR5 HN5 HX5 x0 x1 x2 x3 x4 x5 x6
    obtain ⟨x0, x1, x2, x3, x4, x5, x6⟩ := cells7 HX6.out.h
    have K6 := Lib.hid (optional_any (kd := kd) (vl := vl) (tx := tx) (st := st) (en := en) (nm := nm) ⟨#[45, 62]⟩ [45, 62] (Lib.hid rfl) (Lib.hid (by decide)) 2 (by decide) HN6.out HP HR6.out.pr HR6.out.n)
    go_wp2_with fail
    refine K6.out.mono ?_
    rintro e w7 ⟨rfl, v7, hp, hr⟩
    have HR7 := Lib.hid (HR6.out.step hp.out hr.out)
    have HN7 := Lib.hid (HN6.out.rep HR6.out.n HR6.out.pr hr.out)
    have HX7 := Lib.hid (HX6.out.rep hr.out)
    clear hp hr K6 HR6 HN6 HX6 x0 x1 x2 x3 x4 x5 x6
    obtain ⟨x0, x1, x2, x3, x4, x5, x6⟩ := cells7 HX7.out.h
    have KK7 := kind_any kd vl tx st en nm c a cap n0 m 3 w7 HN7.out HR7.out.n (by decide)
    have K7 := Lib.hid (KK7)
    go_wp2_with fail
    refine K7.out.mono ?_
    rintro e w8 ⟨rfl, hb⟩
    have HR8 := Lib.hid (HR7.out.below hb)
    have HN8 := Lib.hid (HN7.out.below HR7.out.n hb)
    have HX8 := Lib.hid (HX7.out.below hb)
    clear hb K7 HR7 HN7 HX7 x0 x1 x2 x3 x4 x5 x6
    obtain ⟨x0, x1, x2, x3, x4, x5, x6⟩ := cells7 HX8.out.h
    have K8 := Lib.hid (part_any (kd := kd) (vl := vl) (tx := tx) (st := st) (en := en) (nm := nm) 3 (by decide) HN8.out HP HR8.out.pr HR8.out.n)
    go_wp2_with fail
    refine K8.out.mono ?_
    rintro e w9 ⟨rfl, v9, hp, hr⟩
    have HR9 := Lib.hid (HR8.out.step hp.out hr.out)
    have HN9 := Lib.hid (HN8.out.rep HR8.out.n HR8.out.pr hr.out)
    have HX9 := Lib.hid (HX8.out.rep hr.out)
    clear hp hr K8 HR8 HN8 HX8 x0 x1 x2 x3 x4 x5 x6
    obtain ⟨x0, x1, x2, x3, x4, x5, x6⟩ := cells7 HX9.out.h
    go_wp2_with fail
    first | go_end0 | refine bodyPost_ret (results_none rfl _ _ _) rfl ?_
    exact HR9.out.done (by simp [funcT, HK.out])

set_option maxRecDepth 100000 in
set_option maxHeartbeats 4000000 in
theorem k_impl (hN : NV w n0 m a cap c) (HP : Hid (∀ y, y ∈ c → PT b n0 y)) (h : PrIn w b n0 v0 text) (hn : n0 ≤ w.heap.size) (_htx : tx.length ≤ 1100000) :
    Calls Tryz.prog 201 #[.pointer (some ⟨b, 0, none⟩), nw kd vl tx st en nm c a cap] w (PW b n0 text (implT c (tokss c)) v0 w) := by
  by_cases hk : kAt c 1 = 0
  · have HK := Lib.hid hk
    clear hk
    go_enter Tryz.func201, Tryz.ntmps201
    have HR0 := Lib.hid (PrRun.start h hn)
    have HN0 := Lib.hid hN
    go_upto_region 1 with fail
    obtain ⟨w1, hw1⟩ : ∃ w1, w1 = w.alloc (nbx kd vl tx st en nm c a cap) := ⟨_, rfl⟩
    rw [show World.alloc w _ = w1 from hw1.symm]
    have HR1 : Hid (PrRun b n0 w v0 text [] w1 v0) := by rw [hw1]; exact HR0.out.below (below_box _ _)
    have HX1 : Hid (BoxIn w1 v0 b w.heap.size (nbx kd vl tx st en nm c a cap)) := by rw [hw1]; exact BoxIn.made h
    have HN1 : Hid (NV w1 n0 m a cap c) := by rw [hw1]; exact HN0.out.below hn (below_box _ _)
    clear hw1 h hN
    obtain ⟨x0, x1, x2, x3, x4, x5, x6⟩ := cells7 HX1.out.h
    have K1 := Lib.hid (tok1_call HR1.out ⟨#[105, 109, 112, 108]⟩ [105, 109, 112, 108] rfl (by decide))
    go_wp2_with fail
    refine K1.out.mono ?_
    rintro e w2 ⟨rfl, v2, hp, hr⟩
    have HR2 := Lib.hid (HR1.out.step hp.out hr.out)
    have HN2 := Lib.hid (HN1.out.rep HR1.out.n HR1.out.pr hr.out)
    have HX2 := Lib.hid (HX1.out.rep hr.out)
    clear hp hr K1 HR1 HN1 HX1 x0 x1 x2 x3 x4 x5 x6
    obtain ⟨x0, x1, x2, x3, x4, x5, x6⟩ := cells7 HX2.out.h
    have K2 := Lib.hid (part_any (kd := kd) (vl := vl) (tx := tx) (st := st) (en := en) (nm := nm) 0 (by decide) HN2.out HP HR2.out.pr HR2.out.n)
    go_wp2_with fail
    refine K2.out.mono ?_
    rintro e w3 ⟨rfl, v3, hp, hr⟩
    have HR3 := Lib.hid (HR2.out.step hp.out hr.out)
    have HN3 := Lib.hid (HN2.out.rep HR2.out.n HR2.out.pr hr.out)
    have HX3 := Lib.hid (HX2.out.rep hr.out)
    clear hp hr K2 HR2 HN2 HX2 x0 x1 x2 x3 x4 x5 x6
    obtain ⟨x0, x1, x2, x3, x4, x5, x6⟩ := cells7 HX3.out.h
    have KK3 := kind_any kd vl tx st en nm c a cap n0 m 1 w3 HN3.out HR3.out.n (by decide)
    rw [HK.out] at KK3
    have K3 := Lib.hid (KK3)
    go_wp2_with fail
    refine K3.out.mono ?_
    rintro e w4 ⟨rfl, hb⟩
    have HR4 := Lib.hid (HR3.out.below hb)
    have HN4 := Lib.hid (HN3.out.below HR3.out.n hb)
    have HX4 := Lib.hid (HX3.out.below hb)
    clear hb K3 HR3 HN3 HX3 x0 x1 x2 x3 x4 x5 x6
    obtain ⟨x0, x1, x2, x3, x4, x5, x6⟩ := cells7 HX4.out.h
    have K4 := Lib.hid (part_any (kd := kd) (vl := vl) (tx := tx) (st := st) (en := en) (nm := nm) 2 (by decide) HN4.out HP HR4.out.pr HR4.out.n)
    go_wp2_with fail
    refine K4.out.mono ?_
    rintro e w5 ⟨rfl, v5, hp, hr⟩
    have HR5 := Lib.hid (HR4.out.step hp.out hr.out)
    have HN5 := Lib.hid (HN4.out.rep HR4.out.n HR4.out.pr hr.out)
    have HX5 := Lib.hid (HX4.out.rep hr.out)
    clear hp hr K4 HR4 HN4 HX4 x0 x1 x2 x3 x4 x5 x6
    obtain ⟨x0, x1, x2, x3, x4, x5, x6⟩ := cells7 HX5.out.h
    have K5 := Lib.hid (from_any kd vl tx st en nm c a cap n0 m 3 w5 HN5.out HR5.out.n (by decide))
    go_wp2_with fail
    refine K5.out.mono ?_
    rintro e w6 ⟨hb, a6, cap6, m6, rfl, hnv⟩
    obtain ⟨d6, hd⟩ : ∃ d, d = c.drop 3 := ⟨_, rfl⟩
    rw [← hd] at hnv ⊢
    have HE6 := Lib.hid hd
    clear hd
    have HD6 := Lib.hid hnv
    have HR6 := Lib.hid (HR5.out.below hb)
    have HN6 := Lib.hid (HN5.out.below HR5.out.n hb)
    have HX6 := Lib.hid (HX5.out.below hb)
    clear hb hnv K5 HR5 HN5 HX5 x0 x1 x2 x3 x4 x5 x6
    obtain ⟨x0, x1, x2, x3, x4, x5, x6⟩ := cells7 HX6.out.h
    have K6 := Lib.hid (members_any HD6.out (Lib.hid (fun y hy => HP.out y (List.mem_of_mem_drop (by rw [← HE6.out]; exact hy)))) HR6.out.pr HR6.out.n)
    go_wp2_with fail
    refine K6.out.mono ?_
    rintro e w7 ⟨rfl, v7, hp, hr⟩
    have HR7 := Lib.hid (HR6.out.step hp.out hr.out)
    have HN7 := Lib.hid (HN6.out.rep HR6.out.n HR6.out.pr hr.out)
    have HX7 := Lib.hid (HX6.out.rep hr.out)
    clear hp hr K6 HR6 HN6 HX6 x0 x1 x2 x3 x4 x5 x6
    obtain ⟨x0, x1, x2, x3, x4, x5, x6⟩ := cells7 HX7.out.h
    go_wp2_with fail
    first | go_end0 | refine bodyPost_ret (results_none rfl _ _ _) rfl ?_
    exact HR7.out.done (by simp [implT, tokss_drop, HK.out, HE6.out])
  · have HK := Lib.hid hk
    have hkb : (kAt c 1 != 0) = true := by simpa using hk
    clear hk
    go_enter Tryz.func201, Tryz.ntmps201
    have HR0 := Lib.hid (PrRun.start h hn)
    have HN0 := Lib.hid hN
    go_upto_region 1 with fail
    obtain ⟨w1, hw1⟩ : ∃ w1, w1 = w.alloc (nbx kd vl tx st en nm c a cap) := ⟨_, rfl⟩
    rw [show World.alloc w _ = w1 from hw1.symm]
    have HR1 : Hid (PrRun b n0 w v0 text [] w1 v0) := by rw [hw1]; exact HR0.out.below (below_box _ _)
    have HX1 : Hid (BoxIn w1 v0 b w.heap.size (nbx kd vl tx st en nm c a cap)) := by rw [hw1]; exact BoxIn.made h
    have HN1 : Hid (NV w1 n0 m a cap c) := by rw [hw1]; exact HN0.out.below hn (below_box _ _)
    clear hw1 h hN
    obtain ⟨x0, x1, x2, x3, x4, x5, x6⟩ := cells7 HX1.out.h
    have K1 := Lib.hid (tok1_call HR1.out ⟨#[105, 109, 112, 108]⟩ [105, 109, 112, 108] rfl (by decide))
    go_wp2_with fail
    refine K1.out.mono ?_
    rintro e w2 ⟨rfl, v2, hp, hr⟩
    have HR2 := Lib.hid (HR1.out.step hp.out hr.out)
    have HN2 := Lib.hid (HN1.out.rep HR1.out.n HR1.out.pr hr.out)
    have HX2 := Lib.hid (HX1.out.rep hr.out)
    clear hp hr K1 HR1 HN1 HX1 x0 x1 x2 x3 x4 x5 x6
    obtain ⟨x0, x1, x2, x3, x4, x5, x6⟩ := cells7 HX2.out.h
    have K2 := Lib.hid (part_any (kd := kd) (vl := vl) (tx := tx) (st := st) (en := en) (nm := nm) 0 (by decide) HN2.out HP HR2.out.pr HR2.out.n)
    go_wp2_with fail
    refine K2.out.mono ?_
    rintro e w3 ⟨rfl, v3, hp, hr⟩
    have HR3 := Lib.hid (HR2.out.step hp.out hr.out)
    have HN3 := Lib.hid (HN2.out.rep HR2.out.n HR2.out.pr hr.out)
    have HX3 := Lib.hid (HX2.out.rep hr.out)
    clear hp hr K2 HR2 HN2 HX2 x0 x1 x2 x3 x4 x5 x6
    obtain ⟨x0, x1, x2, x3, x4, x5, x6⟩ := cells7 HX3.out.h
    have KK3 := kind_any kd vl tx st en nm c a cap n0 m 1 w3 HN3.out HR3.out.n (by decide)
    have K3 := Lib.hid (KK3)
    go_wp2_with fail
    refine K3.out.mono ?_
    rintro e w4 ⟨rfl, hb⟩
    have HR4 := Lib.hid (HR3.out.below hb)
    have HN4 := Lib.hid (HN3.out.below HR3.out.n hb)
    have HX4 := Lib.hid (HX3.out.below hb)
    clear hb K3 HR3 HN3 HX3 x0 x1 x2 x3 x4 x5 x6
    obtain ⟨x0, x1, x2, x3, x4, x5, x6⟩ := cells7 HX4.out.h
    have K4 := Lib.hid (part_any (kd := kd) (vl := vl) (tx := tx) (st := st) (en := en) (nm := nm) 1 (by decide) HN4.out HP HR4.out.pr HR4.out.n)
    go_wp2_with fail
    refine K4.out.mono ?_
    rintro e w5 ⟨rfl, v5, hp, hr⟩
    have HR5 := Lib.hid (HR4.out.step hp.out hr.out)
    have HN5 := Lib.hid (HN4.out.rep HR4.out.n HR4.out.pr hr.out)
    have HX5 := Lib.hid (HX4.out.rep hr.out)
    clear hp hr K4 HR4 HN4 HX4 x0 x1 x2 x3 x4 x5 x6
    obtain ⟨x0, x1, x2, x3, x4, x5, x6⟩ := cells7 HX5.out.h
    have K5 := Lib.hid (tok1_call HR5.out ⟨#[102, 111, 114]⟩ [102, 111, 114] rfl (by decide))
    go_wp2_with fail
    refine K5.out.mono ?_
    rintro e w6 ⟨rfl, v6, hp, hr⟩
    have HR6 := Lib.hid (HR5.out.step hp.out hr.out)
    have HN6 := Lib.hid (HN5.out.rep HR5.out.n HR5.out.pr hr.out)
    have HX6 := Lib.hid (HX5.out.rep hr.out)
    clear hp hr K5 HR5 HN5 HX5 x0 x1 x2 x3 x4 x5 x6
    obtain ⟨x0, x1, x2, x3, x4, x5, x6⟩ := cells7 HX6.out.h
    have K6 := Lib.hid (part_any (kd := kd) (vl := vl) (tx := tx) (st := st) (en := en) (nm := nm) 2 (by decide) HN6.out HP HR6.out.pr HR6.out.n)
    go_wp2_with fail
    refine K6.out.mono ?_
    rintro e w7 ⟨rfl, v7, hp, hr⟩
    have HR7 := Lib.hid (HR6.out.step hp.out hr.out)
    have HN7 := Lib.hid (HN6.out.rep HR6.out.n HR6.out.pr hr.out)
    have HX7 := Lib.hid (HX6.out.rep hr.out)
    clear hp hr K6 HR6 HN6 HX6 x0 x1 x2 x3 x4 x5 x6
    obtain ⟨x0, x1, x2, x3, x4, x5, x6⟩ := cells7 HX7.out.h
    have K7 := Lib.hid (from_any kd vl tx st en nm c a cap n0 m 3 w7 HN7.out HR7.out.n (by decide))
    go_wp2_with fail
    refine K7.out.mono ?_
    rintro e w8 ⟨hb, a8, cap8, m8, rfl, hnv⟩
    obtain ⟨d8, hd⟩ : ∃ d, d = c.drop 3 := ⟨_, rfl⟩
    rw [← hd] at hnv ⊢
    have HE8 := Lib.hid hd
    clear hd
    have HD8 := Lib.hid hnv
    have HR8 := Lib.hid (HR7.out.below hb)
    have HN8 := Lib.hid (HN7.out.below HR7.out.n hb)
    have HX8 := Lib.hid (HX7.out.below hb)
    clear hb hnv K7 HR7 HN7 HX7 x0 x1 x2 x3 x4 x5 x6
    obtain ⟨x0, x1, x2, x3, x4, x5, x6⟩ := cells7 HX8.out.h
    have K8 := Lib.hid (members_any HD8.out (Lib.hid (fun y hy => HP.out y (List.mem_of_mem_drop (by rw [← HE8.out]; exact hy)))) HR8.out.pr HR8.out.n)
    go_wp2_with fail
    refine K8.out.mono ?_
    rintro e w9 ⟨rfl, v9, hp, hr⟩
    have HR9 := Lib.hid (HR8.out.step hp.out hr.out)
    have HN9 := Lib.hid (HN8.out.rep HR8.out.n HR8.out.pr hr.out)
    have HX9 := Lib.hid (HX8.out.rep hr.out)
    clear hp hr K8 HR8 HN8 HX8 x0 x1 x2 x3 x4 x5 x6
    obtain ⟨x0, x1, x2, x3, x4, x5, x6⟩ := cells7 HX9.out.h
    go_wp2_with fail
    first | go_end0 | refine bodyPost_ret (results_none rfl _ _ _) rfl ?_
    exact HR9.out.done (by simp [implT, tokss_drop, HK.out, HE8.out])

end
end Go.Proofs.YtcpojagfnpajeaaGreatDoorR.Ps

namespace Go.Proofs.YtcpojagfnpajeaaGreatDoorR.Ps
open Go.RowKit

section
variable {b n0 m : Nat} {kd vl : Int} {tx : List UInt8} {st en nm : Int} {c : List Nd} {a : Option Addr} {cap : Nat} {w : World} {v0 : Value} {text : List UInt8}

set_option maxRecDepth 100000 in
set_option maxHeartbeats 4000000 in
theorem item_1 (hN : NV w n0 m a cap c) (HP : Hid (∀ y, y ∈ c → PT b n0 y)) (h : PrIn w b n0 v0 text) (hn : n0 ≤ w.heap.size) (_htx : tx.length ≤ 1100000) :
    Calls Tryz.prog 146 #[.pointer (some ⟨b, 0, none⟩), nw 1 vl tx st en nm c a cap] w (PW b n0 text (itemT 1 vl tx c (tokss c)) v0 w) := by
  by_cases hv : vl % 2 = 1
  · have HV := Lib.hid hv
    have hb1 := bit1 hv
    clear hv
    go_enter Tryz.func146, Tryz.ntmps146
    have HR0 := Lib.hid (PrRun.start h hn)
    have HN0 := Lib.hid hN
    go_upto_region 1 with fail
    obtain ⟨w1, hw1⟩ : ∃ w1, w1 = w.alloc (nbx 1 vl tx st en nm c a cap) := ⟨_, rfl⟩
    rw [show World.alloc w _ = w1 from hw1.symm]
    have HR1 : Hid (PrRun b n0 w v0 text [] w1 v0) := by rw [hw1]; exact HR0.out.below (below_box _ _)
    have HX1 : Hid (BoxIn w1 v0 b w.heap.size (nbx 1 vl tx st en nm c a cap)) := by rw [hw1]; exact BoxIn.made h
    have HN1 : Hid (NV w1 n0 m a cap c) := by rw [hw1]; exact HN0.out.below hn (below_box _ _)
    clear hw1 h hN
    obtain ⟨x0, x1, x2, x3, x4, x5, x6⟩ := cells7 HX1.out.h
    have K1 := Lib.hid (tok1_call HR1.out ⟨#[112, 117, 98]⟩ [112, 117, 98] rfl (by decide))
    go_wp2_with fail
    refine K1.out.mono ?_
    rintro e w2 ⟨rfl, v2, hp, hr⟩
    have HR2 := Lib.hid (HR1.out.step hp.out hr.out)
    have HN2 := Lib.hid (HN1.out.rep HR1.out.n HR1.out.pr hr.out)
    have HX2 := Lib.hid (HX1.out.rep hr.out)
    clear hp hr K1 HR1 HN1 HX1 x0 x1 x2 x3 x4 x5 x6
    obtain ⟨x0, x1, x2, x3, x4, x5, x6⟩ := cells7 HX2.out.h
    have K2 := Lib.hid (sequence_any  HN2.out HP HR2.out.pr HR2.out.n)
    go_wp2_with fail
    refine K2.out.mono ?_
    rintro e w3 ⟨rfl, v3, hp, hr⟩
    have HR3 := Lib.hid (HR2.out.step hp.out hr.out)
    have HN3 := Lib.hid (HN2.out.rep HR2.out.n HR2.out.pr hr.out)
    have HX3 := Lib.hid (HX2.out.rep hr.out)
    clear hp hr K2 HR2 HN2 HX2 x0 x1 x2 x3 x4 x5 x6
    obtain ⟨x0, x1, x2, x3, x4, x5, x6⟩ := cells7 HX3.out.h
    go_wp2_with fail
    first | go_end0 | refine bodyPost_ret (results_none rfl _ _ _) rfl ?_
    exact HR3.out.done (by simp [itemT, HV.out])
  · have HV := Lib.hid hv
    have hb1 := bit0 hv
    clear hv
    go_enter Tryz.func146, Tryz.ntmps146
    have HR0 := Lib.hid (PrRun.start h hn)
    have HN0 := Lib.hid hN
    go_upto_region 1 with fail
    obtain ⟨w1, hw1⟩ : ∃ w1, w1 = w.alloc (nbx 1 vl tx st en nm c a cap) := ⟨_, rfl⟩
    rw [show World.alloc w _ = w1 from hw1.symm]
    have HR1 : Hid (PrRun b n0 w v0 text [] w1 v0) := by rw [hw1]; exact HR0.out.below (below_box _ _)
    have HX1 : Hid (BoxIn w1 v0 b w.heap.size (nbx 1 vl tx st en nm c a cap)) := by rw [hw1]; exact BoxIn.made h
    have HN1 : Hid (NV w1 n0 m a cap c) := by rw [hw1]; exact HN0.out.below hn (below_box _ _)
    clear hw1 h hN
    obtain ⟨x0, x1, x2, x3, x4, x5, x6⟩ := cells7 HX1.out.h
    have K1 := Lib.hid (sequence_any  HN1.out HP HR1.out.pr HR1.out.n)
    go_wp2_with fail
    refine K1.out.mono ?_
    rintro e w2 ⟨rfl, v2, hp, hr⟩
    have HR2 := Lib.hid (HR1.out.step hp.out hr.out)
    have HN2 := Lib.hid (HN1.out.rep HR1.out.n HR1.out.pr hr.out)
    have HX2 := Lib.hid (HX1.out.rep hr.out)
    clear hp hr K1 HR1 HN1 HX1 x0 x1 x2 x3 x4 x5 x6
    obtain ⟨x0, x1, x2, x3, x4, x5, x6⟩ := cells7 HX2.out.h
    go_wp2_with fail
    first | go_end0 | refine bodyPost_ret (results_none rfl _ _ _) rfl ?_
    exact HR2.out.done (by simp [itemT, HV.out])

set_option maxRecDepth 100000 in
set_option maxHeartbeats 4000000 in
theorem item_2 (hN : NV w n0 m a cap c) (HP : Hid (∀ y, y ∈ c → PT b n0 y)) (h : PrIn w b n0 v0 text) (hn : n0 ≤ w.heap.size) (htx : tx.length ≤ 1100000) :
    Calls Tryz.prog 146 #[.pointer (some ⟨b, 0, none⟩), nw 2 vl tx st en nm c a cap] w (PW b n0 text (itemT 2 vl tx c (tokss c)) v0 w) := by
  by_cases hv : vl % 2 = 1
  · have HV := Lib.hid hv
    have hb1 := bit1 hv
    clear hv
    go_enter Tryz.func146, Tryz.ntmps146
    have HR0 := Lib.hid (PrRun.start h hn)
    have HN0 := Lib.hid hN
    go_upto_region 1 with fail
    obtain ⟨w1, hw1⟩ : ∃ w1, w1 = w.alloc (nbx 2 vl tx st en nm c a cap) := ⟨_, rfl⟩
    rw [show World.alloc w _ = w1 from hw1.symm]
    have HR1 : Hid (PrRun b n0 w v0 text [] w1 v0) := by rw [hw1]; exact HR0.out.below (below_box _ _)
    have HX1 : Hid (BoxIn w1 v0 b w.heap.size (nbx 2 vl tx st en nm c a cap)) := by rw [hw1]; exact BoxIn.made h
    have HN1 : Hid (NV w1 n0 m a cap c) := by rw [hw1]; exact HN0.out.below hn (below_box _ _)
    clear hw1 h hN
    obtain ⟨x0, x1, x2, x3, x4, x5, x6⟩ := cells7 HX1.out.h
    have K1 := Lib.hid (tok1_call HR1.out ⟨#[112, 117, 98]⟩ [112, 117, 98] rfl (by decide))
    go_wp2_with fail
    refine K1.out.mono ?_
    rintro e w2 ⟨rfl, v2, hp, hr⟩
    have HR2 := Lib.hid (HR1.out.step hp.out hr.out)
    have HN2 := Lib.hid (HN1.out.rep HR1.out.n HR1.out.pr hr.out)
    have HX2 := Lib.hid (HX1.out.rep hr.out)
    clear hp hr K1 HR1 HN1 HX1 x0 x1 x2 x3 x4 x5 x6
    obtain ⟨x0, x1, x2, x3, x4, x5, x6⟩ := cells7 HX2.out.h
    have K2 := Lib.hid (k_use (kd := 2) (vl := vl) (tx := tx) (st := st) (en := en) (nm := nm) HN2.out HP HR2.out.pr HR2.out.n htx)
    go_wp2_with fail
    refine K2.out.mono ?_
    rintro e w3 ⟨rfl, v3, hp, hr⟩
    have HR3 := Lib.hid (HR2.out.step hp.out hr.out)
    have HN3 := Lib.hid (HN2.out.rep HR2.out.n HR2.out.pr hr.out)
    have HX3 := Lib.hid (HX2.out.rep hr.out)
    clear hp hr K2 HR2 HN2 HX2 x0 x1 x2 x3 x4 x5 x6
    obtain ⟨x0, x1, x2, x3, x4, x5, x6⟩ := cells7 HX3.out.h
    go_wp2_with fail
    first | go_end0 | refine bodyPost_ret (results_none rfl _ _ _) rfl ?_
    exact HR3.out.done (by simp [itemT, HV.out, useT])
  · have HV := Lib.hid hv
    have hb1 := bit0 hv
    clear hv
    go_enter Tryz.func146, Tryz.ntmps146
    have HR0 := Lib.hid (PrRun.start h hn)
    have HN0 := Lib.hid hN
    go_upto_region 1 with fail
    obtain ⟨w1, hw1⟩ : ∃ w1, w1 = w.alloc (nbx 2 vl tx st en nm c a cap) := ⟨_, rfl⟩
    rw [show World.alloc w _ = w1 from hw1.symm]
    have HR1 : Hid (PrRun b n0 w v0 text [] w1 v0) := by rw [hw1]; exact HR0.out.below (below_box _ _)
    have HX1 : Hid (BoxIn w1 v0 b w.heap.size (nbx 2 vl tx st en nm c a cap)) := by rw [hw1]; exact BoxIn.made h
    have HN1 : Hid (NV w1 n0 m a cap c) := by rw [hw1]; exact HN0.out.below hn (below_box _ _)
    clear hw1 h hN
    obtain ⟨x0, x1, x2, x3, x4, x5, x6⟩ := cells7 HX1.out.h
    have K1 := Lib.hid (k_use (kd := 2) (vl := vl) (tx := tx) (st := st) (en := en) (nm := nm) HN1.out HP HR1.out.pr HR1.out.n htx)
    go_wp2_with fail
    refine K1.out.mono ?_
    rintro e w2 ⟨rfl, v2, hp, hr⟩
    have HR2 := Lib.hid (HR1.out.step hp.out hr.out)
    have HN2 := Lib.hid (HN1.out.rep HR1.out.n HR1.out.pr hr.out)
    have HX2 := Lib.hid (HX1.out.rep hr.out)
    clear hp hr K1 HR1 HN1 HX1 x0 x1 x2 x3 x4 x5 x6
    obtain ⟨x0, x1, x2, x3, x4, x5, x6⟩ := cells7 HX2.out.h
    go_wp2_with fail
    first | go_end0 | refine bodyPost_ret (results_none rfl _ _ _) rfl ?_
    exact HR2.out.done (by simp [itemT, HV.out, useT])

set_option maxRecDepth 100000 in
set_option maxHeartbeats 4000000 in
theorem item_3 (hN : NV w n0 m a cap c) (HP : Hid (∀ y, y ∈ c → PT b n0 y)) (h : PrIn w b n0 v0 text) (hn : n0 ≤ w.heap.size) (htx : tx.length ≤ 1100000) :
    Calls Tryz.prog 146 #[.pointer (some ⟨b, 0, none⟩), nw 3 vl tx st en nm c a cap] w (PW b n0 text (itemT 3 vl tx c (tokss c)) v0 w) := by
  by_cases hv : vl % 2 = 1
  · have HV := Lib.hid hv
    have hb1 := bit1 hv
    clear hv
    go_enter Tryz.func146, Tryz.ntmps146
    have HR0 := Lib.hid (PrRun.start h hn)
    have HN0 := Lib.hid hN
    go_upto_region 1 with fail
    obtain ⟨w1, hw1⟩ : ∃ w1, w1 = w.alloc (nbx 3 vl tx st en nm c a cap) := ⟨_, rfl⟩
    rw [show World.alloc w _ = w1 from hw1.symm]
    have HR1 : Hid (PrRun b n0 w v0 text [] w1 v0) := by rw [hw1]; exact HR0.out.below (below_box _ _)
    have HX1 : Hid (BoxIn w1 v0 b w.heap.size (nbx 3 vl tx st en nm c a cap)) := by rw [hw1]; exact BoxIn.made h
    have HN1 : Hid (NV w1 n0 m a cap c) := by rw [hw1]; exact HN0.out.below hn (below_box _ _)
    clear hw1 h hN
    obtain ⟨x0, x1, x2, x3, x4, x5, x6⟩ := cells7 HX1.out.h
    have K1 := Lib.hid (tok1_call HR1.out ⟨#[112, 117, 98]⟩ [112, 117, 98] rfl (by decide))
    go_wp2_with fail
    refine K1.out.mono ?_
    rintro e w2 ⟨rfl, v2, hp, hr⟩
    have HR2 := Lib.hid (HR1.out.step hp.out hr.out)
    have HN2 := Lib.hid (HN1.out.rep HR1.out.n HR1.out.pr hr.out)
    have HX2 := Lib.hid (HX1.out.rep hr.out)
    clear hp hr K1 HR1 HN1 HX1 x0 x1 x2 x3 x4 x5 x6
    obtain ⟨x0, x1, x2, x3, x4, x5, x6⟩ := cells7 HX2.out.h
    have K2 := Lib.hid (k_func (kd := 3) (vl := vl) (tx := tx) (st := st) (en := en) (nm := nm) HN2.out HP HR2.out.pr HR2.out.n htx)
    go_wp2_with fail
    refine K2.out.mono ?_
    rintro e w3 ⟨rfl, v3, hp, hr⟩
    have HR3 := Lib.hid (HR2.out.step hp.out hr.out)
    have HN3 := Lib.hid (HN2.out.rep HR2.out.n HR2.out.pr hr.out)
    have HX3 := Lib.hid (HX2.out.rep hr.out)
    clear hp hr K2 HR2 HN2 HX2 x0 x1 x2 x3 x4 x5 x6
    obtain ⟨x0, x1, x2, x3, x4, x5, x6⟩ := cells7 HX3.out.h
    go_wp2_with fail
    first | go_end0 | refine bodyPost_ret (results_none rfl _ _ _) rfl ?_
    exact HR3.out.done (by simp [itemT, HV.out, funcT])
  · have HV := Lib.hid hv
    have hb1 := bit0 hv
    clear hv
    go_enter Tryz.func146, Tryz.ntmps146
    have HR0 := Lib.hid (PrRun.start h hn)
    have HN0 := Lib.hid hN
    go_upto_region 1 with fail
    obtain ⟨w1, hw1⟩ : ∃ w1, w1 = w.alloc (nbx 3 vl tx st en nm c a cap) := ⟨_, rfl⟩
    rw [show World.alloc w _ = w1 from hw1.symm]
    have HR1 : Hid (PrRun b n0 w v0 text [] w1 v0) := by rw [hw1]; exact HR0.out.below (below_box _ _)
    have HX1 : Hid (BoxIn w1 v0 b w.heap.size (nbx 3 vl tx st en nm c a cap)) := by rw [hw1]; exact BoxIn.made h
    have HN1 : Hid (NV w1 n0 m a cap c) := by rw [hw1]; exact HN0.out.below hn (below_box _ _)
    clear hw1 h hN
    obtain ⟨x0, x1, x2, x3, x4, x5, x6⟩ := cells7 HX1.out.h
    have K1 := Lib.hid (k_func (kd := 3) (vl := vl) (tx := tx) (st := st) (en := en) (nm := nm) HN1.out HP HR1.out.pr HR1.out.n htx)
    go_wp2_with fail
    refine K1.out.mono ?_
    rintro e w2 ⟨rfl, v2, hp, hr⟩
    have HR2 := Lib.hid (HR1.out.step hp.out hr.out)
    have HN2 := Lib.hid (HN1.out.rep HR1.out.n HR1.out.pr hr.out)
    have HX2 := Lib.hid (HX1.out.rep hr.out)
    clear hp hr K1 HR1 HN1 HX1 x0 x1 x2 x3 x4 x5 x6
    obtain ⟨x0, x1, x2, x3, x4, x5, x6⟩ := cells7 HX2.out.h
    go_wp2_with fail
    first | go_end0 | refine bodyPost_ret (results_none rfl _ _ _) rfl ?_
    exact HR2.out.done (by simp [itemT, HV.out, funcT])

set_option maxRecDepth 100000 in
set_option maxHeartbeats 4000000 in
theorem item_4 (hN : NV w n0 m a cap c) (HP : Hid (∀ y, y ∈ c → PT b n0 y)) (h : PrIn w b n0 v0 text) (hn : n0 ≤ w.heap.size) (htx : tx.length ≤ 1100000) :
    Calls Tryz.prog 146 #[.pointer (some ⟨b, 0, none⟩), nw 4 vl tx st en nm c a cap] w (PW b n0 text (itemT 4 vl tx c (tokss c)) v0 w) := by
  by_cases hv : vl % 2 = 1
  · have HV := Lib.hid hv
    have hb1 := bit1 hv
    clear hv
    go_enter Tryz.func146, Tryz.ntmps146
    have HR0 := Lib.hid (PrRun.start h hn)
    have HN0 := Lib.hid hN
    go_upto_region 1 with fail
    obtain ⟨w1, hw1⟩ : ∃ w1, w1 = w.alloc (nbx 4 vl tx st en nm c a cap) := ⟨_, rfl⟩
    rw [show World.alloc w _ = w1 from hw1.symm]
    have HR1 : Hid (PrRun b n0 w v0 text [] w1 v0) := by rw [hw1]; exact HR0.out.below (below_box _ _)
    have HX1 : Hid (BoxIn w1 v0 b w.heap.size (nbx 4 vl tx st en nm c a cap)) := by rw [hw1]; exact BoxIn.made h
    have HN1 : Hid (NV w1 n0 m a cap c) := by rw [hw1]; exact HN0.out.below hn (below_box _ _)
    clear hw1 h hN
    obtain ⟨x0, x1, x2, x3, x4, x5, x6⟩ := cells7 HX1.out.h
    have K1 := Lib.hid (tok1_call HR1.out ⟨#[112, 117, 98]⟩ [112, 117, 98] rfl (by decide))
    go_wp2_with fail
    refine K1.out.mono ?_
    rintro e w2 ⟨rfl, v2, hp, hr⟩
    have HR2 := Lib.hid (HR1.out.step hp.out hr.out)
    have HN2 := Lib.hid (HN1.out.rep HR1.out.n HR1.out.pr hr.out)
    have HX2 := Lib.hid (HX1.out.rep hr.out)
    clear hp hr K1 HR1 HN1 HX1 x0 x1 x2 x3 x4 x5 x6
    obtain ⟨x0, x1, x2, x3, x4, x5, x6⟩ := cells7 HX2.out.h
    have K2 := Lib.hid (tok2_call HR2.out ⟨#[115, 116, 114, 117, 99, 116]⟩ (Lx.bs tx) [115, 116, 114, 117, 99, 116] tx rfl (Lx.L_bs tx) (by decide) (by rw [Lx.bs_size]; omega))
    go_wp2_with fail
    refine K2.out.mono ?_
    rintro e w3 ⟨rfl, v3, hp, hr⟩
    have HR3 := Lib.hid (HR2.out.step hp.out hr.out)
    have HN3 := Lib.hid (HN2.out.rep HR2.out.n HR2.out.pr hr.out)
    have HX3 := Lib.hid (HX2.out.rep hr.out)
    clear hp hr K2 HR2 HN2 HX2 x0 x1 x2 x3 x4 x5 x6
    obtain ⟨x0, x1, x2, x3, x4, x5, x6⟩ := cells7 HX3.out.h
    have K3 := Lib.hid (part_any (kd := 4) (vl := vl) (tx := tx) (st := st) (en := en) (nm := nm) 0 (by decide) HN3.out HP HR3.out.pr HR3.out.n)
    go_wp2_with fail
    refine K3.out.mono ?_
    rintro e w4 ⟨rfl, v4, hp, hr⟩
    have HR4 := Lib.hid (HR3.out.step hp.out hr.out)
    have HN4 := Lib.hid (HN3.out.rep HR3.out.n HR3.out.pr hr.out)
    have HX4 := Lib.hid (HX3.out.rep hr.out)
    clear hp hr K3 HR3 HN3 HX3 x0 x1 x2 x3 x4 x5 x6
    obtain ⟨x0, x1, x2, x3, x4, x5, x6⟩ := cells7 HX4.out.h
    have K4 := Lib.hid (from_any 4 vl tx st en nm c a cap n0 m 1 w4 HN4.out HR4.out.n (by decide))
    go_wp2_with fail
    refine K4.out.mono ?_
    rintro e w5 ⟨hb, a5, cap5, m5, rfl, hnv⟩
    obtain ⟨d5, hd⟩ : ∃ d, d = c.drop 1 := ⟨_, rfl⟩
    rw [← hd] at hnv ⊢
    have HE5 := Lib.hid hd
    clear hd
    have HD5 := Lib.hid hnv
    have HR5 := Lib.hid (HR4.out.below hb)
    have HN5 := Lib.hid (HN4.out.below HR4.out.n hb)
    have HX5 := Lib.hid (HX4.out.below hb)
    clear hb hnv K4 HR4 HN4 HX4 x0 x1 x2 x3 x4 x5 x6
    obtain ⟨x0, x1, x2, x3, x4, x5, x6⟩ := cells7 HX5.out.h
    have K5 := Lib.hid (bracketed_any ⟨#[123]⟩ ⟨#[125]⟩ [123] [125] (Lib.hid rfl) (Lib.hid rfl) (Lib.hid (by decide)) (Lib.hid (by decide)) HD5.out (Lib.hid (fun y hy => HP.out y (List.mem_of_mem_drop (by rw [← HE5.out]; exact hy)))) HR5.out.pr HR5.out.n)
    go_wp2_with fail
    refine K5.out.mono ?_
    rintro e w6 ⟨rfl, v6, hp, hr⟩
    have HR6 := Lib.hid (HR5.out.step hp.out hr.out)
    have HN6 := Lib.hid (HN5.out.rep HR5.out.n HR5.out.pr hr.out)
    have HX6 := Lib.hid (HX5.out.rep hr.out)
    clear hp hr K5 HR5 HN5 HX5 x0 x1 x2 x3 x4 x5 x6
    obtain ⟨x0, x1, x2, x3, x4, x5, x6⟩ := cells7 HX6.out.h
    go_wp2_with fail
    first | go_end0 | refine bodyPost_ret (results_none rfl _ _ _) rfl ?_
    exact HR6.out.done (by simp [itemT, tokss_drop, -List.drop_one, HV.out, HE5.out])
  · have HV := Lib.hid hv
    have hb1 := bit0 hv
    clear hv
    go_enter Tryz.func146, Tryz.ntmps146
    have HR0 := Lib.hid (PrRun.start h hn)
    have HN0 := Lib.hid hN
    go_upto_region 1 with fail
    obtain ⟨w1, hw1⟩ : ∃ w1, w1 = w.alloc (nbx 4 vl tx st en nm c a cap) := ⟨_, rfl⟩
    rw [show World.alloc w _ = w1 from hw1.symm]
    have HR1 : Hid (PrRun b n0 w v0 text [] w1 v0) := by rw [hw1]; exact HR0.out.below (below_box _ _)
    have HX1 : Hid (BoxIn w1 v0 b w.heap.size (nbx 4 vl tx st en nm c a cap)) := by rw [hw1]; exact BoxIn.made h
    have HN1 : Hid (NV w1 n0 m a cap c) := by rw [hw1]; exact HN0.out.below hn (below_box _ _)
    clear hw1 h hN
    obtain ⟨x0, x1, x2, x3, x4, x5, x6⟩ := cells7 HX1.out.h
    have K1 := Lib.hid (tok2_call HR1.out ⟨#[115, 116, 114, 117, 99, 116]⟩ (Lx.bs tx) [115, 116, 114, 117, 99, 116] tx rfl (Lx.L_bs tx) (by decide) (by rw [Lx.bs_size]; omega))
    go_wp2_with fail
    refine K1.out.mono ?_
    rintro e w2 ⟨rfl, v2, hp, hr⟩
    have HR2 := Lib.hid (HR1.out.step hp.out hr.out)
    have HN2 := Lib.hid (HN1.out.rep HR1.out.n HR1.out.pr hr.out)
    have HX2 := Lib.hid (HX1.out.rep hr.out)
    clear hp hr K1 HR1 HN1 HX1 x0 x1 x2 x3 x4 x5 x6
    obtain ⟨x0, x1, x2, x3, x4, x5, x6⟩ := cells7 HX2.out.h
    have K2 := Lib.hid (part_any (kd := 4) (vl := vl) (tx := tx) (st := st) (en := en) (nm := nm) 0 (by decide) HN2.out HP HR2.out.pr HR2.out.n)
    go_wp2_with fail
    refine K2.out.mono ?_
    rintro e w3 ⟨rfl, v3, hp, hr⟩
    have HR3 := Lib.hid (HR2.out.step hp.out hr.out)
    have HN3 := Lib.hid (HN2.out.rep HR2.out.n HR2.out.pr hr.out)
    have HX3 := Lib.hid (HX2.out.rep hr.out)
    clear hp hr K2 HR2 HN2 HX2 x0 x1 x2 x3 x4 x5 x6
    obtain ⟨x0, x1, x2, x3, x4, x5, x6⟩ := cells7 HX3.out.h
    have K3 := Lib.hid (from_any 4 vl tx st en nm c a cap n0 m 1 w3 HN3.out HR3.out.n (by decide))
    go_wp2_with fail
    refine K3.out.mono ?_
    rintro e w4 ⟨hb, a4, cap4, m4, rfl, hnv⟩
    obtain ⟨d4, hd⟩ : ∃ d, d = c.drop 1 := ⟨_, rfl⟩
    rw [← hd] at hnv ⊢
    have HE4 := Lib.hid hd
    clear hd
    have HD4 := Lib.hid hnv
    have HR4 := Lib.hid (HR3.out.below hb)
    have HN4 := Lib.hid (HN3.out.below HR3.out.n hb)
    have HX4 := Lib.hid (HX3.out.below hb)
    clear hb hnv K3 HR3 HN3 HX3 x0 x1 x2 x3 x4 x5 x6
    obtain ⟨x0, x1, x2, x3, x4, x5, x6⟩ := cells7 HX4.out.h
    have K4 := Lib.hid (bracketed_any ⟨#[123]⟩ ⟨#[125]⟩ [123] [125] (Lib.hid rfl) (Lib.hid rfl) (Lib.hid (by decide)) (Lib.hid (by decide)) HD4.out (Lib.hid (fun y hy => HP.out y (List.mem_of_mem_drop (by rw [← HE4.out]; exact hy)))) HR4.out.pr HR4.out.n)
    go_wp2_with fail
    refine K4.out.mono ?_
    rintro e w5 ⟨rfl, v5, hp, hr⟩
    have HR5 := Lib.hid (HR4.out.step hp.out hr.out)
    have HN5 := Lib.hid (HN4.out.rep HR4.out.n HR4.out.pr hr.out)
    have HX5 := Lib.hid (HX4.out.rep hr.out)
    clear hp hr K4 HR4 HN4 HX4 x0 x1 x2 x3 x4 x5 x6
    obtain ⟨x0, x1, x2, x3, x4, x5, x6⟩ := cells7 HX5.out.h
    go_wp2_with fail
    first | go_end0 | refine bodyPost_ret (results_none rfl _ _ _) rfl ?_
    exact HR5.out.done (by simp [itemT, tokss_drop, -List.drop_one, HV.out, HE4.out])

end
end Go.Proofs.YtcpojagfnpajeaaGreatDoorR.Ps

namespace Go.Proofs.YtcpojagfnpajeaaGreatDoorR.Ps
open Go.RowKit

section
variable {b n0 m : Nat} {kd vl : Int} {tx : List UInt8} {st en nm : Int} {c : List Nd} {a : Option Addr} {cap : Nat} {w : World} {v0 : Value} {text : List UInt8}

set_option maxRecDepth 100000 in
set_option maxHeartbeats 4000000 in
theorem item_5 (hN : NV w n0 m a cap c) (HP : Hid (∀ y, y ∈ c → PT b n0 y)) (h : PrIn w b n0 v0 text) (hn : n0 ≤ w.heap.size) (htx : tx.length ≤ 1100000) :
    Calls Tryz.prog 146 #[.pointer (some ⟨b, 0, none⟩), nw 5 vl tx st en nm c a cap] w (PW b n0 text (itemT 5 vl tx c (tokss c)) v0 w) := by
  by_cases hv : vl % 2 = 1
  · have HV := Lib.hid hv
    have hb1 := bit1 hv
    clear hv
    go_enter Tryz.func146, Tryz.ntmps146
    have HR0 := Lib.hid (PrRun.start h hn)
    have HN0 := Lib.hid hN
    go_upto_region 1 with fail
    obtain ⟨w1, hw1⟩ : ∃ w1, w1 = w.alloc (nbx 5 vl tx st en nm c a cap) := ⟨_, rfl⟩
    rw [show World.alloc w _ = w1 from hw1.symm]
    have HR1 : Hid (PrRun b n0 w v0 text [] w1 v0) := by rw [hw1]; exact HR0.out.below (below_box _ _)
    have HX1 : Hid (BoxIn w1 v0 b w.heap.size (nbx 5 vl tx st en nm c a cap)) := by rw [hw1]; exact BoxIn.made h
    have HN1 : Hid (NV w1 n0 m a cap c) := by rw [hw1]; exact HN0.out.below hn (below_box _ _)
    clear hw1 h hN
    obtain ⟨x0, x1, x2, x3, x4, x5, x6⟩ := cells7 HX1.out.h
    have K1 := Lib.hid (tok1_call HR1.out ⟨#[112, 117, 98]⟩ [112, 117, 98] rfl (by decide))
    go_wp2_with fail
    refine K1.out.mono ?_
    rintro e w2 ⟨rfl, v2, hp, hr⟩
    have HR2 := Lib.hid (HR1.out.step hp.out hr.out)
    have HN2 := Lib.hid (HN1.out.rep HR1.out.n HR1.out.pr hr.out)
    have HX2 := Lib.hid (HX1.out.rep hr.out)
    clear hp hr K1 HR1 HN1 HX1 x0 x1 x2 x3 x4 x5 x6
    obtain ⟨x0, x1, x2, x3, x4, x5, x6⟩ := cells7 HX2.out.h
    have K2 := Lib.hid (tok2_call HR2.out ⟨#[101, 110, 117, 109]⟩ (Lx.bs tx) [101, 110, 117, 109] tx rfl (Lx.L_bs tx) (by decide) (by rw [Lx.bs_size]; omega))
    go_wp2_with fail
    refine K2.out.mono ?_
    rintro e w3 ⟨rfl, v3, hp, hr⟩
    have HR3 := Lib.hid (HR2.out.step hp.out hr.out)
    have HN3 := Lib.hid (HN2.out.rep HR2.out.n HR2.out.pr hr.out)
    have HX3 := Lib.hid (HX2.out.rep hr.out)
    clear hp hr K2 HR2 HN2 HX2 x0 x1 x2 x3 x4 x5 x6
    obtain ⟨x0, x1, x2, x3, x4, x5, x6⟩ := cells7 HX3.out.h
    have K3 := Lib.hid (part_any (kd := 5) (vl := vl) (tx := tx) (st := st) (en := en) (nm := nm) 0 (by decide) HN3.out HP HR3.out.pr HR3.out.n)
    go_wp2_with fail
    refine K3.out.mono ?_
    rintro e w4 ⟨rfl, v4, hp, hr⟩
    have HR4 := Lib.hid (HR3.out.step hp.out hr.out)
    have HN4 := Lib.hid (HN3.out.rep HR3.out.n HR3.out.pr hr.out)
    have HX4 := Lib.hid (HX3.out.rep hr.out)
    clear hp hr K3 HR3 HN3 HX3 x0 x1 x2 x3 x4 x5 x6
    obtain ⟨x0, x1, x2, x3, x4, x5, x6⟩ := cells7 HX4.out.h
    have K4 := Lib.hid (from_any 5 vl tx st en nm c a cap n0 m 1 w4 HN4.out HR4.out.n (by decide))
    go_wp2_with fail
    refine K4.out.mono ?_
    rintro e w5 ⟨hb, a5, cap5, m5, rfl, hnv⟩
    obtain ⟨d5, hd⟩ : ∃ d, d = c.drop 1 := ⟨_, rfl⟩
    rw [← hd] at hnv ⊢
    have HE5 := Lib.hid hd
    clear hd
    have HD5 := Lib.hid hnv
    have HR5 := Lib.hid (HR4.out.below hb)
    have HN5 := Lib.hid (HN4.out.below HR4.out.n hb)
    have HX5 := Lib.hid (HX4.out.below hb)
    clear hb hnv K4 HR4 HN4 HX4 x0 x1 x2 x3 x4 x5 x6
    obtain ⟨x0, x1, x2, x3, x4, x5, x6⟩ := cells7 HX5.out.h
    have K5 := Lib.hid (bracketed_any ⟨#[123]⟩ ⟨#[125]⟩ [123] [125] (Lib.hid rfl) (Lib.hid rfl) (Lib.hid (by decide)) (Lib.hid (by decide)) HD5.out (Lib.hid (fun y hy => HP.out y (List.mem_of_mem_drop (by rw [← HE5.out]; exact hy)))) HR5.out.pr HR5.out.n)
    go_wp2_with fail
    refine K5.out.mono ?_
    rintro e w6 ⟨rfl, v6, hp, hr⟩
    have HR6 := Lib.hid (HR5.out.step hp.out hr.out)
    have HN6 := Lib.hid (HN5.out.rep HR5.out.n HR5.out.pr hr.out)
    have HX6 := Lib.hid (HX5.out.rep hr.out)
    clear hp hr K5 HR5 HN5 HX5 x0 x1 x2 x3 x4 x5 x6
    obtain ⟨x0, x1, x2, x3, x4, x5, x6⟩ := cells7 HX6.out.h
    go_wp2_with fail
    first | go_end0 | refine bodyPost_ret (results_none rfl _ _ _) rfl ?_
    exact HR6.out.done (by simp [itemT, tokss_drop, -List.drop_one, HV.out, HE5.out])
  · have HV := Lib.hid hv
    have hb1 := bit0 hv
    clear hv
    go_enter Tryz.func146, Tryz.ntmps146
    have HR0 := Lib.hid (PrRun.start h hn)
    have HN0 := Lib.hid hN
    go_upto_region 1 with fail
    obtain ⟨w1, hw1⟩ : ∃ w1, w1 = w.alloc (nbx 5 vl tx st en nm c a cap) := ⟨_, rfl⟩
    rw [show World.alloc w _ = w1 from hw1.symm]
    have HR1 : Hid (PrRun b n0 w v0 text [] w1 v0) := by rw [hw1]; exact HR0.out.below (below_box _ _)
    have HX1 : Hid (BoxIn w1 v0 b w.heap.size (nbx 5 vl tx st en nm c a cap)) := by rw [hw1]; exact BoxIn.made h
    have HN1 : Hid (NV w1 n0 m a cap c) := by rw [hw1]; exact HN0.out.below hn (below_box _ _)
    clear hw1 h hN
    obtain ⟨x0, x1, x2, x3, x4, x5, x6⟩ := cells7 HX1.out.h
    have K1 := Lib.hid (tok2_call HR1.out ⟨#[101, 110, 117, 109]⟩ (Lx.bs tx) [101, 110, 117, 109] tx rfl (Lx.L_bs tx) (by decide) (by rw [Lx.bs_size]; omega))
    go_wp2_with fail
    refine K1.out.mono ?_
    rintro e w2 ⟨rfl, v2, hp, hr⟩
    have HR2 := Lib.hid (HR1.out.step hp.out hr.out)
    have HN2 := Lib.hid (HN1.out.rep HR1.out.n HR1.out.pr hr.out)
    have HX2 := Lib.hid (HX1.out.rep hr.out)
    clear hp hr K1 HR1 HN1 HX1 x0 x1 x2 x3 x4 x5 x6
    obtain ⟨x0, x1, x2, x3, x4, x5, x6⟩ := cells7 HX2.out.h
    have K2 := Lib.hid (part_any (kd := 5) (vl := vl) (tx := tx) (st := st) (en := en) (nm := nm) 0 (by decide) HN2.out HP HR2.out.pr HR2.out.n)
    go_wp2_with fail
    refine K2.out.mono ?_
    rintro e w3 ⟨rfl, v3, hp, hr⟩
    have HR3 := Lib.hid (HR2.out.step hp.out hr.out)
    have HN3 := Lib.hid (HN2.out.rep HR2.out.n HR2.out.pr hr.out)
    have HX3 := Lib.hid (HX2.out.rep hr.out)
    clear hp hr K2 HR2 HN2 HX2 x0 x1 x2 x3 x4 x5 x6
    obtain ⟨x0, x1, x2, x3, x4, x5, x6⟩ := cells7 HX3.out.h
    have K3 := Lib.hid (from_any 5 vl tx st en nm c a cap n0 m 1 w3 HN3.out HR3.out.n (by decide))
    go_wp2_with fail
    refine K3.out.mono ?_
    rintro e w4 ⟨hb, a4, cap4, m4, rfl, hnv⟩
    obtain ⟨d4, hd⟩ : ∃ d, d = c.drop 1 := ⟨_, rfl⟩
    rw [← hd] at hnv ⊢
    have HE4 := Lib.hid hd
    clear hd
    have HD4 := Lib.hid hnv
    have HR4 := Lib.hid (HR3.out.below hb)
    have HN4 := Lib.hid (HN3.out.below HR3.out.n hb)
    have HX4 := Lib.hid (HX3.out.below hb)
    clear hb hnv K3 HR3 HN3 HX3 x0 x1 x2 x3 x4 x5 x6
    obtain ⟨x0, x1, x2, x3, x4, x5, x6⟩ := cells7 HX4.out.h
    have K4 := Lib.hid (bracketed_any ⟨#[123]⟩ ⟨#[125]⟩ [123] [125] (Lib.hid rfl) (Lib.hid rfl) (Lib.hid (by decide)) (Lib.hid (by decide)) HD4.out (Lib.hid (fun y hy => HP.out y (List.mem_of_mem_drop (by rw [← HE4.out]; exact hy)))) HR4.out.pr HR4.out.n)
    go_wp2_with fail
    refine K4.out.mono ?_
    rintro e w5 ⟨rfl, v5, hp, hr⟩
    have HR5 := Lib.hid (HR4.out.step hp.out hr.out)
    have HN5 := Lib.hid (HN4.out.rep HR4.out.n HR4.out.pr hr.out)
    have HX5 := Lib.hid (HX4.out.rep hr.out)
    clear hp hr K4 HR4 HN4 HX4 x0 x1 x2 x3 x4 x5 x6
    obtain ⟨x0, x1, x2, x3, x4, x5, x6⟩ := cells7 HX5.out.h
    go_wp2_with fail
    first | go_end0 | refine bodyPost_ret (results_none rfl _ _ _) rfl ?_
    exact HR5.out.done (by simp [itemT, tokss_drop, -List.drop_one, HV.out, HE4.out])

set_option maxRecDepth 100000 in
set_option maxHeartbeats 4000000 in
theorem item_6 (hN : NV w n0 m a cap c) (HP : Hid (∀ y, y ∈ c → PT b n0 y)) (h : PrIn w b n0 v0 text) (hn : n0 ≤ w.heap.size) (htx : tx.length ≤ 1100000) :
    Calls Tryz.prog 146 #[.pointer (some ⟨b, 0, none⟩), nw 6 vl tx st en nm c a cap] w (PW b n0 text (itemT 6 vl tx c (tokss c)) v0 w) := by
  by_cases hv : vl % 2 = 1
  · have HV := Lib.hid hv
    have hb1 := bit1 hv
    clear hv
    go_enter Tryz.func146, Tryz.ntmps146
    have HR0 := Lib.hid (PrRun.start h hn)
    have HN0 := Lib.hid hN
    go_upto_region 1 with fail
    obtain ⟨w1, hw1⟩ : ∃ w1, w1 = w.alloc (nbx 6 vl tx st en nm c a cap) := ⟨_, rfl⟩
    rw [show World.alloc w _ = w1 from hw1.symm]
    have HR1 : Hid (PrRun b n0 w v0 text [] w1 v0) := by rw [hw1]; exact HR0.out.below (below_box _ _)
    have HX1 : Hid (BoxIn w1 v0 b w.heap.size (nbx 6 vl tx st en nm c a cap)) := by rw [hw1]; exact BoxIn.made h
    have HN1 : Hid (NV w1 n0 m a cap c) := by rw [hw1]; exact HN0.out.below hn (below_box _ _)
    clear hw1 h hN
    obtain ⟨x0, x1, x2, x3, x4, x5, x6⟩ := cells7 HX1.out.h
    have K1 := Lib.hid (tok1_call HR1.out ⟨#[112, 117, 98]⟩ [112, 117, 98] rfl (by decide))
    go_wp2_with fail
    refine K1.out.mono ?_
    rintro e w2 ⟨rfl, v2, hp, hr⟩
    have HR2 := Lib.hid (HR1.out.step hp.out hr.out)
    have HN2 := Lib.hid (HN1.out.rep HR1.out.n HR1.out.pr hr.out)
    have HX2 := Lib.hid (HX1.out.rep hr.out)
    clear hp hr K1 HR1 HN1 HX1 x0 x1 x2 x3 x4 x5 x6
    obtain ⟨x0, x1, x2, x3, x4, x5, x6⟩ := cells7 HX2.out.h
    have K2 := Lib.hid (tok2_call HR2.out ⟨#[116, 114, 97, 105, 116]⟩ (Lx.bs tx) [116, 114, 97, 105, 116] tx rfl (Lx.L_bs tx) (by decide) (by rw [Lx.bs_size]; omega))
    go_wp2_with fail
    refine K2.out.mono ?_
    rintro e w3 ⟨rfl, v3, hp, hr⟩
    have HR3 := Lib.hid (HR2.out.step hp.out hr.out)
    have HN3 := Lib.hid (HN2.out.rep HR2.out.n HR2.out.pr hr.out)
    have HX3 := Lib.hid (HX2.out.rep hr.out)
    clear hp hr K2 HR2 HN2 HX2 x0 x1 x2 x3 x4 x5 x6
    obtain ⟨x0, x1, x2, x3, x4, x5, x6⟩ := cells7 HX3.out.h
    have K3 := Lib.hid (members_any  HN3.out HP HR3.out.pr HR3.out.n)
    go_wp2_with fail
    refine K3.out.mono ?_
    rintro e w4 ⟨rfl, v4, hp, hr⟩
    have HR4 := Lib.hid (HR3.out.step hp.out hr.out)
    have HN4 := Lib.hid (HN3.out.rep HR3.out.n HR3.out.pr hr.out)
    have HX4 := Lib.hid (HX3.out.rep hr.out)
    clear hp hr K3 HR3 HN3 HX3 x0 x1 x2 x3 x4 x5 x6
    obtain ⟨x0, x1, x2, x3, x4, x5, x6⟩ := cells7 HX4.out.h
    go_wp2_with fail
    first | go_end0 | refine bodyPost_ret (results_none rfl _ _ _) rfl ?_
    exact HR4.out.done (by simp [itemT, HV.out])
  · have HV := Lib.hid hv
    have hb1 := bit0 hv
    clear hv
    go_enter Tryz.func146, Tryz.ntmps146
    have HR0 := Lib.hid (PrRun.start h hn)
    have HN0 := Lib.hid hN
    go_upto_region 1 with fail
    obtain ⟨w1, hw1⟩ : ∃ w1, w1 = w.alloc (nbx 6 vl tx st en nm c a cap) := ⟨_, rfl⟩
    rw [show World.alloc w _ = w1 from hw1.symm]
    have HR1 : Hid (PrRun b n0 w v0 text [] w1 v0) := by rw [hw1]; exact HR0.out.below (below_box _ _)
    have HX1 : Hid (BoxIn w1 v0 b w.heap.size (nbx 6 vl tx st en nm c a cap)) := by rw [hw1]; exact BoxIn.made h
    have HN1 : Hid (NV w1 n0 m a cap c) := by rw [hw1]; exact HN0.out.below hn (below_box _ _)
    clear hw1 h hN
    obtain ⟨x0, x1, x2, x3, x4, x5, x6⟩ := cells7 HX1.out.h
    have K1 := Lib.hid (tok2_call HR1.out ⟨#[116, 114, 97, 105, 116]⟩ (Lx.bs tx) [116, 114, 97, 105, 116] tx rfl (Lx.L_bs tx) (by decide) (by rw [Lx.bs_size]; omega))
    go_wp2_with fail
    refine K1.out.mono ?_
    rintro e w2 ⟨rfl, v2, hp, hr⟩
    have HR2 := Lib.hid (HR1.out.step hp.out hr.out)
    have HN2 := Lib.hid (HN1.out.rep HR1.out.n HR1.out.pr hr.out)
    have HX2 := Lib.hid (HX1.out.rep hr.out)
    clear hp hr K1 HR1 HN1 HX1 x0 x1 x2 x3 x4 x5 x6
    obtain ⟨x0, x1, x2, x3, x4, x5, x6⟩ := cells7 HX2.out.h
    have K2 := Lib.hid (members_any  HN2.out HP HR2.out.pr HR2.out.n)
    go_wp2_with fail
    refine K2.out.mono ?_
    rintro e w3 ⟨rfl, v3, hp, hr⟩
    have HR3 := Lib.hid (HR2.out.step hp.out hr.out)
    have HN3 := Lib.hid (HN2.out.rep HR2.out.n HR2.out.pr hr.out)
    have HX3 := Lib.hid (HX2.out.rep hr.out)
    clear hp hr K2 HR2 HN2 HX2 x0 x1 x2 x3 x4 x5 x6
    obtain ⟨x0, x1, x2, x3, x4, x5, x6⟩ := cells7 HX3.out.h
    go_wp2_with fail
    first | go_end0 | refine bodyPost_ret (results_none rfl _ _ _) rfl ?_
    exact HR3.out.done (by simp [itemT, HV.out])

set_option maxRecDepth 100000 in
set_option maxHeartbeats 4000000 in
theorem item_7 (hN : NV w n0 m a cap c) (HP : Hid (∀ y, y ∈ c → PT b n0 y)) (h : PrIn w b n0 v0 text) (hn : n0 ≤ w.heap.size) (htx : tx.length ≤ 1100000) :
    Calls Tryz.prog 146 #[.pointer (some ⟨b, 0, none⟩), nw 7 vl tx st en nm c a cap] w (PW b n0 text (itemT 7 vl tx c (tokss c)) v0 w) := by
  by_cases hv : vl % 2 = 1
  · have HV := Lib.hid hv
    have hb1 := bit1 hv
    clear hv
    go_enter Tryz.func146, Tryz.ntmps146
    have HR0 := Lib.hid (PrRun.start h hn)
    have HN0 := Lib.hid hN
    go_upto_region 1 with fail
    obtain ⟨w1, hw1⟩ : ∃ w1, w1 = w.alloc (nbx 7 vl tx st en nm c a cap) := ⟨_, rfl⟩
    rw [show World.alloc w _ = w1 from hw1.symm]
    have HR1 : Hid (PrRun b n0 w v0 text [] w1 v0) := by rw [hw1]; exact HR0.out.below (below_box _ _)
    have HX1 : Hid (BoxIn w1 v0 b w.heap.size (nbx 7 vl tx st en nm c a cap)) := by rw [hw1]; exact BoxIn.made h
    have HN1 : Hid (NV w1 n0 m a cap c) := by rw [hw1]; exact HN0.out.below hn (below_box _ _)
    clear hw1 h hN
    obtain ⟨x0, x1, x2, x3, x4, x5, x6⟩ := cells7 HX1.out.h
    have K1 := Lib.hid (tok1_call HR1.out ⟨#[112, 117, 98]⟩ [112, 117, 98] rfl (by decide))
    go_wp2_with fail
    refine K1.out.mono ?_
    rintro e w2 ⟨rfl, v2, hp, hr⟩
    have HR2 := Lib.hid (HR1.out.step hp.out hr.out)
    have HN2 := Lib.hid (HN1.out.rep HR1.out.n HR1.out.pr hr.out)
    have HX2 := Lib.hid (HX1.out.rep hr.out)
    clear hp hr K1 HR1 HN1 HX1 x0 x1 x2 x3 x4 x5 x6
    obtain ⟨x0, x1, x2, x3, x4, x5, x6⟩ := cells7 HX2.out.h
    have K2 := Lib.hid (k_impl (kd := 7) (vl := vl) (tx := tx) (st := st) (en := en) (nm := nm) HN2.out HP HR2.out.pr HR2.out.n htx)
    go_wp2_with fail
    refine K2.out.mono ?_
    rintro e w3 ⟨rfl, v3, hp, hr⟩
    have HR3 := Lib.hid (HR2.out.step hp.out hr.out)
    have HN3 := Lib.hid (HN2.out.rep HR2.out.n HR2.out.pr hr.out)
    have HX3 := Lib.hid (HX2.out.rep hr.out)
    clear hp hr K2 HR2 HN2 HX2 x0 x1 x2 x3 x4 x5 x6
    obtain ⟨x0, x1, x2, x3, x4, x5, x6⟩ := cells7 HX3.out.h
    go_wp2_with fail
    first | go_end0 | refine bodyPost_ret (results_none rfl _ _ _) rfl ?_
    exact HR3.out.done (by simp [itemT, HV.out, implT])
  · have HV := Lib.hid hv
    have hb1 := bit0 hv
    clear hv
    go_enter Tryz.func146, Tryz.ntmps146
    have HR0 := Lib.hid (PrRun.start h hn)
    have HN0 := Lib.hid hN
    go_upto_region 1 with fail
    obtain ⟨w1, hw1⟩ : ∃ w1, w1 = w.alloc (nbx 7 vl tx st en nm c a cap) := ⟨_, rfl⟩
    rw [show World.alloc w _ = w1 from hw1.symm]
    have HR1 : Hid (PrRun b n0 w v0 text [] w1 v0) := by rw [hw1]; exact HR0.out.below (below_box _ _)
    have HX1 : Hid (BoxIn w1 v0 b w.heap.size (nbx 7 vl tx st en nm c a cap)) := by rw [hw1]; exact BoxIn.made h
    have HN1 : Hid (NV w1 n0 m a cap c) := by rw [hw1]; exact HN0.out.below hn (below_box _ _)
    clear hw1 h hN
    obtain ⟨x0, x1, x2, x3, x4, x5, x6⟩ := cells7 HX1.out.h
    have K1 := Lib.hid (k_impl (kd := 7) (vl := vl) (tx := tx) (st := st) (en := en) (nm := nm) HN1.out HP HR1.out.pr HR1.out.n htx)
    go_wp2_with fail
    refine K1.out.mono ?_
    rintro e w2 ⟨rfl, v2, hp, hr⟩
    have HR2 := Lib.hid (HR1.out.step hp.out hr.out)
    have HN2 := Lib.hid (HN1.out.rep HR1.out.n HR1.out.pr hr.out)
    have HX2 := Lib.hid (HX1.out.rep hr.out)
    clear hp hr K1 HR1 HN1 HX1 x0 x1 x2 x3 x4 x5 x6
    obtain ⟨x0, x1, x2, x3, x4, x5, x6⟩ := cells7 HX2.out.h
    go_wp2_with fail
    first | go_end0 | refine bodyPost_ret (results_none rfl _ _ _) rfl ?_
    exact HR2.out.done (by simp [itemT, HV.out, implT])

end
end Go.Proofs.YtcpojagfnpajeaaGreatDoorR.Ps

namespace Go.Proofs.YtcpojagfnpajeaaGreatDoorR.Ps
open Go.RowKit

section
variable {b n0 m : Nat} {kd vl : Int} {tx : List UInt8} {st en nm : Int} {c : List Nd} {a : Option Addr} {cap : Nat} {w : World} {v0 : Value} {text : List UInt8}

set_option maxRecDepth 100000 in
set_option maxHeartbeats 4000000 in
theorem item_8 (hN : NV w n0 m a cap c) (HP : Hid (∀ y, y ∈ c → PT b n0 y)) (h : PrIn w b n0 v0 text) (hn : n0 ≤ w.heap.size) (htx : tx.length ≤ 1100000) :
    Calls Tryz.prog 146 #[.pointer (some ⟨b, 0, none⟩), nw 8 vl tx st en nm c a cap] w (PW b n0 text (itemT 8 vl tx c (tokss c)) v0 w) := by
  by_cases hv : vl % 2 = 1
  · have HV := Lib.hid hv
    have hb1 := bit1 hv
    clear hv
    go_enter Tryz.func146, Tryz.ntmps146
    have HR0 := Lib.hid (PrRun.start h hn)
    have HN0 := Lib.hid hN
    go_upto_region 1 with fail
    obtain ⟨w1, hw1⟩ : ∃ w1, w1 = w.alloc (nbx 8 vl tx st en nm c a cap) := ⟨_, rfl⟩
    rw [show World.alloc w _ = w1 from hw1.symm]
    have HR1 : Hid (PrRun b n0 w v0 text [] w1 v0) := by rw [hw1]; exact HR0.out.below (below_box _ _)
    have HX1 : Hid (BoxIn w1 v0 b w.heap.size (nbx 8 vl tx st en nm c a cap)) := by rw [hw1]; exact BoxIn.made h
    have HN1 : Hid (NV w1 n0 m a cap c) := by rw [hw1]; exact HN0.out.below hn (below_box _ _)
    clear hw1 h hN
    obtain ⟨x0, x1, x2, x3, x4, x5, x6⟩ := cells7 HX1.out.h
    have K1 := Lib.hid (tok1_call HR1.out ⟨#[112, 117, 98]⟩ [112, 117, 98] rfl (by decide))
    go_wp2_with fail
    refine K1.out.mono ?_
    rintro e w2 ⟨rfl, v2, hp, hr⟩
    have HR2 := Lib.hid (HR1.out.step hp.out hr.out)
    have HN2 := Lib.hid (HN1.out.rep HR1.out.n HR1.out.pr hr.out)
    have HX2 := Lib.hid (HX1.out.rep hr.out)
    clear hp hr K1 HR1 HN1 HX1 x0 x1 x2 x3 x4 x5 x6
    obtain ⟨x0, x1, x2, x3, x4, x5, x6⟩ := cells7 HX2.out.h
    have K2 := Lib.hid (tok3_call HR2.out ⟨#[99, 111, 110, 115, 116]⟩ (Lx.bs tx) ⟨#[58]⟩ [99, 111, 110, 115, 116] tx [58] rfl (Lx.L_bs tx) rfl (by decide) (by rw [Lx.bs_size]; omega) (by decide))
    go_wp2_with fail
    refine K2.out.mono ?_
    rintro e w3 ⟨rfl, v3, hp, hr⟩
    have HR3 := Lib.hid (HR2.out.step hp.out hr.out)
    have HN3 := Lib.hid (HN2.out.rep HR2.out.n HR2.out.pr hr.out)
    have HX3 := Lib.hid (HX2.out.rep hr.out)
    clear hp hr K2 HR2 HN2 HX2 x0 x1 x2 x3 x4 x5 x6
    obtain ⟨x0, x1, x2, x3, x4, x5, x6⟩ := cells7 HX3.out.h
    have K3 := Lib.hid (part_any (kd := 8) (vl := vl) (tx := tx) (st := st) (en := en) (nm := nm) 0 (by decide) HN3.out HP HR3.out.pr HR3.out.n)
    go_wp2_with fail
    refine K3.out.mono ?_
    rintro e w4 ⟨rfl, v4, hp, hr⟩
    have HR4 := Lib.hid (HR3.out.step hp.out hr.out)
    have HN4 := Lib.hid (HN3.out.rep HR3.out.n HR3.out.pr hr.out)
    have HX4 := Lib.hid (HX3.out.rep hr.out)
    clear hp hr K3 HR3 HN3 HX3 x0 x1 x2 x3 x4 x5 x6
    obtain ⟨x0, x1, x2, x3, x4, x5, x6⟩ := cells7 HX4.out.h
    have K4 := Lib.hid (def_any (kd := 8) (vl := vl) (tx := tx) (st := st) (en := en) (nm := nm)  HN4.out HP HR4.out.pr HR4.out.n)
    go_wp2_with fail
    refine K4.out.mono ?_
    rintro e w5 ⟨rfl, v5, hp, hr⟩
    have HR5 := Lib.hid (HR4.out.step hp.out hr.out)
    have HN5 := Lib.hid (HN4.out.rep HR4.out.n HR4.out.pr hr.out)
    have HX5 := Lib.hid (HX4.out.rep hr.out)
    clear hp hr K4 HR4 HN4 HX4 x0 x1 x2 x3 x4 x5 x6
    obtain ⟨x0, x1, x2, x3, x4, x5, x6⟩ := cells7 HX5.out.h
    go_wp2_with fail
    first | go_end0 | refine bodyPost_ret (results_none rfl _ _ _) rfl ?_
    exact HR5.out.done (by simp [itemT, HV.out])
  · have HV := Lib.hid hv
    have hb1 := bit0 hv
    clear hv
    go_enter Tryz.func146, Tryz.ntmps146
    have HR0 := Lib.hid (PrRun.start h hn)
    have HN0 := Lib.hid hN
    go_upto_region 1 with fail
    obtain ⟨w1, hw1⟩ : ∃ w1, w1 = w.alloc (nbx 8 vl tx st en nm c a cap) := ⟨_, rfl⟩
    rw [show World.alloc w _ = w1 from hw1.symm]
    have HR1 : Hid (PrRun b n0 w v0 text [] w1 v0) := by rw [hw1]; exact HR0.out.below (below_box _ _)
    have HX1 : Hid (BoxIn w1 v0 b w.heap.size (nbx 8 vl tx st en nm c a cap)) := by rw [hw1]; exact BoxIn.made h
    have HN1 : Hid (NV w1 n0 m a cap c) := by rw [hw1]; exact HN0.out.below hn (below_box _ _)
    clear hw1 h hN
    obtain ⟨x0, x1, x2, x3, x4, x5, x6⟩ := cells7 HX1.out.h
    have K1 := Lib.hid (tok3_call HR1.out ⟨#[99, 111, 110, 115, 116]⟩ (Lx.bs tx) ⟨#[58]⟩ [99, 111, 110, 115, 116] tx [58] rfl (Lx.L_bs tx) rfl (by decide) (by rw [Lx.bs_size]; omega) (by decide))
    go_wp2_with fail
    refine K1.out.mono ?_
    rintro e w2 ⟨rfl, v2, hp, hr⟩
    have HR2 := Lib.hid (HR1.out.step hp.out hr.out)
    have HN2 := Lib.hid (HN1.out.rep HR1.out.n HR1.out.pr hr.out)
    have HX2 := Lib.hid (HX1.out.rep hr.out)
    clear hp hr K1 HR1 HN1 HX1 x0 x1 x2 x3 x4 x5 x6
    obtain ⟨x0, x1, x2, x3, x4, x5, x6⟩ := cells7 HX2.out.h
    have K2 := Lib.hid (part_any (kd := 8) (vl := vl) (tx := tx) (st := st) (en := en) (nm := nm) 0 (by decide) HN2.out HP HR2.out.pr HR2.out.n)
    go_wp2_with fail
    refine K2.out.mono ?_
    rintro e w3 ⟨rfl, v3, hp, hr⟩
    have HR3 := Lib.hid (HR2.out.step hp.out hr.out)
    have HN3 := Lib.hid (HN2.out.rep HR2.out.n HR2.out.pr hr.out)
    have HX3 := Lib.hid (HX2.out.rep hr.out)
    clear hp hr K2 HR2 HN2 HX2 x0 x1 x2 x3 x4 x5 x6
    obtain ⟨x0, x1, x2, x3, x4, x5, x6⟩ := cells7 HX3.out.h
    have K3 := Lib.hid (def_any (kd := 8) (vl := vl) (tx := tx) (st := st) (en := en) (nm := nm)  HN3.out HP HR3.out.pr HR3.out.n)
    go_wp2_with fail
    refine K3.out.mono ?_
    rintro e w4 ⟨rfl, v4, hp, hr⟩
    have HR4 := Lib.hid (HR3.out.step hp.out hr.out)
    have HN4 := Lib.hid (HN3.out.rep HR3.out.n HR3.out.pr hr.out)
    have HX4 := Lib.hid (HX3.out.rep hr.out)
    clear hp hr K3 HR3 HN3 HX3 x0 x1 x2 x3 x4 x5 x6
    obtain ⟨x0, x1, x2, x3, x4, x5, x6⟩ := cells7 HX4.out.h
    go_wp2_with fail
    first | go_end0 | refine bodyPost_ret (results_none rfl _ _ _) rfl ?_
    exact HR4.out.done (by simp [itemT, HV.out])

set_option maxRecDepth 100000 in
set_option maxHeartbeats 4000000 in
theorem item_9 (hN : NV w n0 m a cap c) (HP : Hid (∀ y, y ∈ c → PT b n0 y)) (h : PrIn w b n0 v0 text) (hn : n0 ≤ w.heap.size) (htx : tx.length ≤ 1100000) :
    Calls Tryz.prog 146 #[.pointer (some ⟨b, 0, none⟩), nw 9 vl tx st en nm c a cap] w (PW b n0 text (itemT 9 vl tx c (tokss c)) v0 w) := by
  by_cases hv : vl % 2 = 1
  · have HV := Lib.hid hv
    have hb1 := bit1 hv
    clear hv
    go_enter Tryz.func146, Tryz.ntmps146
    have HR0 := Lib.hid (PrRun.start h hn)
    have HN0 := Lib.hid hN
    go_upto_region 1 with fail
    obtain ⟨w1, hw1⟩ : ∃ w1, w1 = w.alloc (nbx 9 vl tx st en nm c a cap) := ⟨_, rfl⟩
    rw [show World.alloc w _ = w1 from hw1.symm]
    have HR1 : Hid (PrRun b n0 w v0 text [] w1 v0) := by rw [hw1]; exact HR0.out.below (below_box _ _)
    have HX1 : Hid (BoxIn w1 v0 b w.heap.size (nbx 9 vl tx st en nm c a cap)) := by rw [hw1]; exact BoxIn.made h
    have HN1 : Hid (NV w1 n0 m a cap c) := by rw [hw1]; exact HN0.out.below hn (below_box _ _)
    clear hw1 h hN
    obtain ⟨x0, x1, x2, x3, x4, x5, x6⟩ := cells7 HX1.out.h
    have K1 := Lib.hid (tok1_call HR1.out ⟨#[112, 117, 98]⟩ [112, 117, 98] rfl (by decide))
    go_wp2_with fail
    refine K1.out.mono ?_
    rintro e w2 ⟨rfl, v2, hp, hr⟩
    have HR2 := Lib.hid (HR1.out.step hp.out hr.out)
    have HN2 := Lib.hid (HN1.out.rep HR1.out.n HR1.out.pr hr.out)
    have HX2 := Lib.hid (HX1.out.rep hr.out)
    clear hp hr K1 HR1 HN1 HX1 x0 x1 x2 x3 x4 x5 x6
    obtain ⟨x0, x1, x2, x3, x4, x5, x6⟩ := cells7 HX2.out.h
    have K2 := Lib.hid (tok3_call HR2.out ⟨#[109, 97, 99, 114, 111]⟩ (Lx.bs tx) ⟨#[40]⟩ [109, 97, 99, 114, 111] tx [40] rfl (Lx.L_bs tx) rfl (by decide) (by rw [Lx.bs_size]; omega) (by decide))
    go_wp2_with fail
    refine K2.out.mono ?_
    rintro e w3 ⟨rfl, v3, hp, hr⟩
    have HR3 := Lib.hid (HR2.out.step hp.out hr.out)
    have HN3 := Lib.hid (HN2.out.rep HR2.out.n HR2.out.pr hr.out)
    have HX3 := Lib.hid (HX2.out.rep hr.out)
    clear hp hr K2 HR2 HN2 HX2 x0 x1 x2 x3 x4 x5 x6
    obtain ⟨x0, x1, x2, x3, x4, x5, x6⟩ := cells7 HX3.out.h
    have K3 := Lib.hid (part_any (kd := 9) (vl := vl) (tx := tx) (st := st) (en := en) (nm := nm) 0 (by decide) HN3.out HP HR3.out.pr HR3.out.n)
    go_wp2_with fail
    refine K3.out.mono ?_
    rintro e w4 ⟨rfl, v4, hp, hr⟩
    have HR4 := Lib.hid (HR3.out.step hp.out hr.out)
    have HN4 := Lib.hid (HN3.out.rep HR3.out.n HR3.out.pr hr.out)
    have HX4 := Lib.hid (HX3.out.rep hr.out)
    clear hp hr K3 HR3 HN3 HX3 x0 x1 x2 x3 x4 x5 x6
    obtain ⟨x0, x1, x2, x3, x4, x5, x6⟩ := cells7 HX4.out.h
    have K4 := Lib.hid (tok1_call HR4.out ⟨#[41]⟩ [41] rfl (by decide))
    go_wp2_with fail
    refine K4.out.mono ?_
    rintro e w5 ⟨rfl, v5, hp, hr⟩
    have HR5 := Lib.hid (HR4.out.step hp.out hr.out)
    have HN5 := Lib.hid (HN4.out.rep HR4.out.n HR4.out.pr hr.out)
    have HX5 := Lib.hid (HX4.out.rep hr.out)
    clear hp hr K4 HR4 HN4 HX4 x0 x1 x2 x3 x4 x5 x6
    obtain ⟨x0, x1, x2, x3, x4, x5, x6⟩ := cells7 HX5.out.h
    have K5 := Lib.hid (def_any (kd := 9) (vl := vl) (tx := tx) (st := st) (en := en) (nm := nm)  HN5.out HP HR5.out.pr HR5.out.n)
    go_wp2_with fail
    refine K5.out.mono ?_
    rintro e w6 ⟨rfl, v6, hp, hr⟩
    have HR6 := Lib.hid (HR5.out.step hp.out hr.out)
    have HN6 := Lib.hid (HN5.out.rep HR5.out.n HR5.out.pr hr.out)
    have HX6 := Lib.hid (HX5.out.rep hr.out)
    clear hp hr K5 HR5 HN5 HX5 x0 x1 x2 x3 x4 x5 x6
    obtain ⟨x0, x1, x2, x3, x4, x5, x6⟩ := cells7 HX6.out.h
    go_wp2_with fail
    first | go_end0 | refine bodyPost_ret (results_none rfl _ _ _) rfl ?_
    exact HR6.out.done (by simp [itemT, HV.out])
  · have HV := Lib.hid hv
    have hb1 := bit0 hv
    clear hv
    go_enter Tryz.func146, Tryz.ntmps146
    have HR0 := Lib.hid (PrRun.start h hn)
    have HN0 := Lib.hid hN
    go_upto_region 1 with fail
    obtain ⟨w1, hw1⟩ : ∃ w1, w1 = w.alloc (nbx 9 vl tx st en nm c a cap) := ⟨_, rfl⟩
    rw [show World.alloc w _ = w1 from hw1.symm]
    have HR1 : Hid (PrRun b n0 w v0 text [] w1 v0) := by rw [hw1]; exact HR0.out.below (below_box _ _)
    have HX1 : Hid (BoxIn w1 v0 b w.heap.size (nbx 9 vl tx st en nm c a cap)) := by rw [hw1]; exact BoxIn.made h
    have HN1 : Hid (NV w1 n0 m a cap c) := by rw [hw1]; exact HN0.out.below hn (below_box _ _)
    clear hw1 h hN
    obtain ⟨x0, x1, x2, x3, x4, x5, x6⟩ := cells7 HX1.out.h
    have K1 := Lib.hid (tok3_call HR1.out ⟨#[109, 97, 99, 114, 111]⟩ (Lx.bs tx) ⟨#[40]⟩ [109, 97, 99, 114, 111] tx [40] rfl (Lx.L_bs tx) rfl (by decide) (by rw [Lx.bs_size]; omega) (by decide))
    go_wp2_with fail
    refine K1.out.mono ?_
    rintro e w2 ⟨rfl, v2, hp, hr⟩
    have HR2 := Lib.hid (HR1.out.step hp.out hr.out)
    have HN2 := Lib.hid (HN1.out.rep HR1.out.n HR1.out.pr hr.out)
    have HX2 := Lib.hid (HX1.out.rep hr.out)
    clear hp hr K1 HR1 HN1 HX1 x0 x1 x2 x3 x4 x5 x6
    obtain ⟨x0, x1, x2, x3, x4, x5, x6⟩ := cells7 HX2.out.h
    have K2 := Lib.hid (part_any (kd := 9) (vl := vl) (tx := tx) (st := st) (en := en) (nm := nm) 0 (by decide) HN2.out HP HR2.out.pr HR2.out.n)
    go_wp2_with fail
    refine K2.out.mono ?_
    rintro e w3 ⟨rfl, v3, hp, hr⟩
    have HR3 := Lib.hid (HR2.out.step hp.out hr.out)
    have HN3 := Lib.hid (HN2.out.rep HR2.out.n HR2.out.pr hr.out)
    have HX3 := Lib.hid (HX2.out.rep hr.out)
    clear hp hr K2 HR2 HN2 HX2 x0 x1 x2 x3 x4 x5 x6
    obtain ⟨x0, x1, x2, x3, x4, x5, x6⟩ := cells7 HX3.out.h
    have K3 := Lib.hid (tok1_call HR3.out ⟨#[41]⟩ [41] rfl (by decide))
    go_wp2_with fail
    refine K3.out.mono ?_
    rintro e w4 ⟨rfl, v4, hp, hr⟩
    have HR4 := Lib.hid (HR3.out.step hp.out hr.out)
    have HN4 := Lib.hid (HN3.out.rep HR3.out.n HR3.out.pr hr.out)
    have HX4 := Lib.hid (HX3.out.rep hr.out)
    clear hp hr K3 HR3 HN3 HX3 x0 x1 x2 x3 x4 x5 x6
    obtain ⟨x0, x1, x2, x3, x4, x5, x6⟩ := cells7 HX4.out.h
    have K4 := Lib.hid (def_any (kd := 9) (vl := vl) (tx := tx) (st := st) (en := en) (nm := nm)  HN4.out HP HR4.out.pr HR4.out.n)
    go_wp2_with fail
    refine K4.out.mono ?_
    rintro e w5 ⟨rfl, v5, hp, hr⟩
    have HR5 := Lib.hid (HR4.out.step hp.out hr.out)
    have HN5 := Lib.hid (HN4.out.rep HR4.out.n HR4.out.pr hr.out)
    have HX5 := Lib.hid (HX4.out.rep hr.out)
    clear hp hr K4 HR4 HN4 HX4 x0 x1 x2 x3 x4 x5 x6
    obtain ⟨x0, x1, x2, x3, x4, x5, x6⟩ := cells7 HX5.out.h
    go_wp2_with fail
    first | go_end0 | refine bodyPost_ret (results_none rfl _ _ _) rfl ?_
    exact HR5.out.done (by simp [itemT, HV.out])

theorem item_else_eq {cs : List (List Tok)} (h1 : (kd == 1) = false) (h2 : (kd == 2) = false) (h3 : (kd == 3) = false) (h4 : (kd == 4) = false) (h5 : (kd == 5) = false) (h6 : (kd == 6) = false) (h7 : (kd == 7) = false) (h8 : (kd == 8) = false) (h9 : (kd == 9) = false) : itemT kd vl tx c cs = if vl % 2 = 1 then [[112, 117, 98]] else [] := by
  have q : ∀ z : Int, (kd == z) = false → ¬ kd = z := fun z hz e => by simp [e] at hz
  simp [itemT, q _ h1, q _ h2, q _ h3, q _ h4, q _ h5, q _ h6, q _ h7, q _ h8, q _ h9]
set_option maxRecDepth 100000 in
set_option maxHeartbeats 2000000 in
theorem item_else (h1 : (kd == 1) = false) (h2 : (kd == 2) = false) (h3 : (kd == 3) = false) (h4 : (kd == 4) = false) (h5 : (kd == 5) = false) (h6 : (kd == 6) = false) (h7 : (kd == 7) = false) (h8 : (kd == 8) = false) (h9 : (kd == 9) = false) (hN : NV w n0 m a cap c) (_HP : Hid (∀ y, y ∈ c → PT b n0 y)) (h : PrIn w b n0 v0 text) (hn : n0 ≤ w.heap.size) (_htx : tx.length ≤ 1100000) :
    Calls Tryz.prog 146 #[.pointer (some ⟨b, 0, none⟩), nw kd vl tx st en nm c a cap] w (PW b n0 text (itemT kd vl tx c (tokss c)) v0 w) := by
  by_cases hv : vl % 2 = 1
  · have HV := Lib.hid hv
    have hb1 := bit1 hv
    clear hv
    go_enter Tryz.func146, Tryz.ntmps146
    have HR0 := Lib.hid (PrRun.start h hn)
    have HN0 := Lib.hid hN
    go_upto_region 1 with fail
    obtain ⟨w1, hw1⟩ : ∃ w1, w1 = w.alloc (nbx kd vl tx st en nm c a cap) := ⟨_, rfl⟩
    rw [show World.alloc w _ = w1 from hw1.symm]
    have HR1 : Hid (PrRun b n0 w v0 text [] w1 v0) := by rw [hw1]; exact HR0.out.below (below_box _ _)
    have HX1 : Hid (BoxIn w1 v0 b w.heap.size (nbx kd vl tx st en nm c a cap)) := by rw [hw1]; exact BoxIn.made h
    have HN1 : Hid (NV w1 n0 m a cap c) := by rw [hw1]; exact HN0.out.below hn (below_box _ _)
    clear hw1 h hN
    obtain ⟨x0, x1, x2, x3, x4, x5, x6⟩ := cells7 HX1.out.h
    have K1 := Lib.hid (tok1_call HR1.out ⟨#[112, 117, 98]⟩ [112, 117, 98] rfl (by decide))
    go_wp2_with fail
    refine K1.out.mono ?_
    rintro e w2 ⟨rfl, v2, hp, hr⟩
    have HR2 := Lib.hid (HR1.out.step hp.out hr.out)
    have HN2 := Lib.hid (HN1.out.rep HR1.out.n HR1.out.pr hr.out)
    have HX2 := Lib.hid (HX1.out.rep hr.out)
    clear hp hr K1 HR1 HN1 HX1 x0 x1 x2 x3 x4 x5 x6
    obtain ⟨x0, x1, x2, x3, x4, x5, x6⟩ := cells7 HX2.out.h
    go_wp2_with fail
    first | go_end0 | refine bodyPost_ret (results_none rfl _ _ _) rfl ?_
    exact HR2.out.done (by rw [item_else_eq h1 h2 h3 h4 h5 h6 h7 h8 h9]; simp [HV.out])
  · have HV := Lib.hid hv
    have hb1 := bit0 hv
    clear hv
    go_enter Tryz.func146, Tryz.ntmps146
    have HR0 := Lib.hid (PrRun.start h hn)
    have HN0 := Lib.hid hN
    go_upto_region 1 with fail
    obtain ⟨w1, hw1⟩ : ∃ w1, w1 = w.alloc (nbx kd vl tx st en nm c a cap) := ⟨_, rfl⟩
    rw [show World.alloc w _ = w1 from hw1.symm]
    have HR1 : Hid (PrRun b n0 w v0 text [] w1 v0) := by rw [hw1]; exact HR0.out.below (below_box _ _)
    have HX1 : Hid (BoxIn w1 v0 b w.heap.size (nbx kd vl tx st en nm c a cap)) := by rw [hw1]; exact BoxIn.made h
    have HN1 : Hid (NV w1 n0 m a cap c) := by rw [hw1]; exact HN0.out.below hn (below_box _ _)
    clear hw1 h hN
    obtain ⟨x0, x1, x2, x3, x4, x5, x6⟩ := cells7 HX1.out.h
    go_wp2_with fail
    first | go_end0 | refine bodyPost_ret (results_none rfl _ _ _) rfl ?_
    exact HR1.out.done (by rw [item_else_eq h1 h2 h3 h4 h5 h6 h7 h8 h9]; simp [HV.out])

end
end Go.Proofs.YtcpojagfnpajeaaGreatDoorR.Ps
