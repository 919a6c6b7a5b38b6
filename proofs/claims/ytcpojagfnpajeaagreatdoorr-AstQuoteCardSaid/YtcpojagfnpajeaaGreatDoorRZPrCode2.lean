/-
  printStatement at an assignment; printPostfix.
  printExpression at literals and calls; printPattern.
  print: what it writes of a node is the node's tokens.
-/
import Derived.Test.YtcpojagfnpajeaaGreatDoorRZPrItemA
import Derived.Test.YtcpojagfnpajeaaGreatDoorRZPrCode
namespace Go.Proofs.YtcpojagfnpajeaaGreatDoorR.Ps
open Go.RowKit

section
variable {b n0 m : Nat} {kd vl : Int} {tx : List UInt8} {st en nm : Int} {c : List Nd} {a : Option Addr} {cap : Nat} {w : World} {v0 : Value} {text : List UInt8}

set_option maxRecDepth 100000 in
set_option maxHeartbeats 4000000 in
theorem stmt_23 (hN : NV w n0 m a cap c) (HP : Hid (∀ y, y ∈ c → PT b n0 y)) (h : PrIn w b n0 v0 text) (hn : n0 ≤ w.heap.size) (_htx : tx.length ≤ 1100000) :
    Calls Tryz.prog 149 #[.pointer (some ⟨b, 0, none⟩), nw 23 vl tx st en nm c a cap] w (PW b n0 text (stmtT 23 c (tokss c)) v0 w) := by
  go_enter Tryz.func149, Tryz.ntmps149
  have HR0 := Lib.hid (PrRun.start h hn)
  have HN0 := Lib.hid hN
  go_upto_region 1 with fail
  obtain ⟨w1, hw1⟩ : ∃ w1, w1 = w.alloc (nbx 23 vl tx st en nm c a cap) := ⟨_, rfl⟩
  rw [show World.alloc w _ = w1 from hw1.symm]
  have HR1 : Hid (PrRun b n0 w v0 text [] w1 v0) := by rw [hw1]; exact HR0.out.below (below_box _ _)
  have HX1 : Hid (BoxIn w1 v0 b w.heap.size (nbx 23 vl tx st en nm c a cap)) := by rw [hw1]; exact BoxIn.made h
  have HN1 : Hid (NV w1 n0 m a cap c) := by rw [hw1]; exact HN0.out.below hn (below_box _ _)
  clear hw1 h hN
  obtain ⟨x0, x1, x2, x3, x4, x5, x6⟩ := cells7 HX1.out.h
  go_upto_region 14 with fail
  have hbd : Below w1.heap.size w1 w1.drew := (Below.refl _ _).drew
  have K1 : Hid (Calls Tryz.prog 209 #[nw 23 vl tx st en nm c a cap, .int .i64 0] w1.drew fun e w' => e = .returned (.int .i64 (kAt c 0)) ∧ Hid (Below w1.heap.size w1 w') ∧ (w'.cell? ⟨w.heap.size, 0, none⟩ = some (.int .i64 23) ∧ w'.cell? ⟨w.heap.size, 1, none⟩ = some (.int .i64 vl) ∧ w'.cell? ⟨w.heap.size, 2, none⟩ = some (.string (Lx.bs tx)) ∧ w'.cell? ⟨w.heap.size, 3, none⟩ = some (.int .i64 st) ∧ w'.cell? ⟨w.heap.size, 4, none⟩ = some (.int .i64 en) ∧ w'.cell? ⟨w.heap.size, 5, none⟩ = some (.int .i64 nm) ∧ w'.cell? ⟨w.heap.size, 6, none⟩ = some (.slice a c.length cap)) ∧ Hid (∀ bare, Calls Tryz.prog 207 #[.pointer (some ⟨b, 0, none⟩), nw 23 vl tx st en nm c a cap, .int .i64 0, .bool bare] w' (PW b n0 text (groupT c (tokss c) 0 bare) v0 w')) ∧ Hid (PrRun b n0 w v0 text [] w' v0) ∧ Hid (NV w' n0 m a cap c) ∧ Hid (BoxIn w' v0 b w.heap.size (nbx 23 vl tx st en nm c a cap))) := by
    refine (kind_any 23 vl tx st en nm c a cap n0 m 0 w1.drew (HN1.out.below HR1.out.n hbd) (Nat.le_trans HR1.out.n hbd.size) (by decide)).mono ?_
    rintro e w' ⟨rfl, hb⟩
    have hb' := hbd.trans hb
    have hr' := HR1.out.below hb'
    exact ⟨rfl, hb', cells7 (HX1.out.below hb').h, fun bare => grouped_any 0 (by decide) bare (HN1.out.below HR1.out.n hb') HP hr'.pr hr'.n, hr', HN1.out.below HR1.out.n hb', HX1.out.below hb'⟩
  have K2 := Lib.hid (fun k W => isStmt_any k W)
  go_region_with (first
    | (go_at_call 209; refine K1.out.mono ?_; rintro e w2 ⟨rfl, HB2, ⟨y0, y1, y2, y3, y4, y5, y6⟩, K3, HR2, HN2, HX2⟩)
    | (go_at_call 208; refine (K2.out _ _).mono ?_; rintro e w3 ⟨rfl, rfl⟩)
    | (go_at_call 207; refine (K3.out _).mono ?_; rintro e w4 ⟨rfl, v4, hp4, hr4⟩))
  all_goals
    have HR4 := Lib.hid (HR2.out.step hp4.out hr4.out)
    have HN4 := Lib.hid (HN2.out.rep HR2.out.n HR2.out.pr hr4.out)
    have HX4 := Lib.hid (HX2.out.rep hr4.out)
    clear hp4 hr4 HR2 HN2 HX2 x0 x1 x2 x3 x4 x5 x6
    obtain ⟨x0, x1, x2, x3, x4, x5, x6⟩ := cells7 HX4.out.h
    have K4 := Lib.hid (tok1_call HR4.out ⟨#[61]⟩ [61] rfl (by decide))
    go_wp2_with fail
    refine K4.out.mono ?_
    rintro e w5 ⟨rfl, v5, hp, hr⟩
    have HR5 := Lib.hid (HR4.out.step hp.out hr.out)
    have HN5 := Lib.hid (HN4.out.rep HR4.out.n HR4.out.pr hr.out)
    have HX5 := Lib.hid (HX4.out.rep hr.out)
    clear hp hr K4 HR4 HN4 HX4 x0 x1 x2 x3 x4 x5 x6
    obtain ⟨x0, x1, x2, x3, x4, x5, x6⟩ := cells7 HX5.out.h
    have K5 := Lib.hid (part_any (kd := 23) (vl := vl) (tx := tx) (st := st) (en := en) (nm := nm) 1 (by decide) HN5.out HP HR5.out.pr HR5.out.n)
    go_wp2_with fail
    refine K5.out.mono ?_
    rintro e w6 ⟨rfl, v6, hp, hr⟩
    have HR6 := Lib.hid (HR5.out.step hp.out hr.out)
    have HN6 := Lib.hid (HN5.out.rep HR5.out.n HR5.out.pr hr.out)
    have HX6 := Lib.hid (HX5.out.rep hr.out)
    clear hp hr K5 HR5 HN5 HX5 x0 x1 x2 x3 x4 x5 x6
    obtain ⟨x0, x1, x2, x3, x4, x5, x6⟩ := cells7 HX6.out.h
    have K6 := Lib.hid (tok1_call HR6.out ⟨#[59]⟩ [59] rfl (by decide))
    go_wp2_with fail
    refine K6.out.mono ?_
    rintro e w7 ⟨rfl, v7, hp, hr⟩
    have HR7 := Lib.hid (HR6.out.step hp.out hr.out)
    have HN7 := Lib.hid (HN6.out.rep HR6.out.n HR6.out.pr hr.out)
    have HX7 := Lib.hid (HX6.out.rep hr.out)
    clear hp hr K6 HR6 HN6 HX6 x0 x1 x2 x3 x4 x5 x6
    obtain ⟨x0, x1, x2, x3, x4, x5, x6⟩ := cells7 HX7.out.h
    go_wp2_with fail
    first | go_end0 | refine bodyPost_ret (results_none rfl _ _ _) rfl ?_
    exact HR7.out.done (by simp [stmtT])

set_option maxRecDepth 100000 in
set_option maxHeartbeats 4000000 in
theorem post_30t (hN : NV w n0 m a cap c) (HP : Hid (∀ y, y ∈ c → PT b n0 y)) (h : PrIn w b n0 v0 text) (hn : n0 ≤ w.heap.size) (_htx : tx.length ≤ 1100000) (hB : bareB (kAt c 0) = true) :
    Calls Tryz.prog 212 #[.pointer (some ⟨b, 0, none⟩), nw 30 vl tx st en nm c a cap] w (PW b n0 text (postT 30 tx c (tokss c)) v0 w) := by
  go_enter Tryz.func212, Tryz.ntmps212
  have HR0 := Lib.hid (PrRun.start h hn)
  have HN0 := Lib.hid hN
  go_upto_region 1 with fail
  obtain ⟨w1, hw1⟩ : ∃ w1, w1 = w.alloc (nbx 30 vl tx st en nm c a cap) := ⟨_, rfl⟩
  rw [show World.alloc w _ = w1 from hw1.symm]
  have HR1 : Hid (PrRun b n0 w v0 text [] w1 v0) := by rw [hw1]; exact HR0.out.below (below_box _ _)
  have HX1 : Hid (BoxIn w1 v0 b w.heap.size (nbx 30 vl tx st en nm c a cap)) := by rw [hw1]; exact BoxIn.made h
  have HN1 : Hid (NV w1 n0 m a cap c) := by rw [hw1]; exact HN0.out.below hn (below_box _ _)
  clear hw1 h hN
  obtain ⟨x0, x1, x2, x3, x4, x5, x6⟩ := cells7 HX1.out.h
  have KK1 := kind_any 30 vl tx st en nm c a cap n0 m 0 w1 HN1.out HR1.out.n (by decide)
  have K1 := Lib.hid (KK1)
  go_wp2_with fail
  refine K1.out.mono ?_
  rintro e w2 ⟨rfl, hb⟩
  have HR2 := Lib.hid (HR1.out.below hb)
  have HN2 := Lib.hid (HN1.out.below HR1.out.n hb)
  have HX2 := Lib.hid (HX1.out.below hb)
  clear hb K1 HR1 HN1 HX1 x0 x1 x2 x3 x4 x5 x6
  obtain ⟨x0, x1, x2, x3, x4, x5, x6⟩ := cells7 HX2.out.h
  go_upto_region 4 with fail
  have hbd : Below w2.heap.size w2 w2.drew := (Below.refl _ _).drew
  have HRd := Lib.hid (HR2.out.below hbd)
  have HNd := Lib.hid (HN2.out.below HR2.out.n hbd)
  have HXd := Lib.hid (HX2.out.below hbd)
  have K3 : Hid (∀ bare, Calls Tryz.prog 207 #[.pointer (some ⟨b, 0, none⟩), nw 30 vl tx st en nm c a cap, .int .i64 0, .bool bare] w2.drew (PW b n0 text (groupT c (tokss c) 0 bare) v0 w2.drew)) := fun bare => grouped_any 0 (by decide) bare HNd.out HP HRd.out.pr HRd.out.n
  have K2 : Hid (∀ W, Calls Tryz.prog 241 #[.int .i64 (kAt c 0)] W fun e w' => e = .returned (.bool true) ∧ w' = W) := fun W => by have q := isBare_any (kAt c 0) W; rw [hB] at q; exact q
  have HB := Lib.hid hB
  clear hB KK1
  first | (go_region_with (first
    | (go_at_call 241; refine (K2.out _).mono ?_; rintro e w3 ⟨rfl, rfl⟩)
    | (go_at_call 207; refine (K3.out _).mono ?_; rintro e w4 ⟨rfl, v4, hp4, hr4⟩))) | fail
  all_goals
    have HR4 := Lib.hid (HRd.out.step hp4.out hr4.out)
    have HN4 := Lib.hid (HNd.out.rep HRd.out.n HRd.out.pr hr4.out)
    have HX4 := Lib.hid (HXd.out.rep hr4.out)
    clear hp4 hr4 HRd HNd HXd HR2 HN2 HX2 x0 x1 x2 x3 x4 x5 x6
    obtain ⟨x0, x1, x2, x3, x4, x5, x6⟩ := cells7 HX4.out.h
    have K4 := Lib.hid (from_any 30 vl tx st en nm c a cap n0 m 1 w4 HN4.out HR4.out.n (by decide))
    go_wp2_with fail
    refine K4.out.mono ?_
    rintro e w5 ⟨hb, a5, cap5, m5, rfl, hnv⟩
    obtain ⟨d5, hd⟩ : ∃ d, d = c.drop 1 := ⟨_, rfl⟩
    rw [← hd] at hnv ⊢
    have HE5 := Lib.hid hd
    clear hd
    have HD5 := Lib.hid hnv
    have HR5 := Lib.hid (HR4.out.below hb)
    have HN5 := Lib.hid (HN4.out.below HR4.out.n hb)
    have HX5 := Lib.hid (HX4.out.below hb)
    clear hb hnv K4 HR4 HN4 HX4 x0 x1 x2 x3 x4 x5 x6
    obtain ⟨x0, x1, x2, x3, x4, x5, x6⟩ := cells7 HX5.out.h
    have K5 := Lib.hid (bracketed_any ⟨#[40]⟩ ⟨#[41]⟩ [40] [41] (Lib.hid rfl) (Lib.hid rfl) (Lib.hid (by decide)) (Lib.hid (by decide)) HD5.out (Lib.hid (fun y hy => HP.out y (List.mem_of_mem_drop (by rw [← HE5.out]; exact hy)))) HR5.out.pr HR5.out.n)
    go_wp2_with fail
    refine K5.out.mono ?_
    rintro e w6 ⟨rfl, v6, hp, hr⟩
    have HR6 := Lib.hid (HR5.out.step hp.out hr.out)
    have HN6 := Lib.hid (HN5.out.rep HR5.out.n HR5.out.pr hr.out)
    have HX6 := Lib.hid (HX5.out.rep hr.out)
    clear hp hr K5 HR5 HN5 HX5 x0 x1 x2 x3 x4 x5 x6
    obtain ⟨x0, x1, x2, x3, x4, x5, x6⟩ := cells7 HX6.out.h
    go_wp2_with fail
    first | go_end0 | refine bodyPost_ret (results_none rfl _ _ _) rfl ?_
    exact HR6.out.done (by have q := HB.out; simp [postT, tokss_drop, -List.drop_one, q, HE5.out])

set_option maxRecDepth 100000 in
set_option maxHeartbeats 4000000 in
theorem post_30f (hN : NV w n0 m a cap c) (HP : Hid (∀ y, y ∈ c → PT b n0 y)) (h : PrIn w b n0 v0 text) (hn : n0 ≤ w.heap.size) (_htx : tx.length ≤ 1100000) (hB : bareB (kAt c 0) = false) :
    Calls Tryz.prog 212 #[.pointer (some ⟨b, 0, none⟩), nw 30 vl tx st en nm c a cap] w (PW b n0 text (postT 30 tx c (tokss c)) v0 w) := by
  go_enter Tryz.func212, Tryz.ntmps212
  have HR0 := Lib.hid (PrRun.start h hn)
  have HN0 := Lib.hid hN
  go_upto_region 1 with fail
  obtain ⟨w1, hw1⟩ : ∃ w1, w1 = w.alloc (nbx 30 vl tx st en nm c a cap) := ⟨_, rfl⟩
  rw [show World.alloc w _ = w1 from hw1.symm]
  have HR1 : Hid (PrRun b n0 w v0 text [] w1 v0) := by rw [hw1]; exact HR0.out.below (below_box _ _)
  have HX1 : Hid (BoxIn w1 v0 b w.heap.size (nbx 30 vl tx st en nm c a cap)) := by rw [hw1]; exact BoxIn.made h
  have HN1 : Hid (NV w1 n0 m a cap c) := by rw [hw1]; exact HN0.out.below hn (below_box _ _)
  clear hw1 h hN
  obtain ⟨x0, x1, x2, x3, x4, x5, x6⟩ := cells7 HX1.out.h
  have KK1 := kind_any 30 vl tx st en nm c a cap n0 m 0 w1 HN1.out HR1.out.n (by decide)
  have K1 := Lib.hid (KK1)
  go_wp2_with fail
  refine K1.out.mono ?_
  rintro e w2 ⟨rfl, hb⟩
  have HR2 := Lib.hid (HR1.out.below hb)
  have HN2 := Lib.hid (HN1.out.below HR1.out.n hb)
  have HX2 := Lib.hid (HX1.out.below hb)
  clear hb K1 HR1 HN1 HX1 x0 x1 x2 x3 x4 x5 x6
  obtain ⟨x0, x1, x2, x3, x4, x5, x6⟩ := cells7 HX2.out.h
  go_upto_region 4 with fail
  have hbd : Below w2.heap.size w2 w2.drew := (Below.refl _ _).drew
  have HRd := Lib.hid (HR2.out.below hbd)
  have HNd := Lib.hid (HN2.out.below HR2.out.n hbd)
  have HXd := Lib.hid (HX2.out.below hbd)
  have K3 : Hid (∀ bare, Calls Tryz.prog 207 #[.pointer (some ⟨b, 0, none⟩), nw 30 vl tx st en nm c a cap, .int .i64 0, .bool bare] w2.drew (PW b n0 text (groupT c (tokss c) 0 bare) v0 w2.drew)) := fun bare => grouped_any 0 (by decide) bare HNd.out HP HRd.out.pr HRd.out.n
  have K2 : Hid (∀ W, Calls Tryz.prog 241 #[.int .i64 (kAt c 0)] W fun e w' => e = .returned (.bool false) ∧ w' = W) := fun W => by have q := isBare_any (kAt c 0) W; rw [hB] at q; exact q
  have HB := Lib.hid hB
  clear hB KK1
  first | (go_region_with (first
    | (go_at_call 241; refine (K2.out _).mono ?_; rintro e w3 ⟨rfl, rfl⟩)
    | (go_at_call 207; refine (K3.out _).mono ?_; rintro e w4 ⟨rfl, v4, hp4, hr4⟩))) | fail
  all_goals
    have HR4 := Lib.hid (HRd.out.step hp4.out hr4.out)
    have HN4 := Lib.hid (HNd.out.rep HRd.out.n HRd.out.pr hr4.out)
    have HX4 := Lib.hid (HXd.out.rep hr4.out)
    clear hp4 hr4 HRd HNd HXd HR2 HN2 HX2 x0 x1 x2 x3 x4 x5 x6
    obtain ⟨x0, x1, x2, x3, x4, x5, x6⟩ := cells7 HX4.out.h
    have K4 := Lib.hid (from_any 30 vl tx st en nm c a cap n0 m 1 w4 HN4.out HR4.out.n (by decide))
    go_wp2_with fail
    refine K4.out.mono ?_
    rintro e w5 ⟨hb, a5, cap5, m5, rfl, hnv⟩
    obtain ⟨d5, hd⟩ : ∃ d, d = c.drop 1 := ⟨_, rfl⟩
    rw [← hd] at hnv ⊢
    have HE5 := Lib.hid hd
    clear hd
    have HD5 := Lib.hid hnv
    have HR5 := Lib.hid (HR4.out.below hb)
    have HN5 := Lib.hid (HN4.out.below HR4.out.n hb)
    have HX5 := Lib.hid (HX4.out.below hb)
    clear hb hnv K4 HR4 HN4 HX4 x0 x1 x2 x3 x4 x5 x6
    obtain ⟨x0, x1, x2, x3, x4, x5, x6⟩ := cells7 HX5.out.h
    have K5 := Lib.hid (bracketed_any ⟨#[40]⟩ ⟨#[41]⟩ [40] [41] (Lib.hid rfl) (Lib.hid rfl) (Lib.hid (by decide)) (Lib.hid (by decide)) HD5.out (Lib.hid (fun y hy => HP.out y (List.mem_of_mem_drop (by rw [← HE5.out]; exact hy)))) HR5.out.pr HR5.out.n)
    go_wp2_with fail
    refine K5.out.mono ?_
    rintro e w6 ⟨rfl, v6, hp, hr⟩
    have HR6 := Lib.hid (HR5.out.step hp.out hr.out)
    have HN6 := Lib.hid (HN5.out.rep HR5.out.n HR5.out.pr hr.out)
    have HX6 := Lib.hid (HX5.out.rep hr.out)
    clear hp hr K5 HR5 HN5 HX5 x0 x1 x2 x3 x4 x5 x6
    obtain ⟨x0, x1, x2, x3, x4, x5, x6⟩ := cells7 HX6.out.h
    go_wp2_with fail
    first | go_end0 | refine bodyPost_ret (results_none rfl _ _ _) rfl ?_
    exact HR6.out.done (by have q := HB.out; simp [postT, tokss_drop, -List.drop_one, q, HE5.out])

theorem post_30 (hN : NV w n0 m a cap c) (HP : Hid (∀ y, y ∈ c → PT b n0 y)) (h : PrIn w b n0 v0 text) (hn : n0 ≤ w.heap.size) (htx : tx.length ≤ 1100000) :
    Calls Tryz.prog 212 #[.pointer (some ⟨b, 0, none⟩), nw 30 vl tx st en nm c a cap] w (PW b n0 text (postT 30 tx c (tokss c)) v0 w) := by
  cases hB : bareB (kAt c 0) with
  | true => exact post_30t hN HP h hn htx hB
  | false => exact post_30f hN HP h hn htx hB

set_option maxRecDepth 100000 in
set_option maxHeartbeats 4000000 in
theorem post_31 (hN : NV w n0 m a cap c) (HP : Hid (∀ y, y ∈ c → PT b n0 y)) (h : PrIn w b n0 v0 text) (hn : n0 ≤ w.heap.size) (htx : tx.length ≤ 1100000) :
    Calls Tryz.prog 212 #[.pointer (some ⟨b, 0, none⟩), nw 31 vl tx st en nm c a cap] w (PW b n0 text (postT 31 tx c (tokss c)) v0 w) := by
  go_enter Tryz.func212, Tryz.ntmps212
  have HR0 := Lib.hid (PrRun.start h hn)
  have HN0 := Lib.hid hN
  go_upto_region 1 with fail
  obtain ⟨w1, hw1⟩ : ∃ w1, w1 = w.alloc (nbx 31 vl tx st en nm c a cap) := ⟨_, rfl⟩
  rw [show World.alloc w _ = w1 from hw1.symm]
  have HR1 : Hid (PrRun b n0 w v0 text [] w1 v0) := by rw [hw1]; exact HR0.out.below (below_box _ _)
  have HX1 : Hid (BoxIn w1 v0 b w.heap.size (nbx 31 vl tx st en nm c a cap)) := by rw [hw1]; exact BoxIn.made h
  have HN1 : Hid (NV w1 n0 m a cap c) := by rw [hw1]; exact HN0.out.below hn (below_box _ _)
  clear hw1 h hN
  obtain ⟨x0, x1, x2, x3, x4, x5, x6⟩ := cells7 HX1.out.h
  have K1 := Lib.hid (operand_any (kd := 31) (vl := vl) (tx := tx) (st := st) (en := en) (nm := nm) 0 (by decide) HN1.out HP HR1.out.pr HR1.out.n)
  go_wp2_with fail
  refine K1.out.mono ?_
  rintro e w2 ⟨rfl, v2, hp, hr⟩
  have HR2 := Lib.hid (HR1.out.step hp.out hr.out)
  have HN2 := Lib.hid (HN1.out.rep HR1.out.n HR1.out.pr hr.out)
  have HX2 := Lib.hid (HX1.out.rep hr.out)
  clear hp hr K1 HR1 HN1 HX1 x0 x1 x2 x3 x4 x5 x6
  obtain ⟨x0, x1, x2, x3, x4, x5, x6⟩ := cells7 HX2.out.h
  have K2 := Lib.hid (tok2_call HR2.out ⟨#[46]⟩ (Lx.bs tx) [46] tx rfl (Lx.L_bs tx) (by decide) (by rw [Lx.bs_size]; omega))
  go_wp2_with fail
  refine K2.out.mono ?_
  rintro e w3 ⟨rfl, v3, hp, hr⟩
  have HR3 := Lib.hid (HR2.out.step hp.out hr.out)
  have HN3 := Lib.hid (HN2.out.rep HR2.out.n HR2.out.pr hr.out)
  have HX3 := Lib.hid (HX2.out.rep hr.out)
  clear hp hr K2 HR2 HN2 HX2 x0 x1 x2 x3 x4 x5 x6
  obtain ⟨x0, x1, x2, x3, x4, x5, x6⟩ := cells7 HX3.out.h
  have K3 := Lib.hid (from_any 31 vl tx st en nm c a cap n0 m 1 w3 HN3.out HR3.out.n (by decide))
  go_wp2_with fail
  refine K3.out.mono ?_
  rintro e w4 ⟨hb, a4, cap4, m4, rfl, hnv⟩
  obtain ⟨d4, hd⟩ : ∃ d, d = c.drop 1 := ⟨_, rfl⟩
  rw [← hd] at hnv ⊢
  have HE4 := Lib.hid hd
  clear hd
  have HD4 := Lib.hid hnv
  have HR4 := Lib.hid (HR3.out.below hb)
  have HN4 := Lib.hid (HN3.out.below HR3.out.n hb)
  have HX4 := Lib.hid (HX3.out.below hb)
  clear hb hnv K3 HR3 HN3 HX3 x0 x1 x2 x3 x4 x5 x6
  obtain ⟨x0, x1, x2, x3, x4, x5, x6⟩ := cells7 HX4.out.h
  have K4 := Lib.hid (bracketed_any ⟨#[40]⟩ ⟨#[41]⟩ [40] [41] (Lib.hid rfl) (Lib.hid rfl) (Lib.hid (by decide)) (Lib.hid (by decide)) HD4.out (Lib.hid (fun y hy => HP.out y (List.mem_of_mem_drop (by rw [← HE4.out]; exact hy)))) HR4.out.pr HR4.out.n)
  go_wp2_with fail
  refine K4.out.mono ?_
  rintro e w5 ⟨rfl, v5, hp, hr⟩
  have HR5 := Lib.hid (HR4.out.step hp.out hr.out)
  have HN5 := Lib.hid (HN4.out.rep HR4.out.n HR4.out.pr hr.out)
  have HX5 := Lib.hid (HX4.out.rep hr.out)
  clear hp hr K4 HR4 HN4 HX4 x0 x1 x2 x3 x4 x5 x6
  obtain ⟨x0, x1, x2, x3, x4, x5, x6⟩ := cells7 HX5.out.h
  go_wp2_with fail
  first | go_end0 | refine bodyPost_ret (results_none rfl _ _ _) rfl ?_
  exact HR5.out.done (by simp [postT, tokss_drop, -List.drop_one, HE4.out])

set_option maxRecDepth 100000 in
set_option maxHeartbeats 4000000 in
theorem post_32 (hN : NV w n0 m a cap c) (HP : Hid (∀ y, y ∈ c → PT b n0 y)) (h : PrIn w b n0 v0 text) (hn : n0 ≤ w.heap.size) (htx : tx.length ≤ 1100000) :
    Calls Tryz.prog 212 #[.pointer (some ⟨b, 0, none⟩), nw 32 vl tx st en nm c a cap] w (PW b n0 text (postT 32 tx c (tokss c)) v0 w) := by
  go_enter Tryz.func212, Tryz.ntmps212
  have HR0 := Lib.hid (PrRun.start h hn)
  have HN0 := Lib.hid hN
  go_upto_region 1 with fail
  obtain ⟨w1, hw1⟩ : ∃ w1, w1 = w.alloc (nbx 32 vl tx st en nm c a cap) := ⟨_, rfl⟩
  rw [show World.alloc w _ = w1 from hw1.symm]
  have HR1 : Hid (PrRun b n0 w v0 text [] w1 v0) := by rw [hw1]; exact HR0.out.below (below_box _ _)
  have HX1 : Hid (BoxIn w1 v0 b w.heap.size (nbx 32 vl tx st en nm c a cap)) := by rw [hw1]; exact BoxIn.made h
  have HN1 : Hid (NV w1 n0 m a cap c) := by rw [hw1]; exact HN0.out.below hn (below_box _ _)
  clear hw1 h hN
  obtain ⟨x0, x1, x2, x3, x4, x5, x6⟩ := cells7 HX1.out.h
  have K1 := Lib.hid (operand_any (kd := 32) (vl := vl) (tx := tx) (st := st) (en := en) (nm := nm) 0 (by decide) HN1.out HP HR1.out.pr HR1.out.n)
  go_wp2_with fail
  refine K1.out.mono ?_
  rintro e w2 ⟨rfl, v2, hp, hr⟩
  have HR2 := Lib.hid (HR1.out.step hp.out hr.out)
  have HN2 := Lib.hid (HN1.out.rep HR1.out.n HR1.out.pr hr.out)
  have HX2 := Lib.hid (HX1.out.rep hr.out)
  clear hp hr K1 HR1 HN1 HX1 x0 x1 x2 x3 x4 x5 x6
  obtain ⟨x0, x1, x2, x3, x4, x5, x6⟩ := cells7 HX2.out.h
  have K2 := Lib.hid (tok2_call HR2.out ⟨#[46]⟩ (Lx.bs tx) [46] tx rfl (Lx.L_bs tx) (by decide) (by rw [Lx.bs_size]; omega))
  go_wp2_with fail
  refine K2.out.mono ?_
  rintro e w3 ⟨rfl, v3, hp, hr⟩
  have HR3 := Lib.hid (HR2.out.step hp.out hr.out)
  have HN3 := Lib.hid (HN2.out.rep HR2.out.n HR2.out.pr hr.out)
  have HX3 := Lib.hid (HX2.out.rep hr.out)
  clear hp hr K2 HR2 HN2 HX2 x0 x1 x2 x3 x4 x5 x6
  obtain ⟨x0, x1, x2, x3, x4, x5, x6⟩ := cells7 HX3.out.h
  go_wp2_with fail
  first | go_end0 | refine bodyPost_ret (results_none rfl _ _ _) rfl ?_
  exact HR3.out.done (by simp [postT])

set_option maxRecDepth 100000 in
set_option maxHeartbeats 4000000 in
theorem post_42 (hN : NV w n0 m a cap c) (HP : Hid (∀ y, y ∈ c → PT b n0 y)) (h : PrIn w b n0 v0 text) (hn : n0 ≤ w.heap.size) (_htx : tx.length ≤ 1100000) :
    Calls Tryz.prog 212 #[.pointer (some ⟨b, 0, none⟩), nw 42 vl tx st en nm c a cap] w (PW b n0 text (postT 42 tx c (tokss c)) v0 w) := by
  go_enter Tryz.func212, Tryz.ntmps212
  have HR0 := Lib.hid (PrRun.start h hn)
  have HN0 := Lib.hid hN
  go_upto_region 1 with fail
  obtain ⟨w1, hw1⟩ : ∃ w1, w1 = w.alloc (nbx 42 vl tx st en nm c a cap) := ⟨_, rfl⟩
  rw [show World.alloc w _ = w1 from hw1.symm]
  have HR1 : Hid (PrRun b n0 w v0 text [] w1 v0) := by rw [hw1]; exact HR0.out.below (below_box _ _)
  have HX1 : Hid (BoxIn w1 v0 b w.heap.size (nbx 42 vl tx st en nm c a cap)) := by rw [hw1]; exact BoxIn.made h
  have HN1 : Hid (NV w1 n0 m a cap c) := by rw [hw1]; exact HN0.out.below hn (below_box _ _)
  clear hw1 h hN
  obtain ⟨x0, x1, x2, x3, x4, x5, x6⟩ := cells7 HX1.out.h
  have K1 := Lib.hid (part_any (kd := 42) (vl := vl) (tx := tx) (st := st) (en := en) (nm := nm) 0 (by decide) HN1.out HP HR1.out.pr HR1.out.n)
  go_wp2_with fail
  refine K1.out.mono ?_
  rintro e w2 ⟨rfl, v2, hp, hr⟩
  have HR2 := Lib.hid (HR1.out.step hp.out hr.out)
  have HN2 := Lib.hid (HN1.out.rep HR1.out.n HR1.out.pr hr.out)
  have HX2 := Lib.hid (HX1.out.rep hr.out)
  clear hp hr K1 HR1 HN1 HX1 x0 x1 x2 x3 x4 x5 x6
  obtain ⟨x0, x1, x2, x3, x4, x5, x6⟩ := cells7 HX2.out.h
  have K2 := Lib.hid (tok1_call HR2.out ⟨#[33]⟩ [33] rfl (by decide))
  go_wp2_with fail
  refine K2.out.mono ?_
  rintro e w3 ⟨rfl, v3, hp, hr⟩
  have HR3 := Lib.hid (HR2.out.step hp.out hr.out)
  have HN3 := Lib.hid (HN2.out.rep HR2.out.n HR2.out.pr hr.out)
  have HX3 := Lib.hid (HX2.out.rep hr.out)
  clear hp hr K2 HR2 HN2 HX2 x0 x1 x2 x3 x4 x5 x6
  obtain ⟨x0, x1, x2, x3, x4, x5, x6⟩ := cells7 HX3.out.h
  have K3 := Lib.hid (from_any 42 vl tx st en nm c a cap n0 m 1 w3 HN3.out HR3.out.n (by decide))
  go_wp2_with fail
  refine K3.out.mono ?_
  rintro e w4 ⟨hb, a4, cap4, m4, rfl, hnv⟩
  obtain ⟨d4, hd⟩ : ∃ d, d = c.drop 1 := ⟨_, rfl⟩
  rw [← hd] at hnv ⊢
  have HE4 := Lib.hid hd
  clear hd
  have HD4 := Lib.hid hnv
  have HR4 := Lib.hid (HR3.out.below hb)
  have HN4 := Lib.hid (HN3.out.below HR3.out.n hb)
  have HX4 := Lib.hid (HX3.out.below hb)
  clear hb hnv K3 HR3 HN3 HX3 x0 x1 x2 x3 x4 x5 x6
  obtain ⟨x0, x1, x2, x3, x4, x5, x6⟩ := cells7 HX4.out.h
  have K4 := Lib.hid (bracketed_any ⟨#[40]⟩ ⟨#[41]⟩ [40] [41] (Lib.hid rfl) (Lib.hid rfl) (Lib.hid (by decide)) (Lib.hid (by decide)) HD4.out (Lib.hid (fun y hy => HP.out y (List.mem_of_mem_drop (by rw [← HE4.out]; exact hy)))) HR4.out.pr HR4.out.n)
  go_wp2_with fail
  refine K4.out.mono ?_
  rintro e w5 ⟨rfl, v5, hp, hr⟩
  have HR5 := Lib.hid (HR4.out.step hp.out hr.out)
  have HN5 := Lib.hid (HN4.out.rep HR4.out.n HR4.out.pr hr.out)
  have HX5 := Lib.hid (HX4.out.rep hr.out)
  clear hp hr K4 HR4 HN4 HX4 x0 x1 x2 x3 x4 x5 x6
  obtain ⟨x0, x1, x2, x3, x4, x5, x6⟩ := cells7 HX5.out.h
  go_wp2_with fail
  first | go_end0 | refine bodyPost_ret (results_none rfl _ _ _) rfl ?_
  exact HR5.out.done (by simp [postT, tokss_drop, -List.drop_one, HE4.out])

end
end Go.Proofs.YtcpojagfnpajeaaGreatDoorR.Ps

namespace Go.Proofs.YtcpojagfnpajeaaGreatDoorR.Ps
open Go.RowKit

section
variable {b n0 m : Nat} {kd vl : Int} {tx : List UInt8} {st en nm : Int} {c : List Nd} {a : Option Addr} {cap : Nat} {w : World} {v0 : Value} {text : List UInt8}

set_option maxRecDepth 100000 in
set_option maxHeartbeats 4000000 in
theorem expr_30 (hN : NV w n0 m a cap c) (HP : Hid (∀ y, y ∈ c → PT b n0 y)) (h : PrIn w b n0 v0 text) (hn : n0 ≤ w.heap.size) (htx : tx.length ≤ 1100000) :
    Calls Tryz.prog 150 #[.pointer (some ⟨b, 0, none⟩), nw 30 vl tx st en nm c a cap] w (PW b n0 text (exprT 30 vl tx c (tokss c)) v0 w) := by
  go_enter Tryz.func150, Tryz.ntmps150
  have HR0 := Lib.hid (PrRun.start h hn)
  have HN0 := Lib.hid hN
  go_upto_region 1 with fail
  obtain ⟨w1, hw1⟩ : ∃ w1, w1 = w.alloc (nbx 30 vl tx st en nm c a cap) := ⟨_, rfl⟩
  rw [show World.alloc w _ = w1 from hw1.symm]
  have HR1 : Hid (PrRun b n0 w v0 text [] w1 v0) := by rw [hw1]; exact HR0.out.below (below_box _ _)
  have HX1 : Hid (BoxIn w1 v0 b w.heap.size (nbx 30 vl tx st en nm c a cap)) := by rw [hw1]; exact BoxIn.made h
  have HN1 : Hid (NV w1 n0 m a cap c) := by rw [hw1]; exact HN0.out.below hn (below_box _ _)
  clear hw1 h hN
  obtain ⟨x0, x1, x2, x3, x4, x5, x6⟩ := cells7 HX1.out.h
  have K1 := Lib.hid (post_30 (vl := vl) (tx := tx) (st := st) (en := en) (nm := nm) HN1.out HP HR1.out.pr HR1.out.n htx)
  go_wp2_with fail
  refine K1.out.mono ?_
  rintro e w2 ⟨rfl, v2, hp, hr⟩
  have HR2 := Lib.hid (HR1.out.step hp.out hr.out)
  have HN2 := Lib.hid (HN1.out.rep HR1.out.n HR1.out.pr hr.out)
  have HX2 := Lib.hid (HX1.out.rep hr.out)
  clear hp hr K1 HR1 HN1 HX1 x0 x1 x2 x3 x4 x5 x6
  obtain ⟨x0, x1, x2, x3, x4, x5, x6⟩ := cells7 HX2.out.h
  go_wp2_with fail
  first | go_end0 | refine bodyPost_ret (results_none rfl _ _ _) rfl ?_
  exact HR2.out.done (by simp [exprT])

set_option maxRecDepth 100000 in
set_option maxHeartbeats 4000000 in
theorem expr_31 (hN : NV w n0 m a cap c) (HP : Hid (∀ y, y ∈ c → PT b n0 y)) (h : PrIn w b n0 v0 text) (hn : n0 ≤ w.heap.size) (htx : tx.length ≤ 1100000) :
    Calls Tryz.prog 150 #[.pointer (some ⟨b, 0, none⟩), nw 31 vl tx st en nm c a cap] w (PW b n0 text (exprT 31 vl tx c (tokss c)) v0 w) := by
  go_enter Tryz.func150, Tryz.ntmps150
  have HR0 := Lib.hid (PrRun.start h hn)
  have HN0 := Lib.hid hN
  go_upto_region 1 with fail
  obtain ⟨w1, hw1⟩ : ∃ w1, w1 = w.alloc (nbx 31 vl tx st en nm c a cap) := ⟨_, rfl⟩
  rw [show World.alloc w _ = w1 from hw1.symm]
  have HR1 : Hid (PrRun b n0 w v0 text [] w1 v0) := by rw [hw1]; exact HR0.out.below (below_box _ _)
  have HX1 : Hid (BoxIn w1 v0 b w.heap.size (nbx 31 vl tx st en nm c a cap)) := by rw [hw1]; exact BoxIn.made h
  have HN1 : Hid (NV w1 n0 m a cap c) := by rw [hw1]; exact HN0.out.below hn (below_box _ _)
  clear hw1 h hN
  obtain ⟨x0, x1, x2, x3, x4, x5, x6⟩ := cells7 HX1.out.h
  have K1 := Lib.hid (post_31 (vl := vl) (tx := tx) (st := st) (en := en) (nm := nm) HN1.out HP HR1.out.pr HR1.out.n htx)
  go_wp2_with fail
  refine K1.out.mono ?_
  rintro e w2 ⟨rfl, v2, hp, hr⟩
  have HR2 := Lib.hid (HR1.out.step hp.out hr.out)
  have HN2 := Lib.hid (HN1.out.rep HR1.out.n HR1.out.pr hr.out)
  have HX2 := Lib.hid (HX1.out.rep hr.out)
  clear hp hr K1 HR1 HN1 HX1 x0 x1 x2 x3 x4 x5 x6
  obtain ⟨x0, x1, x2, x3, x4, x5, x6⟩ := cells7 HX2.out.h
  go_wp2_with fail
  first | go_end0 | refine bodyPost_ret (results_none rfl _ _ _) rfl ?_
  exact HR2.out.done (by simp [exprT])

set_option maxRecDepth 100000 in
set_option maxHeartbeats 4000000 in
theorem expr_32 (hN : NV w n0 m a cap c) (HP : Hid (∀ y, y ∈ c → PT b n0 y)) (h : PrIn w b n0 v0 text) (hn : n0 ≤ w.heap.size) (htx : tx.length ≤ 1100000) :
    Calls Tryz.prog 150 #[.pointer (some ⟨b, 0, none⟩), nw 32 vl tx st en nm c a cap] w (PW b n0 text (exprT 32 vl tx c (tokss c)) v0 w) := by
  go_enter Tryz.func150, Tryz.ntmps150
  have HR0 := Lib.hid (PrRun.start h hn)
  have HN0 := Lib.hid hN
  go_upto_region 1 with fail
  obtain ⟨w1, hw1⟩ : ∃ w1, w1 = w.alloc (nbx 32 vl tx st en nm c a cap) := ⟨_, rfl⟩
  rw [show World.alloc w _ = w1 from hw1.symm]
  have HR1 : Hid (PrRun b n0 w v0 text [] w1 v0) := by rw [hw1]; exact HR0.out.below (below_box _ _)
  have HX1 : Hid (BoxIn w1 v0 b w.heap.size (nbx 32 vl tx st en nm c a cap)) := by rw [hw1]; exact BoxIn.made h
  have HN1 : Hid (NV w1 n0 m a cap c) := by rw [hw1]; exact HN0.out.below hn (below_box _ _)
  clear hw1 h hN
  obtain ⟨x0, x1, x2, x3, x4, x5, x6⟩ := cells7 HX1.out.h
  have K1 := Lib.hid (post_32 (vl := vl) (tx := tx) (st := st) (en := en) (nm := nm) HN1.out HP HR1.out.pr HR1.out.n htx)
  go_wp2_with fail
  refine K1.out.mono ?_
  rintro e w2 ⟨rfl, v2, hp, hr⟩
  have HR2 := Lib.hid (HR1.out.step hp.out hr.out)
  have HN2 := Lib.hid (HN1.out.rep HR1.out.n HR1.out.pr hr.out)
  have HX2 := Lib.hid (HX1.out.rep hr.out)
  clear hp hr K1 HR1 HN1 HX1 x0 x1 x2 x3 x4 x5 x6
  obtain ⟨x0, x1, x2, x3, x4, x5, x6⟩ := cells7 HX2.out.h
  go_wp2_with fail
  first | go_end0 | refine bodyPost_ret (results_none rfl _ _ _) rfl ?_
  exact HR2.out.done (by simp [exprT])

set_option maxRecDepth 100000 in
set_option maxHeartbeats 4000000 in
theorem expr_42 (hN : NV w n0 m a cap c) (HP : Hid (∀ y, y ∈ c → PT b n0 y)) (h : PrIn w b n0 v0 text) (hn : n0 ≤ w.heap.size) (htx : tx.length ≤ 1100000) :
    Calls Tryz.prog 150 #[.pointer (some ⟨b, 0, none⟩), nw 42 vl tx st en nm c a cap] w (PW b n0 text (exprT 42 vl tx c (tokss c)) v0 w) := by
  go_enter Tryz.func150, Tryz.ntmps150
  have HR0 := Lib.hid (PrRun.start h hn)
  have HN0 := Lib.hid hN
  go_upto_region 1 with fail
  obtain ⟨w1, hw1⟩ : ∃ w1, w1 = w.alloc (nbx 42 vl tx st en nm c a cap) := ⟨_, rfl⟩
  rw [show World.alloc w _ = w1 from hw1.symm]
  have HR1 : Hid (PrRun b n0 w v0 text [] w1 v0) := by rw [hw1]; exact HR0.out.below (below_box _ _)
  have HX1 : Hid (BoxIn w1 v0 b w.heap.size (nbx 42 vl tx st en nm c a cap)) := by rw [hw1]; exact BoxIn.made h
  have HN1 : Hid (NV w1 n0 m a cap c) := by rw [hw1]; exact HN0.out.below hn (below_box _ _)
  clear hw1 h hN
  obtain ⟨x0, x1, x2, x3, x4, x5, x6⟩ := cells7 HX1.out.h
  have K1 := Lib.hid (post_42 (vl := vl) (tx := tx) (st := st) (en := en) (nm := nm) HN1.out HP HR1.out.pr HR1.out.n htx)
  go_wp2_with fail
  refine K1.out.mono ?_
  rintro e w2 ⟨rfl, v2, hp, hr⟩
  have HR2 := Lib.hid (HR1.out.step hp.out hr.out)
  have HN2 := Lib.hid (HN1.out.rep HR1.out.n HR1.out.pr hr.out)
  have HX2 := Lib.hid (HX1.out.rep hr.out)
  clear hp hr K1 HR1 HN1 HX1 x0 x1 x2 x3 x4 x5 x6
  obtain ⟨x0, x1, x2, x3, x4, x5, x6⟩ := cells7 HX2.out.h
  go_wp2_with fail
  first | go_end0 | refine bodyPost_ret (results_none rfl _ _ _) rfl ?_
  exact HR2.out.done (by simp [exprT])

set_option maxRecDepth 100000 in
set_option maxHeartbeats 4000000 in
theorem expr_27 (hN : NV w n0 m a cap c) (_HP : Hid (∀ y, y ∈ c → PT b n0 y)) (h : PrIn w b n0 v0 text) (hn : n0 ≤ w.heap.size) (_htx : tx.length ≤ 1100000) (hvl : I64 vl) :
    Calls Tryz.prog 150 #[.pointer (some ⟨b, 0, none⟩), nw 27 vl tx st en nm c a cap] w (PW b n0 text (exprT 27 vl tx c (tokss c)) v0 w) := by
  go_enter Tryz.func150, Tryz.ntmps150
  have HR0 := Lib.hid (PrRun.start h hn)
  have HN0 := Lib.hid hN
  go_upto_region 1 with fail
  obtain ⟨w1, hw1⟩ : ∃ w1, w1 = w.alloc (nbx 27 vl tx st en nm c a cap) := ⟨_, rfl⟩
  rw [show World.alloc w _ = w1 from hw1.symm]
  have HR1 : Hid (PrRun b n0 w v0 text [] w1 v0) := by rw [hw1]; exact HR0.out.below (below_box _ _)
  have HX1 : Hid (BoxIn w1 v0 b w.heap.size (nbx 27 vl tx st en nm c a cap)) := by rw [hw1]; exact BoxIn.made h
  have HN1 : Hid (NV w1 n0 m a cap c) := by rw [hw1]; exact HN0.out.below hn (below_box _ _)
  clear hw1 h hN
  obtain ⟨x0, x1, x2, x3, x4, x5, x6⟩ := cells7 HX1.out.h
  have K1 := Lib.hid (itoa_any vl w1 hvl HN1.out.tab)
  go_wp2_with fail
  refine K1.out.mono ?_
  rintro e w2 ⟨rfl, hb⟩
  have HR2 := Lib.hid (HR1.out.below hb)
  have HN2 := Lib.hid (HN1.out.below HR1.out.n hb)
  have HX2 := Lib.hid (HX1.out.below hb)
  clear hb K1 HR1 HN1 HX1 x0 x1 x2 x3 x4 x5 x6
  obtain ⟨x0, x1, x2, x3, x4, x5, x6⟩ := cells7 HX2.out.h
  have K2 := Lib.hid (tok1_call HR2.out (Lx.bs (Lib.itoa vl)) (Lib.itoa vl) (Lx.L_bs _) (by have := Lib.itoa_length_le vl hvl.1 hvl.2; rw [Lx.bs_size]; omega))
  go_wp2_with fail
  refine K2.out.mono ?_
  rintro e w3 ⟨rfl, v3, hp, hr⟩
  have HR3 := Lib.hid (HR2.out.step hp.out hr.out)
  have HN3 := Lib.hid (HN2.out.rep HR2.out.n HR2.out.pr hr.out)
  have HX3 := Lib.hid (HX2.out.rep hr.out)
  clear hp hr K2 HR2 HN2 HX2 x0 x1 x2 x3 x4 x5 x6
  obtain ⟨x0, x1, x2, x3, x4, x5, x6⟩ := cells7 HX3.out.h
  go_wp2_with fail
  first | go_end0 | refine bodyPost_ret (results_none rfl _ _ _) rfl ?_
  exact HR3.out.done (by simp [exprT])

set_option maxRecDepth 100000 in
set_option maxHeartbeats 4000000 in
theorem expr_28 (hN : NV w n0 m a cap c) (_HP : Hid (∀ y, y ∈ c → PT b n0 y)) (h : PrIn w b n0 v0 text) (hn : n0 ≤ w.heap.size) (_htx : tx.length ≤ 1100000) :
    Calls Tryz.prog 150 #[.pointer (some ⟨b, 0, none⟩), nw 28 vl tx st en nm c a cap] w (PW b n0 text (exprT 28 vl tx c (tokss c)) v0 w) := by
  by_cases hz : vl = 0
  · subst hz
    go_enter Tryz.func150, Tryz.ntmps150
    have HR0 := Lib.hid (PrRun.start h hn)
    have HN0 := Lib.hid hN
    go_upto_region 1 with fail
    obtain ⟨w1, hw1⟩ : ∃ w1, w1 = w.alloc (nbx 28 0 tx st en nm c a cap) := ⟨_, rfl⟩
    rw [show World.alloc w _ = w1 from hw1.symm]
    have HR1 : Hid (PrRun b n0 w v0 text [] w1 v0) := by rw [hw1]; exact HR0.out.below (below_box _ _)
    have HX1 : Hid (BoxIn w1 v0 b w.heap.size (nbx 28 0 tx st en nm c a cap)) := by rw [hw1]; exact BoxIn.made h
    have HN1 : Hid (NV w1 n0 m a cap c) := by rw [hw1]; exact HN0.out.below hn (below_box _ _)
    clear hw1 h hN
    obtain ⟨x0, x1, x2, x3, x4, x5, x6⟩ := cells7 HX1.out.h
    have K1 := Lib.hid (fbool_any false w1)
    go_wp2_with fail
    refine K1.out.mono ?_
    rintro e w2 ⟨rfl, rfl⟩
    clear K1
    have HR2 := HR1
    have HN2 := HN1
    have HX2 := HX1
    have K2 := Lib.hid (tok1_call HR2.out (Lx.bs [102, 97, 108, 115, 101]) [102, 97, 108, 115, 101] (Lx.L_bs _) (by decide))
    go_wp2_with fail
    refine K2.out.mono ?_
    rintro e w3 ⟨rfl, v3, hp, hr⟩
    have HR3 := Lib.hid (HR2.out.step hp.out hr.out)
    have HN3 := Lib.hid (HN2.out.rep HR2.out.n HR2.out.pr hr.out)
    have HX3 := Lib.hid (HX2.out.rep hr.out)
    clear hp hr K2 HR2 HN2 HX2 x0 x1 x2 x3 x4 x5 x6
    obtain ⟨x0, x1, x2, x3, x4, x5, x6⟩ := cells7 HX3.out.h
    go_wp2_with fail
    first | go_end0 | refine bodyPost_ret (results_none rfl _ _ _) rfl ?_
    exact HR3.out.done (by simp [exprT])
  · have hb : (vl != 0) = true := by simpa using hz
    have HZ := Lib.hid hz
    clear hz
    go_enter Tryz.func150, Tryz.ntmps150
    have HR0 := Lib.hid (PrRun.start h hn)
    have HN0 := Lib.hid hN
    go_upto_region 1 with fail
    obtain ⟨w1, hw1⟩ : ∃ w1, w1 = w.alloc (nbx 28 vl tx st en nm c a cap) := ⟨_, rfl⟩
    rw [show World.alloc w _ = w1 from hw1.symm]
    have HR1 : Hid (PrRun b n0 w v0 text [] w1 v0) := by rw [hw1]; exact HR0.out.below (below_box _ _)
    have HX1 : Hid (BoxIn w1 v0 b w.heap.size (nbx 28 vl tx st en nm c a cap)) := by rw [hw1]; exact BoxIn.made h
    have HN1 : Hid (NV w1 n0 m a cap c) := by rw [hw1]; exact HN0.out.below hn (below_box _ _)
    clear hw1 h hN
    obtain ⟨x0, x1, x2, x3, x4, x5, x6⟩ := cells7 HX1.out.h
    have K1 := Lib.hid (fbool_any true w1)
    go_wp2_with fail
    refine K1.out.mono ?_
    rintro e w2 ⟨rfl, rfl⟩
    clear K1
    have HR2 := HR1
    have HN2 := HN1
    have HX2 := HX1
    have K2 := Lib.hid (tok1_call HR2.out (Lx.bs [116, 114, 117, 101]) [116, 114, 117, 101] (Lx.L_bs _) (by decide))
    go_wp2_with fail
    refine K2.out.mono ?_
    rintro e w3 ⟨rfl, v3, hp, hr⟩
    have HR3 := Lib.hid (HR2.out.step hp.out hr.out)
    have HN3 := Lib.hid (HN2.out.rep HR2.out.n HR2.out.pr hr.out)
    have HX3 := Lib.hid (HX2.out.rep hr.out)
    clear hp hr K2 HR2 HN2 HX2 x0 x1 x2 x3 x4 x5 x6
    obtain ⟨x0, x1, x2, x3, x4, x5, x6⟩ := cells7 HX3.out.h
    go_wp2_with fail
    first | go_end0 | refine bodyPost_ret (results_none rfl _ _ _) rfl ?_
    exact HR3.out.done (by have q := HZ.out; simp [exprT, q])

set_option maxRecDepth 100000 in
set_option maxHeartbeats 4000000 in
theorem expr_29 (hN : NV w n0 m a cap c) (_HP : Hid (∀ y, y ∈ c → PT b n0 y)) (h : PrIn w b n0 v0 text) (hn : n0 ≤ w.heap.size) (htx : tx.length ≤ 1100000) :
    Calls Tryz.prog 150 #[.pointer (some ⟨b, 0, none⟩), nw 29 vl tx st en nm c a cap] w (PW b n0 text (exprT 29 vl tx c (tokss c)) v0 w) := by
  go_enter Tryz.func150, Tryz.ntmps150
  have HR0 := Lib.hid (PrRun.start h hn)
  have HN0 := Lib.hid hN
  go_upto_region 1 with fail
  obtain ⟨w1, hw1⟩ : ∃ w1, w1 = w.alloc (nbx 29 vl tx st en nm c a cap) := ⟨_, rfl⟩
  rw [show World.alloc w _ = w1 from hw1.symm]
  have HR1 : Hid (PrRun b n0 w v0 text [] w1 v0) := by rw [hw1]; exact HR0.out.below (below_box _ _)
  have HX1 : Hid (BoxIn w1 v0 b w.heap.size (nbx 29 vl tx st en nm c a cap)) := by rw [hw1]; exact BoxIn.made h
  have HN1 : Hid (NV w1 n0 m a cap c) := by rw [hw1]; exact HN0.out.below hn (below_box _ _)
  clear hw1 h hN
  obtain ⟨x0, x1, x2, x3, x4, x5, x6⟩ := cells7 HX1.out.h
  have KK1 := quote_any (Lx.bs tx) w1 (by rw [Lx.bs_size]; exact htx)
  rw [Lx.L_bs] at KK1
  have K1 := Lib.hid (KK1)
  go_wp2_with fail
  refine K1.out.mono ?_
  rintro e w2 ⟨rfl, hb⟩
  have HR2 := Lib.hid (HR1.out.below hb)
  have HN2 := Lib.hid (HN1.out.below HR1.out.n hb)
  have HX2 := Lib.hid (HX1.out.below hb)
  clear hb K1 HR1 HN1 HX1 x0 x1 x2 x3 x4 x5 x6
  obtain ⟨x0, x1, x2, x3, x4, x5, x6⟩ := cells7 HX2.out.h
  have K2 := Lib.hid (tok1_call HR2.out (Lx.bs (quoteS tx)) (quoteS tx) (Lx.L_bs _) (by have := quoteS_len tx; rw [Lx.bs_size]; omega))
  go_wp2_with fail
  refine K2.out.mono ?_
  rintro e w3 ⟨rfl, v3, hp, hr⟩
  have HR3 := Lib.hid (HR2.out.step hp.out hr.out)
  have HN3 := Lib.hid (HN2.out.rep HR2.out.n HR2.out.pr hr.out)
  have HX3 := Lib.hid (HX2.out.rep hr.out)
  clear hp hr K2 HR2 HN2 HX2 x0 x1 x2 x3 x4 x5 x6
  obtain ⟨x0, x1, x2, x3, x4, x5, x6⟩ := cells7 HX3.out.h
  go_wp2_with fail
  first | go_end0 | refine bodyPost_ret (results_none rfl _ _ _) rfl ?_
  exact HR3.out.done (by simp [exprT])

set_option maxRecDepth 100000 in
set_option maxHeartbeats 4000000 in
theorem pat_43 (hN : NV w n0 m a cap c) (_HP : Hid (∀ y, y ∈ c → PT b n0 y)) (h : PrIn w b n0 v0 text) (hn : n0 ≤ w.heap.size) (_htx : tx.length ≤ 1100000) :
    Calls Tryz.prog 151 #[.pointer (some ⟨b, 0, none⟩), nw 43 vl tx st en nm c a cap] w (PW b n0 text (patT 43 vl tx c (tokss c)) v0 w) := by
  go_enter Tryz.func151, Tryz.ntmps151
  have HR0 := Lib.hid (PrRun.start h hn)
  have HN0 := Lib.hid hN
  go_upto_region 1 with fail
  obtain ⟨w1, hw1⟩ : ∃ w1, w1 = w.alloc (nbx 43 vl tx st en nm c a cap) := ⟨_, rfl⟩
  rw [show World.alloc w _ = w1 from hw1.symm]
  have HR1 : Hid (PrRun b n0 w v0 text [] w1 v0) := by rw [hw1]; exact HR0.out.below (below_box _ _)
  have HX1 : Hid (BoxIn w1 v0 b w.heap.size (nbx 43 vl tx st en nm c a cap)) := by rw [hw1]; exact BoxIn.made h
  have HN1 : Hid (NV w1 n0 m a cap c) := by rw [hw1]; exact HN0.out.below hn (below_box _ _)
  clear hw1 h hN
  obtain ⟨x0, x1, x2, x3, x4, x5, x6⟩ := cells7 HX1.out.h
  have K1 := Lib.hid (tok1_call HR1.out ⟨#[95]⟩ [95] rfl (by decide))
  go_wp2_with fail
  refine K1.out.mono ?_
  rintro e w2 ⟨rfl, v2, hp, hr⟩
  have HR2 := Lib.hid (HR1.out.step hp.out hr.out)
  have HN2 := Lib.hid (HN1.out.rep HR1.out.n HR1.out.pr hr.out)
  have HX2 := Lib.hid (HX1.out.rep hr.out)
  clear hp hr K1 HR1 HN1 HX1 x0 x1 x2 x3 x4 x5 x6
  obtain ⟨x0, x1, x2, x3, x4, x5, x6⟩ := cells7 HX2.out.h
  go_wp2_with fail
  first | go_end0 | refine bodyPost_ret (results_none rfl _ _ _) rfl ?_
  exact HR2.out.done (by simp [patT])

set_option maxRecDepth 100000 in
set_option maxHeartbeats 4000000 in
theorem pat_44 (hN : NV w n0 m a cap c) (_HP : Hid (∀ y, y ∈ c → PT b n0 y)) (h : PrIn w b n0 v0 text) (hn : n0 ≤ w.heap.size) (htx : tx.length ≤ 1100000) :
    Calls Tryz.prog 151 #[.pointer (some ⟨b, 0, none⟩), nw 44 vl tx st en nm c a cap] w (PW b n0 text (patT 44 vl tx c (tokss c)) v0 w) := by
  go_enter Tryz.func151, Tryz.ntmps151
  have HR0 := Lib.hid (PrRun.start h hn)
  have HN0 := Lib.hid hN
  go_upto_region 1 with fail
  obtain ⟨w1, hw1⟩ : ∃ w1, w1 = w.alloc (nbx 44 vl tx st en nm c a cap) := ⟨_, rfl⟩
  rw [show World.alloc w _ = w1 from hw1.symm]
  have HR1 : Hid (PrRun b n0 w v0 text [] w1 v0) := by rw [hw1]; exact HR0.out.below (below_box _ _)
  have HX1 : Hid (BoxIn w1 v0 b w.heap.size (nbx 44 vl tx st en nm c a cap)) := by rw [hw1]; exact BoxIn.made h
  have HN1 : Hid (NV w1 n0 m a cap c) := by rw [hw1]; exact HN0.out.below hn (below_box _ _)
  clear hw1 h hN
  obtain ⟨x0, x1, x2, x3, x4, x5, x6⟩ := cells7 HX1.out.h
  have K1 := Lib.hid (mutable_any (kd := 44) (vl := vl) (tx := tx) (st := st) (en := en) (nm := nm)  HN1.out HR1.out.pr HR1.out.n)
  go_wp2_with fail
  refine K1.out.mono ?_
  rintro e w2 ⟨rfl, v2, hp, hr⟩
  have HR2 := Lib.hid (HR1.out.step hp.out hr.out)
  have HN2 := Lib.hid (HN1.out.rep HR1.out.n HR1.out.pr hr.out)
  have HX2 := Lib.hid (HX1.out.rep hr.out)
  clear hp hr K1 HR1 HN1 HX1 x0 x1 x2 x3 x4 x5 x6
  obtain ⟨x0, x1, x2, x3, x4, x5, x6⟩ := cells7 HX2.out.h
  have K2 := Lib.hid (tok1_call HR2.out (Lx.bs tx) tx (Lx.L_bs tx) (by rw [Lx.bs_size]; omega))
  go_wp2_with fail
  refine K2.out.mono ?_
  rintro e w3 ⟨rfl, v3, hp, hr⟩
  have HR3 := Lib.hid (HR2.out.step hp.out hr.out)
  have HN3 := Lib.hid (HN2.out.rep HR2.out.n HR2.out.pr hr.out)
  have HX3 := Lib.hid (HX2.out.rep hr.out)
  clear hp hr K2 HR2 HN2 HX2 x0 x1 x2 x3 x4 x5 x6
  obtain ⟨x0, x1, x2, x3, x4, x5, x6⟩ := cells7 HX3.out.h
  go_wp2_with fail
  first | go_end0 | refine bodyPost_ret (results_none rfl _ _ _) rfl ?_
  exact HR3.out.done (by simp [patT])

set_option maxRecDepth 100000 in
set_option maxHeartbeats 4000000 in
theorem pat_45a (hN : NV w n0 m a cap c) (HP : Hid (∀ y, y ∈ c → PT b n0 y)) (h : PrIn w b n0 v0 text) (hn : n0 ≤ w.heap.size) (_htx : tx.length ≤ 1100000) (hc : 1 < c.length) :
    Calls Tryz.prog 151 #[.pointer (some ⟨b, 0, none⟩), nw 45 vl tx st en nm c a cap] w (PW b n0 text (patT 45 vl tx c (tokss c)) v0 w) := by
  have hc' : (1 : Int) < (c.length : Int) := by omega
  have HC := Lib.hid hc
  clear hc
  go_enter Tryz.func151, Tryz.ntmps151
  have HR0 := Lib.hid (PrRun.start h hn)
  have HN0 := Lib.hid hN
  go_upto_region 1 with fail
  obtain ⟨w1, hw1⟩ : ∃ w1, w1 = w.alloc (nbx 45 vl tx st en nm c a cap) := ⟨_, rfl⟩
  rw [show World.alloc w _ = w1 from hw1.symm]
  have HR1 : Hid (PrRun b n0 w v0 text [] w1 v0) := by rw [hw1]; exact HR0.out.below (below_box _ _)
  have HX1 : Hid (BoxIn w1 v0 b w.heap.size (nbx 45 vl tx st en nm c a cap)) := by rw [hw1]; exact BoxIn.made h
  have HN1 : Hid (NV w1 n0 m a cap c) := by rw [hw1]; exact HN0.out.below hn (below_box _ _)
  clear hw1 h hN
  obtain ⟨x0, x1, x2, x3, x4, x5, x6⟩ := cells7 HX1.out.h
  have K1 := Lib.hid (part_any (kd := 45) (vl := vl) (tx := tx) (st := st) (en := en) (nm := nm) 0 (by decide) HN1.out HP HR1.out.pr HR1.out.n)
  go_wp2_with fail
  refine K1.out.mono ?_
  rintro e w2 ⟨rfl, v2, hp, hr⟩
  have HR2 := Lib.hid (HR1.out.step hp.out hr.out)
  have HN2 := Lib.hid (HN1.out.rep HR1.out.n HR1.out.pr hr.out)
  have HX2 := Lib.hid (HX1.out.rep hr.out)
  clear hp hr K1 HR1 HN1 HX1 x0 x1 x2 x3 x4 x5 x6
  obtain ⟨x0, x1, x2, x3, x4, x5, x6⟩ := cells7 HX2.out.h
  have K2 := Lib.hid (from_any 45 vl tx st en nm c a cap n0 m 1 w2 HN2.out HR2.out.n (by decide))
  go_wp2_with fail
  refine K2.out.mono ?_
  rintro e w3 ⟨hb, a3, cap3, m3, rfl, hnv⟩
  obtain ⟨d3, hd⟩ : ∃ d, d = c.drop 1 := ⟨_, rfl⟩
  rw [← hd] at hnv ⊢
  have HE3 := Lib.hid hd
  clear hd
  have HD3 := Lib.hid hnv
  have HR3 := Lib.hid (HR2.out.below hb)
  have HN3 := Lib.hid (HN2.out.below HR2.out.n hb)
  have HX3 := Lib.hid (HX2.out.below hb)
  clear hb hnv K2 HR2 HN2 HX2 x0 x1 x2 x3 x4 x5 x6
  obtain ⟨x0, x1, x2, x3, x4, x5, x6⟩ := cells7 HX3.out.h
  have K3 := Lib.hid (bracketed_any ⟨#[40]⟩ ⟨#[41]⟩ [40] [41] (Lib.hid rfl) (Lib.hid rfl) (Lib.hid (by decide)) (Lib.hid (by decide)) HD3.out (Lib.hid (fun y hy => HP.out y (List.mem_of_mem_drop (by rw [← HE3.out]; exact hy)))) HR3.out.pr HR3.out.n)
  go_wp2_with fail
  refine K3.out.mono ?_
  rintro e w4 ⟨rfl, v4, hp, hr⟩
  have HR4 := Lib.hid (HR3.out.step hp.out hr.out)
  have HN4 := Lib.hid (HN3.out.rep HR3.out.n HR3.out.pr hr.out)
  have HX4 := Lib.hid (HX3.out.rep hr.out)
  clear hp hr K3 HR3 HN3 HX3 x0 x1 x2 x3 x4 x5 x6
  obtain ⟨x0, x1, x2, x3, x4, x5, x6⟩ := cells7 HX4.out.h
  go_wp2_with fail
  first | go_end0 | refine bodyPost_ret (results_none rfl _ _ _) rfl ?_
  exact HR4.out.done (by have q := HC.out; simp [patT, tokss_drop, -List.drop_one, q, HE3.out])

set_option maxRecDepth 100000 in
set_option maxHeartbeats 4000000 in
theorem pat_45b (hN : NV w n0 m a cap c) (HP : Hid (∀ y, y ∈ c → PT b n0 y)) (h : PrIn w b n0 v0 text) (hn : n0 ≤ w.heap.size) (_htx : tx.length ≤ 1100000) {y : Nd} (hc : c = [y]) (hy : y.c.length = 1) :
    Calls Tryz.prog 151 #[.pointer (some ⟨b, 0, none⟩), nw 45 vl tx st en nm c a cap] w (PW b n0 text (patT 45 vl tx c (tokss c)) v0 w) := by
  have hl1 : (c.length : Int) = 1 := by rw [hc]; rfl
  have HC := Lib.hid hc
  have HY : Hid (c[0]? = some y) := by show _ = _; rw [hc]; rfl
  clear hc
  have hl2 : (y.c.length : Int) = 1 := by rw [hy]; rfl
  have HY2 := Lib.hid hy
  clear hy
  go_enter Tryz.func151, Tryz.ntmps151
  have HR0 := Lib.hid (PrRun.start h hn)
  have HN0 := Lib.hid hN
  go_upto_region 1 with fail
  obtain ⟨w1, hw1⟩ : ∃ w1, w1 = w.alloc (nbx 45 vl tx st en nm c a cap) := ⟨_, rfl⟩
  rw [show World.alloc w _ = w1 from hw1.symm]
  have HR1 : Hid (PrRun b n0 w v0 text [] w1 v0) := by rw [hw1]; exact HR0.out.below (below_box _ _)
  have HX1 : Hid (BoxIn w1 v0 b w.heap.size (nbx 45 vl tx st en nm c a cap)) := by rw [hw1]; exact BoxIn.made h
  have HN1 : Hid (NV w1 n0 m a cap c) := by rw [hw1]; exact HN0.out.below hn (below_box _ _)
  clear hw1 h hN
  obtain ⟨x0, x1, x2, x3, x4, x5, x6⟩ := cells7 HX1.out.h
  have K1 := Lib.hid (part_any (kd := 45) (vl := vl) (tx := tx) (st := st) (en := en) (nm := nm) 0 (by decide) HN1.out HP HR1.out.pr HR1.out.n)
  go_wp2_with fail
  refine K1.out.mono ?_
  rintro e w2 ⟨rfl, v2, hp, hr⟩
  have HR2 := Lib.hid (HR1.out.step hp.out hr.out)
  have HN2 := Lib.hid (HN1.out.rep HR1.out.n HR1.out.pr hr.out)
  have HX2 := Lib.hid (HX1.out.rep hr.out)
  clear hp hr K1 HR1 HN1 HX1 x0 x1 x2 x3 x4 x5 x6
  obtain ⟨x0, x1, x2, x3, x4, x5, x6⟩ := cells7 HX2.out.h
  obtain ⟨m2, b2, o2, sa, cap2, rfl, hcv⟩ := HN2.out.at HY.out
  have r6 := hcv.sv.c6
  simp only [Nat.zero_mul, Nat.add_zero] at r6
  clear hcv
  have K2 := Lib.hid (tok2_call HR2.out ⟨#[40]⟩ ⟨#[41]⟩ [40] [41] rfl rfl (by decide) (by decide))
  go_wp2_with fail
  refine K2.out.mono ?_
  rintro e w3 ⟨rfl, v3, hp, hr⟩
  have HR3 := Lib.hid (HR2.out.step hp.out hr.out)
  have HN3 := Lib.hid (HN2.out.rep HR2.out.n HR2.out.pr hr.out)
  have HX3 := Lib.hid (HX2.out.rep hr.out)
  clear hp hr K2 HR2 HN2 HX2 x0 x1 x2 x3 x4 x5 x6
  obtain ⟨x0, x1, x2, x3, x4, x5, x6⟩ := cells7 HX3.out.h
  go_wp2_with fail
  first | go_end0 | refine bodyPost_ret (results_none rfl _ _ _) rfl ?_
  exact HR3.out.done (by have q := HC.out; have q2 := HY2.out; simp [patT, q, q2])

set_option maxRecDepth 100000 in
set_option maxHeartbeats 4000000 in
theorem pat_45c (hN : NV w n0 m a cap c) (HP : Hid (∀ y, y ∈ c → PT b n0 y)) (h : PrIn w b n0 v0 text) (hn : n0 ≤ w.heap.size) (_htx : tx.length ≤ 1100000) {y : Nd} (hc : c = [y]) (hy : ¬ y.c.length = 1) :
    Calls Tryz.prog 151 #[.pointer (some ⟨b, 0, none⟩), nw 45 vl tx st en nm c a cap] w (PW b n0 text (patT 45 vl tx c (tokss c)) v0 w) := by
  have hl1 : (c.length : Int) = 1 := by rw [hc]; rfl
  have HC := Lib.hid hc
  have HY : Hid (c[0]? = some y) := by show _ = _; rw [hc]; rfl
  clear hc
  have hl2 : ((y.c.length : Int) == 1) = false := by simp; omega
  have HY2 := Lib.hid hy
  clear hy
  go_enter Tryz.func151, Tryz.ntmps151
  have HR0 := Lib.hid (PrRun.start h hn)
  have HN0 := Lib.hid hN
  go_upto_region 1 with fail
  obtain ⟨w1, hw1⟩ : ∃ w1, w1 = w.alloc (nbx 45 vl tx st en nm c a cap) := ⟨_, rfl⟩
  rw [show World.alloc w _ = w1 from hw1.symm]
  have HR1 : Hid (PrRun b n0 w v0 text [] w1 v0) := by rw [hw1]; exact HR0.out.below (below_box _ _)
  have HX1 : Hid (BoxIn w1 v0 b w.heap.size (nbx 45 vl tx st en nm c a cap)) := by rw [hw1]; exact BoxIn.made h
  have HN1 : Hid (NV w1 n0 m a cap c) := by rw [hw1]; exact HN0.out.below hn (below_box _ _)
  clear hw1 h hN
  obtain ⟨x0, x1, x2, x3, x4, x5, x6⟩ := cells7 HX1.out.h
  have K1 := Lib.hid (part_any (kd := 45) (vl := vl) (tx := tx) (st := st) (en := en) (nm := nm) 0 (by decide) HN1.out HP HR1.out.pr HR1.out.n)
  go_wp2_with fail
  refine K1.out.mono ?_
  rintro e w2 ⟨rfl, v2, hp, hr⟩
  have HR2 := Lib.hid (HR1.out.step hp.out hr.out)
  have HN2 := Lib.hid (HN1.out.rep HR1.out.n HR1.out.pr hr.out)
  have HX2 := Lib.hid (HX1.out.rep hr.out)
  clear hp hr K1 HR1 HN1 HX1 x0 x1 x2 x3 x4 x5 x6
  obtain ⟨x0, x1, x2, x3, x4, x5, x6⟩ := cells7 HX2.out.h
  obtain ⟨m2, b2, o2, sa, cap2, rfl, hcv⟩ := HN2.out.at HY.out
  have r6 := hcv.sv.c6
  simp only [Nat.zero_mul, Nat.add_zero] at r6
  clear hcv
  go_wp2_with fail
  first | go_end0 | refine bodyPost_ret (results_none rfl _ _ _) rfl ?_
  exact HR2.out.done (by have q := HC.out; have q2 := HY2.out; simp [patT, q, q2])

set_option maxRecDepth 100000 in
set_option maxHeartbeats 4000000 in
theorem pat_45d (hN : NV w n0 m a cap c) (HP : Hid (∀ y, y ∈ c → PT b n0 y)) (h : PrIn w b n0 v0 text) (hn : n0 ≤ w.heap.size) (_htx : tx.length ≤ 1100000) (hc : c = []) :
    Calls Tryz.prog 151 #[.pointer (some ⟨b, 0, none⟩), nw 45 vl tx st en nm c a cap] w (PW b n0 text (patT 45 vl tx c (tokss c)) v0 w) := by
  have hl1 : (c.length : Int) = 0 := by rw [hc]; rfl
  have HC := Lib.hid hc
  clear hc
  go_enter Tryz.func151, Tryz.ntmps151
  have HR0 := Lib.hid (PrRun.start h hn)
  have HN0 := Lib.hid hN
  go_upto_region 1 with fail
  obtain ⟨w1, hw1⟩ : ∃ w1, w1 = w.alloc (nbx 45 vl tx st en nm c a cap) := ⟨_, rfl⟩
  rw [show World.alloc w _ = w1 from hw1.symm]
  have HR1 : Hid (PrRun b n0 w v0 text [] w1 v0) := by rw [hw1]; exact HR0.out.below (below_box _ _)
  have HX1 : Hid (BoxIn w1 v0 b w.heap.size (nbx 45 vl tx st en nm c a cap)) := by rw [hw1]; exact BoxIn.made h
  have HN1 : Hid (NV w1 n0 m a cap c) := by rw [hw1]; exact HN0.out.below hn (below_box _ _)
  clear hw1 h hN
  obtain ⟨x0, x1, x2, x3, x4, x5, x6⟩ := cells7 HX1.out.h
  have K1 := Lib.hid (part_any (kd := 45) (vl := vl) (tx := tx) (st := st) (en := en) (nm := nm) 0 (by decide) HN1.out HP HR1.out.pr HR1.out.n)
  go_wp2_with fail
  refine K1.out.mono ?_
  rintro e w2 ⟨rfl, v2, hp, hr⟩
  have HR2 := Lib.hid (HR1.out.step hp.out hr.out)
  have HN2 := Lib.hid (HN1.out.rep HR1.out.n HR1.out.pr hr.out)
  have HX2 := Lib.hid (HX1.out.rep hr.out)
  clear hp hr K1 HR1 HN1 HX1 x0 x1 x2 x3 x4 x5 x6
  obtain ⟨x0, x1, x2, x3, x4, x5, x6⟩ := cells7 HX2.out.h
  go_wp2_with fail
  first | go_end0 | refine bodyPost_ret (results_none rfl _ _ _) rfl ?_
  exact HR2.out.done (by have q := HC.out; simp [patT, q])

theorem pat_45 (hN : NV w n0 m a cap c) (HP : Hid (∀ y, y ∈ c → PT b n0 y)) (h : PrIn w b n0 v0 text) (hn : n0 ≤ w.heap.size) (htx : tx.length ≤ 1100000) :
    Calls Tryz.prog 151 #[.pointer (some ⟨b, 0, none⟩), nw 45 vl tx st en nm c a cap] w (PW b n0 text (patT 45 vl tx c (tokss c)) v0 w) := by
  by_cases h1 : 1 < c.length
  · exact pat_45a hN HP h hn htx h1
  · match hc : c with
    | [] => exact pat_45d hN HP h hn htx rfl
    | [y] =>
      by_cases hy : y.c.length = 1
      · exact pat_45b hN HP h hn htx rfl hy
      · exact pat_45c hN HP h hn htx rfl hy
    | y :: z :: r => exact absurd (by simp) h1

theorem pat_else_eq {cs : List (List Tok)} (h43 : (kd == 43) = false) (h44 : (kd == 44) = false) (h45 : (kd == 45) = false) : patT kd vl tx c cs = [] := by
  have q : ∀ z : Int, (kd == z) = false → ¬ kd = z := fun z hz e => by simp [e] at hz
  simp [patT, q _ h43, q _ h44, q _ h45]
set_option maxRecDepth 100000 in
set_option maxHeartbeats 4000000 in
theorem pat_else (h43 : (kd == 43) = false) (h44 : (kd == 44) = false) (h45 : (kd == 45) = false) (hN : NV w n0 m a cap c) (_HP : Hid (∀ y, y ∈ c → PT b n0 y)) (h : PrIn w b n0 v0 text) (hn : n0 ≤ w.heap.size) (_htx : tx.length ≤ 1100000) :
    Calls Tryz.prog 151 #[.pointer (some ⟨b, 0, none⟩), nw kd vl tx st en nm c a cap] w (PW b n0 text (patT kd vl tx c (tokss c)) v0 w) := by
  go_enter Tryz.func151, Tryz.ntmps151
  have HR0 := Lib.hid (PrRun.start h hn)
  have HN0 := Lib.hid hN
  go_upto_region 1 with fail
  obtain ⟨w1, hw1⟩ : ∃ w1, w1 = w.alloc (nbx kd vl tx st en nm c a cap) := ⟨_, rfl⟩
  rw [show World.alloc w _ = w1 from hw1.symm]
  have HR1 : Hid (PrRun b n0 w v0 text [] w1 v0) := by rw [hw1]; exact HR0.out.below (below_box _ _)
  have HX1 : Hid (BoxIn w1 v0 b w.heap.size (nbx kd vl tx st en nm c a cap)) := by rw [hw1]; exact BoxIn.made h
  have HN1 : Hid (NV w1 n0 m a cap c) := by rw [hw1]; exact HN0.out.below hn (below_box _ _)
  clear hw1 h hN
  obtain ⟨x0, x1, x2, x3, x4, x5, x6⟩ := cells7 HX1.out.h
  go_wp2_with fail
  first | go_end0 | refine bodyPost_ret (results_none rfl _ _ _) rfl ?_
  exact HR1.out.done (by rw [pat_else_eq h43 h44 h45])

end
end Go.Proofs.YtcpojagfnpajeaaGreatDoorR.Ps

namespace Go.Proofs.YtcpojagfnpajeaaGreatDoorR.Ps
open Go.RowKit

section
variable {b n0 m : Nat} {kd vl : Int} {tx : List UInt8} {st en nm : Int} {c : List Nd} {a : Option Addr} {cap : Nat} {w : World} {v0 : Value} {text : List UInt8}

theorem item_any (hN : NV w n0 m a cap c) (HP : Hid (∀ y, y ∈ c → PT b n0 y)) (h : PrIn w b n0 v0 text) (hn : n0 ≤ w.heap.size) (htx : tx.length ≤ 1100000) (_hvl : I64 vl) (hk : kd ≤ 9) :
    Calls Tryz.prog 146 #[.pointer (some ⟨b, 0, none⟩), nw kd vl tx st en nm c a cap] w (PW b n0 text (itemT kd vl tx c (tokss c)) v0 w) := by
  have hcs : kd = 1 ∨ kd = 2 ∨ kd = 3 ∨ kd = 4 ∨ kd = 5 ∨ kd = 6 ∨ kd = 7 ∨ kd = 8 ∨ kd = 9 ∨ (¬ kd = 1 ∧ ¬ kd = 2 ∧ ¬ kd = 3 ∧ ¬ kd = 4 ∧ ¬ kd = 5 ∧ ¬ kd = 6 ∧ ¬ kd = 7 ∧ ¬ kd = 8 ∧ ¬ kd = 9) := by omega
  rcases hcs with rfl | rfl | rfl | rfl | rfl | rfl | rfl | rfl | rfl | ⟨h1, h2, h3, h4, h5, h6, h7, h8, h9⟩
  · exact item_1 hN HP h hn htx
  · exact item_2 hN HP h hn htx
  · exact item_3 hN HP h hn htx
  · exact item_4 hN HP h hn htx
  · exact item_5 hN HP h hn htx
  · exact item_6 hN HP h hn htx
  · exact item_7 hN HP h hn htx
  · exact item_8 hN HP h hn htx
  · exact item_9 hN HP h hn htx
  · exact item_else (by simpa using h1) (by simpa using h2) (by simpa using h3) (by simpa using h4) (by simpa using h5) (by simpa using h6) (by simpa using h7) (by simpa using h8) (by simpa using h9) hN HP h hn htx

theorem ofItem_any (hN : NV w n0 m a cap c) (HP : Hid (∀ y, y ∈ c → PT b n0 y)) (h : PrIn w b n0 v0 text) (hn : n0 ≤ w.heap.size) (htx : tx.length ≤ 1100000) (_hvl : I64 vl) (hk : 10 ≤ kd ∧ kd ≤ 16) :
    Calls Tryz.prog 147 #[.pointer (some ⟨b, 0, none⟩), nw kd vl tx st en nm c a cap] w (PW b n0 text (ofItemT kd tx c (tokss c)) v0 w) := by
  have hcs : kd = 10 ∨ kd = 11 ∨ kd = 12 ∨ kd = 13 ∨ kd = 14 ∨ kd = 15 ∨ kd = 16 := by omega
  rcases hcs with rfl | rfl | rfl | rfl | rfl | rfl | rfl
  · exact part_10 hN HP h hn htx
  · exact part_11 hN HP h hn htx
  · exact part_12 hN HP h hn htx
  · exact part_13 hN HP h hn htx
  · exact part_14 hN HP h hn htx
  · exact part_15 hN HP h hn htx
  · exact part_16 hN HP h hn htx

theorem type_any (hN : NV w n0 m a cap c) (HP : Hid (∀ y, y ∈ c → PT b n0 y)) (h : PrIn w b n0 v0 text) (hn : n0 ≤ w.heap.size) (htx : tx.length ≤ 1100000) (_hvl : I64 vl) (hk : 17 ≤ kd ∧ kd ≤ 20) :
    Calls Tryz.prog 148 #[.pointer (some ⟨b, 0, none⟩), nw kd vl tx st en nm c a cap] w (PW b n0 text (typeT kd vl tx c (tokss c)) v0 w) := by
  have hcs : kd = 17 ∨ kd = 18 ∨ kd = 19 ∨ kd = 20 := by omega
  rcases hcs with rfl | rfl | rfl | rfl
  · exact type_17 hN HP h hn htx
  · exact type_18 hN HP h hn htx
  · exact type_19 hN HP h hn htx
  · exact type_20 hN HP h hn htx

theorem stmt_any (hN : NV w n0 m a cap c) (HP : Hid (∀ y, y ∈ c → PT b n0 y)) (h : PrIn w b n0 v0 text) (hn : n0 ≤ w.heap.size) (htx : tx.length ≤ 1100000) (_hvl : I64 vl) (hk : 21 ≤ kd ∧ kd ≤ 26) :
    Calls Tryz.prog 149 #[.pointer (some ⟨b, 0, none⟩), nw kd vl tx st en nm c a cap] w (PW b n0 text (stmtT kd c (tokss c)) v0 w) := by
  have hcs : kd = 21 ∨ kd = 22 ∨ kd = 23 ∨ kd = 24 ∨ kd = 25 ∨ kd = 26 := by omega
  rcases hcs with rfl | rfl | rfl | rfl | rfl | rfl
  · exact stmt_21 hN HP h hn htx
  · exact stmt_22 hN HP h hn htx
  · exact stmt_23 hN HP h hn htx
  · exact stmt_24 hN HP h hn htx
  · exact stmt_25 hN HP h hn htx
  · exact stmt_26 hN HP h hn htx

theorem expr_any (hN : NV w n0 m a cap c) (HP : Hid (∀ y, y ∈ c → PT b n0 y)) (h : PrIn w b n0 v0 text) (hn : n0 ≤ w.heap.size) (htx : tx.length ≤ 1100000) (hvl : I64 vl) (hk : 27 ≤ kd ∧ kd ≤ 42) :
    Calls Tryz.prog 150 #[.pointer (some ⟨b, 0, none⟩), nw kd vl tx st en nm c a cap] w (PW b n0 text (exprT kd vl tx c (tokss c)) v0 w) := by
  have hcs : kd = 27 ∨ kd = 28 ∨ kd = 29 ∨ kd = 30 ∨ kd = 31 ∨ kd = 32 ∨ kd = 33 ∨ kd = 34 ∨ kd = 35 ∨ kd = 36 ∨ kd = 37 ∨ kd = 38 ∨ kd = 39 ∨ kd = 40 ∨ kd = 41 ∨ kd = 42 := by omega
  rcases hcs with rfl | rfl | rfl | rfl | rfl | rfl | rfl | rfl | rfl | rfl | rfl | rfl | rfl | rfl | rfl | rfl
  · exact expr_27 hN HP h hn htx hvl
  · exact expr_28 hN HP h hn htx
  · exact expr_29 hN HP h hn htx
  · exact expr_30 hN HP h hn htx
  · exact expr_31 hN HP h hn htx
  · exact expr_32 hN HP h hn htx
  · exact expr_33 hN HP h hn htx
  · exact expr_34 hN HP h hn htx
  · exact expr_35 hN HP h hn htx
  · exact expr_36 hN HP h hn htx
  · exact expr_37 hN HP h hn htx
  · exact expr_38 hN HP h hn htx
  · exact expr_39 hN HP h hn htx
  · exact expr_40 hN HP h hn htx
  · exact expr_41 hN HP h hn htx
  · exact expr_42 hN HP h hn htx

theorem pat_any (hN : NV w n0 m a cap c) (HP : Hid (∀ y, y ∈ c → PT b n0 y)) (h : PrIn w b n0 v0 text) (hn : n0 ≤ w.heap.size) (htx : tx.length ≤ 1100000) (_hvl : I64 vl) (hk : 43 ≤ kd) :
    Calls Tryz.prog 151 #[.pointer (some ⟨b, 0, none⟩), nw kd vl tx st en nm c a cap] w (PW b n0 text (patT kd vl tx c (tokss c)) v0 w) := by
  have hcs : kd = 43 ∨ kd = 44 ∨ kd = 45 ∨ (¬ kd = 43 ∧ ¬ kd = 44 ∧ ¬ kd = 45) := by omega
  rcases hcs with rfl | rfl | rfl | ⟨h43, h44, h45⟩
  · exact pat_43 hN HP h hn htx
  · exact pat_44 hN HP h hn htx
  · exact pat_45 hN HP h hn htx
  · exact pat_else (by simpa using h43) (by simpa using h44) (by simpa using h45) hN HP h hn htx

set_option maxHeartbeats 2000000 in
theorem print_0 (hN : NV w n0 m a cap c) (HP : Hid (∀ y, y ∈ c → PT b n0 y)) (h : PrIn w b n0 v0 text) (hn : n0 ≤ w.heap.size) (htx : tx.length ≤ 1100000) (hvl : I64 vl) (hk : kd ≤ 9) :
    Calls Tryz.prog 88 #[.pointer (some ⟨b, 0, none⟩), nw kd vl tx st en nm c a cap] w (PW b n0 text (shapeT kd vl tx c (tokss c)) v0 w) := by
  have HK := Lib.hid hk
  have g0 : kd ≤ 9 := hk
  clear hk
  go_enter Tryz.func88, Tryz.ntmps88
  have HR0 := Lib.hid (PrRun.start h hn)
  have HN0 := Lib.hid hN
  go_upto_region 1 with fail
  obtain ⟨w1, hw1⟩ : ∃ w1, w1 = w.alloc (nbx kd vl tx st en nm c a cap) := ⟨_, rfl⟩
  rw [show World.alloc w _ = w1 from hw1.symm]
  have HR1 : Hid (PrRun b n0 w v0 text [] w1 v0) := by rw [hw1]; exact HR0.out.below (below_box _ _)
  have HX1 : Hid (BoxIn w1 v0 b w.heap.size (nbx kd vl tx st en nm c a cap)) := by rw [hw1]; exact BoxIn.made h
  have HN1 : Hid (NV w1 n0 m a cap c) := by rw [hw1]; exact HN0.out.below hn (below_box _ _)
  clear hw1 h hN
  obtain ⟨x0, x1, x2, x3, x4, x5, x6⟩ := cells7 HX1.out.h
  have K1 := Lib.hid (item_any (kd := kd) (vl := vl) (tx := tx) (st := st) (en := en) (nm := nm) HN1.out HP HR1.out.pr HR1.out.n htx hvl HK.out)
  go_wp2_with fail
  refine K1.out.mono ?_
  rintro e w2 ⟨rfl, v2, hp, hr⟩
  have HR2 := Lib.hid (HR1.out.step hp.out hr.out)
  have HN2 := Lib.hid (HN1.out.rep HR1.out.n HR1.out.pr hr.out)
  have HX2 := Lib.hid (HX1.out.rep hr.out)
  clear hp hr K1 HR1 HN1 HX1 x0 x1 x2 x3 x4 x5 x6
  obtain ⟨x0, x1, x2, x3, x4, x5, x6⟩ := cells7 HX2.out.h
  go_wp2_with fail
  first | go_end0 | refine bodyPost_ret (results_none rfl _ _ _) rfl ?_
  exact HR2.out.done (by have q := HK.out; unfold shapeT;  rw [if_pos (by omega)]; simp)

set_option maxHeartbeats 2000000 in
theorem print_1 (hN : NV w n0 m a cap c) (HP : Hid (∀ y, y ∈ c → PT b n0 y)) (h : PrIn w b n0 v0 text) (hn : n0 ≤ w.heap.size) (htx : tx.length ≤ 1100000) (hvl : I64 vl) (hk : 10 ≤ kd ∧ kd ≤ 16) :
    Calls Tryz.prog 88 #[.pointer (some ⟨b, 0, none⟩), nw kd vl tx st en nm c a cap] w (PW b n0 text (shapeT kd vl tx c (tokss c)) v0 w) := by
  have HK := Lib.hid hk
  have g0 : 9 < kd := by omega
  have g1 : kd ≤ 16 := hk.2
  clear hk
  go_enter Tryz.func88, Tryz.ntmps88
  have HR0 := Lib.hid (PrRun.start h hn)
  have HN0 := Lib.hid hN
  go_upto_region 1 with fail
  obtain ⟨w1, hw1⟩ : ∃ w1, w1 = w.alloc (nbx kd vl tx st en nm c a cap) := ⟨_, rfl⟩
  rw [show World.alloc w _ = w1 from hw1.symm]
  have HR1 : Hid (PrRun b n0 w v0 text [] w1 v0) := by rw [hw1]; exact HR0.out.below (below_box _ _)
  have HX1 : Hid (BoxIn w1 v0 b w.heap.size (nbx kd vl tx st en nm c a cap)) := by rw [hw1]; exact BoxIn.made h
  have HN1 : Hid (NV w1 n0 m a cap c) := by rw [hw1]; exact HN0.out.below hn (below_box _ _)
  clear hw1 h hN
  obtain ⟨x0, x1, x2, x3, x4, x5, x6⟩ := cells7 HX1.out.h
  have K1 := Lib.hid (ofItem_any (kd := kd) (vl := vl) (tx := tx) (st := st) (en := en) (nm := nm) HN1.out HP HR1.out.pr HR1.out.n htx hvl HK.out)
  go_wp2_with fail
  refine K1.out.mono ?_
  rintro e w2 ⟨rfl, v2, hp, hr⟩
  have HR2 := Lib.hid (HR1.out.step hp.out hr.out)
  have HN2 := Lib.hid (HN1.out.rep HR1.out.n HR1.out.pr hr.out)
  have HX2 := Lib.hid (HX1.out.rep hr.out)
  clear hp hr K1 HR1 HN1 HX1 x0 x1 x2 x3 x4 x5 x6
  obtain ⟨x0, x1, x2, x3, x4, x5, x6⟩ := cells7 HX2.out.h
  go_wp2_with fail
  first | go_end0 | refine bodyPost_ret (results_none rfl _ _ _) rfl ?_
  exact HR2.out.done (by have q := HK.out; unfold shapeT; rw [if_neg (by omega)]; rw [if_pos (by omega)]; simp)

set_option maxHeartbeats 2000000 in
theorem print_2 (hN : NV w n0 m a cap c) (HP : Hid (∀ y, y ∈ c → PT b n0 y)) (h : PrIn w b n0 v0 text) (hn : n0 ≤ w.heap.size) (htx : tx.length ≤ 1100000) (hvl : I64 vl) (hk : 17 ≤ kd ∧ kd ≤ 20) :
    Calls Tryz.prog 88 #[.pointer (some ⟨b, 0, none⟩), nw kd vl tx st en nm c a cap] w (PW b n0 text (shapeT kd vl tx c (tokss c)) v0 w) := by
  have HK := Lib.hid hk
  have g0 : 9 < kd := by omega
  have g1 : 16 < kd := by omega
  have g2 : kd ≤ 20 := hk.2
  clear hk
  go_enter Tryz.func88, Tryz.ntmps88
  have HR0 := Lib.hid (PrRun.start h hn)
  have HN0 := Lib.hid hN
  go_upto_region 1 with fail
  obtain ⟨w1, hw1⟩ : ∃ w1, w1 = w.alloc (nbx kd vl tx st en nm c a cap) := ⟨_, rfl⟩
  rw [show World.alloc w _ = w1 from hw1.symm]
  have HR1 : Hid (PrRun b n0 w v0 text [] w1 v0) := by rw [hw1]; exact HR0.out.below (below_box _ _)
  have HX1 : Hid (BoxIn w1 v0 b w.heap.size (nbx kd vl tx st en nm c a cap)) := by rw [hw1]; exact BoxIn.made h
  have HN1 : Hid (NV w1 n0 m a cap c) := by rw [hw1]; exact HN0.out.below hn (below_box _ _)
  clear hw1 h hN
  obtain ⟨x0, x1, x2, x3, x4, x5, x6⟩ := cells7 HX1.out.h
  have K1 := Lib.hid (type_any (kd := kd) (vl := vl) (tx := tx) (st := st) (en := en) (nm := nm) HN1.out HP HR1.out.pr HR1.out.n htx hvl HK.out)
  go_wp2_with fail
  refine K1.out.mono ?_
  rintro e w2 ⟨rfl, v2, hp, hr⟩
  have HR2 := Lib.hid (HR1.out.step hp.out hr.out)
  have HN2 := Lib.hid (HN1.out.rep HR1.out.n HR1.out.pr hr.out)
  have HX2 := Lib.hid (HX1.out.rep hr.out)
  clear hp hr K1 HR1 HN1 HX1 x0 x1 x2 x3 x4 x5 x6
  obtain ⟨x0, x1, x2, x3, x4, x5, x6⟩ := cells7 HX2.out.h
  go_wp2_with fail
  first | go_end0 | refine bodyPost_ret (results_none rfl _ _ _) rfl ?_
  exact HR2.out.done (by have q := HK.out; unfold shapeT; rw [if_neg (by omega)]; rw [if_neg (by omega)]; rw [if_pos (by omega)]; simp)

set_option maxHeartbeats 2000000 in
theorem print_3 (hN : NV w n0 m a cap c) (HP : Hid (∀ y, y ∈ c → PT b n0 y)) (h : PrIn w b n0 v0 text) (hn : n0 ≤ w.heap.size) (htx : tx.length ≤ 1100000) (hvl : I64 vl) (hk : 21 ≤ kd ∧ kd ≤ 26) :
    Calls Tryz.prog 88 #[.pointer (some ⟨b, 0, none⟩), nw kd vl tx st en nm c a cap] w (PW b n0 text (shapeT kd vl tx c (tokss c)) v0 w) := by
  have HK := Lib.hid hk
  have g0 : 9 < kd := by omega
  have g1 : 16 < kd := by omega
  have g2 : 20 < kd := by omega
  have g3 : kd ≤ 26 := hk.2
  clear hk
  go_enter Tryz.func88, Tryz.ntmps88
  have HR0 := Lib.hid (PrRun.start h hn)
  have HN0 := Lib.hid hN
  go_upto_region 1 with fail
  obtain ⟨w1, hw1⟩ : ∃ w1, w1 = w.alloc (nbx kd vl tx st en nm c a cap) := ⟨_, rfl⟩
  rw [show World.alloc w _ = w1 from hw1.symm]
  have HR1 : Hid (PrRun b n0 w v0 text [] w1 v0) := by rw [hw1]; exact HR0.out.below (below_box _ _)
  have HX1 : Hid (BoxIn w1 v0 b w.heap.size (nbx kd vl tx st en nm c a cap)) := by rw [hw1]; exact BoxIn.made h
  have HN1 : Hid (NV w1 n0 m a cap c) := by rw [hw1]; exact HN0.out.below hn (below_box _ _)
  clear hw1 h hN
  obtain ⟨x0, x1, x2, x3, x4, x5, x6⟩ := cells7 HX1.out.h
  have K1 := Lib.hid (stmt_any (kd := kd) (vl := vl) (tx := tx) (st := st) (en := en) (nm := nm) HN1.out HP HR1.out.pr HR1.out.n htx hvl HK.out)
  go_wp2_with fail
  refine K1.out.mono ?_
  rintro e w2 ⟨rfl, v2, hp, hr⟩
  have HR2 := Lib.hid (HR1.out.step hp.out hr.out)
  have HN2 := Lib.hid (HN1.out.rep HR1.out.n HR1.out.pr hr.out)
  have HX2 := Lib.hid (HX1.out.rep hr.out)
  clear hp hr K1 HR1 HN1 HX1 x0 x1 x2 x3 x4 x5 x6
  obtain ⟨x0, x1, x2, x3, x4, x5, x6⟩ := cells7 HX2.out.h
  go_wp2_with fail
  first | go_end0 | refine bodyPost_ret (results_none rfl _ _ _) rfl ?_
  exact HR2.out.done (by have q := HK.out; unfold shapeT; rw [if_neg (by omega)]; rw [if_neg (by omega)]; rw [if_neg (by omega)]; rw [if_pos (by omega)]; simp)

set_option maxHeartbeats 2000000 in
theorem print_4 (hN : NV w n0 m a cap c) (HP : Hid (∀ y, y ∈ c → PT b n0 y)) (h : PrIn w b n0 v0 text) (hn : n0 ≤ w.heap.size) (htx : tx.length ≤ 1100000) (hvl : I64 vl) (hk : 27 ≤ kd ∧ kd ≤ 42) :
    Calls Tryz.prog 88 #[.pointer (some ⟨b, 0, none⟩), nw kd vl tx st en nm c a cap] w (PW b n0 text (shapeT kd vl tx c (tokss c)) v0 w) := by
  have HK := Lib.hid hk
  have g0 : 9 < kd := by omega
  have g1 : 16 < kd := by omega
  have g2 : 20 < kd := by omega
  have g3 : 26 < kd := by omega
  have g4 : kd ≤ 42 := hk.2
  clear hk
  go_enter Tryz.func88, Tryz.ntmps88
  have HR0 := Lib.hid (PrRun.start h hn)
  have HN0 := Lib.hid hN
  go_upto_region 1 with fail
  obtain ⟨w1, hw1⟩ : ∃ w1, w1 = w.alloc (nbx kd vl tx st en nm c a cap) := ⟨_, rfl⟩
  rw [show World.alloc w _ = w1 from hw1.symm]
  have HR1 : Hid (PrRun b n0 w v0 text [] w1 v0) := by rw [hw1]; exact HR0.out.below (below_box _ _)
  have HX1 : Hid (BoxIn w1 v0 b w.heap.size (nbx kd vl tx st en nm c a cap)) := by rw [hw1]; exact BoxIn.made h
  have HN1 : Hid (NV w1 n0 m a cap c) := by rw [hw1]; exact HN0.out.below hn (below_box _ _)
  clear hw1 h hN
  obtain ⟨x0, x1, x2, x3, x4, x5, x6⟩ := cells7 HX1.out.h
  have K1 := Lib.hid (expr_any (kd := kd) (vl := vl) (tx := tx) (st := st) (en := en) (nm := nm) HN1.out HP HR1.out.pr HR1.out.n htx hvl HK.out)
  go_wp2_with fail
  refine K1.out.mono ?_
  rintro e w2 ⟨rfl, v2, hp, hr⟩
  have HR2 := Lib.hid (HR1.out.step hp.out hr.out)
  have HN2 := Lib.hid (HN1.out.rep HR1.out.n HR1.out.pr hr.out)
  have HX2 := Lib.hid (HX1.out.rep hr.out)
  clear hp hr K1 HR1 HN1 HX1 x0 x1 x2 x3 x4 x5 x6
  obtain ⟨x0, x1, x2, x3, x4, x5, x6⟩ := cells7 HX2.out.h
  go_wp2_with fail
  first | go_end0 | refine bodyPost_ret (results_none rfl _ _ _) rfl ?_
  exact HR2.out.done (by have q := HK.out; unfold shapeT; rw [if_neg (by omega)]; rw [if_neg (by omega)]; rw [if_neg (by omega)]; rw [if_neg (by omega)]; rw [if_pos (by omega)]; simp)

set_option maxHeartbeats 2000000 in
theorem print_5 (hN : NV w n0 m a cap c) (HP : Hid (∀ y, y ∈ c → PT b n0 y)) (h : PrIn w b n0 v0 text) (hn : n0 ≤ w.heap.size) (htx : tx.length ≤ 1100000) (hvl : I64 vl) (hk : 43 ≤ kd) :
    Calls Tryz.prog 88 #[.pointer (some ⟨b, 0, none⟩), nw kd vl tx st en nm c a cap] w (PW b n0 text (shapeT kd vl tx c (tokss c)) v0 w) := by
  have HK := Lib.hid hk
  have g0 : 9 < kd := by omega
  have g1 : 16 < kd := by omega
  have g2 : 20 < kd := by omega
  have g3 : 26 < kd := by omega
  have g4 : 42 < kd := by omega
  clear hk
  go_enter Tryz.func88, Tryz.ntmps88
  have HR0 := Lib.hid (PrRun.start h hn)
  have HN0 := Lib.hid hN
  go_upto_region 1 with fail
  obtain ⟨w1, hw1⟩ : ∃ w1, w1 = w.alloc (nbx kd vl tx st en nm c a cap) := ⟨_, rfl⟩
  rw [show World.alloc w _ = w1 from hw1.symm]
  have HR1 : Hid (PrRun b n0 w v0 text [] w1 v0) := by rw [hw1]; exact HR0.out.below (below_box _ _)
  have HX1 : Hid (BoxIn w1 v0 b w.heap.size (nbx kd vl tx st en nm c a cap)) := by rw [hw1]; exact BoxIn.made h
  have HN1 : Hid (NV w1 n0 m a cap c) := by rw [hw1]; exact HN0.out.below hn (below_box _ _)
  clear hw1 h hN
  obtain ⟨x0, x1, x2, x3, x4, x5, x6⟩ := cells7 HX1.out.h
  have K1 := Lib.hid (pat_any (kd := kd) (vl := vl) (tx := tx) (st := st) (en := en) (nm := nm) HN1.out HP HR1.out.pr HR1.out.n htx hvl HK.out)
  go_wp2_with fail
  refine K1.out.mono ?_
  rintro e w2 ⟨rfl, v2, hp, hr⟩
  have HR2 := Lib.hid (HR1.out.step hp.out hr.out)
  have HN2 := Lib.hid (HN1.out.rep HR1.out.n HR1.out.pr hr.out)
  have HX2 := Lib.hid (HX1.out.rep hr.out)
  clear hp hr K1 HR1 HN1 HX1 x0 x1 x2 x3 x4 x5 x6
  obtain ⟨x0, x1, x2, x3, x4, x5, x6⟩ := cells7 HX2.out.h
  go_wp2_with fail
  first | go_end0 | refine bodyPost_ret (results_none rfl _ _ _) rfl ?_
  exact HR2.out.done (by have q := HK.out; unfold shapeT; rw [if_neg (by omega)]; rw [if_neg (by omega)]; rw [if_neg (by omega)]; rw [if_neg (by omega)]; rw [if_neg (by omega)]; simp)

theorem print_node (hN : NV w n0 m a cap c) (HP : Hid (∀ y, y ∈ c → PT b n0 y)) (h : PrIn w b n0 v0 text) (hn : n0 ≤ w.heap.size) (htx : tx.length ≤ 1100000) (hvl : I64 vl) :
    Calls Tryz.prog 88 #[.pointer (some ⟨b, 0, none⟩), nw kd vl tx st en nm c a cap] w (PW b n0 text (shapeT kd vl tx c (tokss c)) v0 w) := by
  have hcs : kd ≤ 9 ∨ (10 ≤ kd ∧ kd ≤ 16) ∨ (17 ≤ kd ∧ kd ≤ 20) ∨ (21 ≤ kd ∧ kd ≤ 26) ∨ (27 ≤ kd ∧ kd ≤ 42) ∨ 43 ≤ kd := by omega
  rcases hcs with hk | hk | hk | hk | hk | hk
  · exact print_0 hN HP h hn htx hvl hk
  · exact print_1 hN HP h hn htx hvl hk
  · exact print_2 hN HP h hn htx hvl hk
  · exact print_3 hN HP h hn htx hvl hk
  · exact print_4 hN HP h hn htx hvl hk
  · exact print_5 hN HP h hn htx hvl hk
end

theorem pt_of (b n0 : Nat) (x : Nd) (HP : ∀ y, y ∈ x.c → PT b n0 y) : PT b n0 x := by
  intro a cap m w v text hN hok htl hp hn
  have h := print_node (kd := x.k) (vl := x.v) (tx := x.t) (st := x.s) (en := x.e) (nm := x.ns) hN (Lib.hid HP) hp hn htl hok.2.1
  have e : toks x = shapeT x.k x.v x.t x.c (tokss x.c) := by cases x; rfl
  rw [e]
  exact h
/-- print writes a node's tokens. -/
theorem pt_all (b n0 : Nat) : ∀ (n : Nat) (x : Nd), x.height ≤ n → PT b n0 x
  | 0, x, h => by have := nd_height x; omega
  | n + 1, x, h => pt_of b n0 x fun y hy => pt_all b n0 n y (by have := nd_height x; have := nheight_of hy; omega)
end Go.Proofs.YtcpojagfnpajeaaGreatDoorR.Ps
