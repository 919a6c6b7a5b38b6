/-
  balanced by its contract: a rotation, or none.
-/
import Derived.Test.YtkbodbbbgibgfaaNode
import Derived.BigQuiet
namespace Go.Proofs.Ytkbodbbbgibgfaa
open Go.RowKit
attribute [local go_sem ↓] Go.wp_at_zero Go.wp_at_succ

theorem below_drewN (B : Nat) (w : World) (n : Nat) : Below B w (w.drewN n) := by
  exact ⟨rfl, rfl, rfl, Nat.le_refl _, fun _ _ => rfl⟩

theorem drew_rep {w : World} {p : Option Addr} {t : Tr} (h : Hid (Rep w w.heap.size p t)) (n : Nat) : Hid (Rep (w.drewN n) (w.drewN n).heap.size p t) := Lib.hid (h.out.to (below_drewN _ _ _))

/-- inner in a later world than that in which the trees were seen. -/
theorem inner_at {w0 W : World} (l r : Tr) (pl pr : Option Addr) (hl : Hid (Rep w0 w0.heap.size pl l)) (hr : Hid (Rep w0 w0.heap.size pr r)) (al : l.avl) (ar : r.avl) (hn : l.len + r.len ≤ 1099511627776) (hW : Below w0.heap.size w0 W) :
    Calls Try.prog 39 #[.pointer pl, .pointer pr] W fun e w' => ∃ p, e = .returned (.pointer p) ∧ Hid (Rep w' w'.heap.size p (.node l r)) ∧ Below w0.heap.size w0 w' ∧ Below W.heap.size W w' := by
  refine (inner_any l r pl pr W (Lib.hid (hl.out.to hW)) (Lib.hid (hr.out.to hW)) al ar hn).mono ?_
  rintro e w' ⟨p, he, h, hb⟩
  exact ⟨p, he, h, hW.trans (hb.mono hW.size), hb⟩

set_option maxHeartbeats 1000000 in
set_option maxRecDepth 100000 in
theorem bal_none (l r : Tr) (pl pr : Option Addr) (w : World) (hl : Hid (Rep w w.heap.size pl l)) (hr : Hid (Rep w w.heap.size pr r)) (al : l.avl) (ar : r.avl) (hn : l.len + r.len ≤ 1099511627776) (h1 : l.ht ≤ r.ht + 1) (h2 : r.ht ≤ l.ht + 1) :
    Calls Try.prog 38 #[.pointer pl, .pointer pr] w fun e w' => ∃ p, e = .returned (.pointer p) ∧ Hid (Rep w' w'.heap.size p (.node l r)) ∧ Below w.heap.size w w' := by
  obtain ⟨b1, s1, l1, r1, rfl, hb1, N1⟩ := hl.out.root
  obtain ⟨b2, s2, l2, r2, rfl, hb2, N2⟩ := hr.out.root
  have q1 := Tr.lvs_le al
  have q2 := Tr.lvs_le ar
  have q3 := Tr.ht_lt l
  have q4 := Tr.ht_lt r
  have g1 : (l.ht : Int) ≤ 1099511627776 := by omega
  have g2 : (r.ht : Int) ≤ 1099511627776 := by omega
  have g3 : 0 ≤ (l.ht : Int) := by omega
  have g4 : 0 ≤ (r.ht : Int) := by omega
  have K := Lib.hid (fun W (hW : Below w.heap.size w W) => inner_at l r _ _ hl hr al ar hn hW)
  have z1 : (l.ht : Int) ≤ r.ht + 1 := by omega
  have z2 : (r.ht : Int) ≤ l.ht + 1 := by omega
  obtain ⟨a0, a1, a2, a3, a4, a5⟩ := N1
  obtain ⟨d0, d1, d2, d3, d4, d5⟩ := N2
  clear q1 q2 q3 q4 hl hr hn h1 h2 al ar
  go_enter Try.func38, Try.ntmps38
  go_wp2_with fail
  go_quiet (fail)
  go_wp2_with fail
  go_quiet (fail)
  go_wp2_with fail
  refine (K.out _ (by first | exact Below.refl _ _ | exact below_drewN _ _ _ | exact (below_drewN _ _ _).trans (below_drewN _ _ _))).mono ?_
  rintro e w' ⟨p, rfl, h, hb, _⟩
  go_wp2_with fail
  go_ret
  exact ⟨_, rfl, h, hb⟩

set_option maxHeartbeats 2000000 in
set_option maxRecDepth 100000 in
theorem bal_l2 (o a b r : Tr) (pl pr : Option Addr) (w : World) (hl : Hid (Rep w w.heap.size pl (.node o (.node a b)))) (hr : Hid (Rep w w.heap.size pr r)) (al : (Tr.node o (.node a b)).avl) (ar : r.avl) (hn : (Tr.node o (.node a b)).len + r.len ≤ 1099511627776)
    (h1 : r.ht + 1 < (Tr.node o (.node a b)).ht) (h2 : o.ht < (Tr.node a b).ht) (v : (Tr.node (.node o a) (.node b r)).avl) :
    Calls Try.prog 38 #[.pointer pl, .pointer pr] w fun e w' => ∃ p, e = .returned (.pointer p) ∧ Hid (Rep w' w'.heap.size p (.node (.node o a) (.node b r))) ∧ Below w.heap.size w w' := by
  obtain ⟨b1, po, pm, rfl, hb1, N1, ho, hm⟩ := hl.out
  obtain ⟨bo, so, lo, ro, rfl, hbo, No⟩ := ho.root
  obtain ⟨bm, pa, pb, rfl, hbm, Nm, ha, hb⟩ := hm
  obtain ⟨b2, s2, l2, r2, rfl, hb2, N2⟩ := hr.out.root
  have q1 := Tr.lvs_le al
  have q2 := Tr.lvs_le ar
  have q3 := Tr.ht_lt (Tr.node o (.node a b))
  have q4 := Tr.ht_lt r
  have g1 : ((Tr.node o (.node a b)).ht : Int) ≤ 1099511627776 := by omega
  have g2 : (r.ht : Int) ≤ 1099511627776 := by omega
  have g4 : 0 ≤ (r.ht : Int) := by omega
  have z1 : (r.ht : Int) + 1 < (Tr.node o (.node a b)).ht := by omega
  have z2 : (o.ht : Int) < (Tr.node a b).ht := by omega
  simp only [Tr.len_node] at hn
  have K1 := Lib.hid (fun W (hW : Below w.heap.size w W) => inner_at o a _ _ (Lib.hid ho) (Lib.hid ha) v.1.1 v.1.2.1 (by omega) hW)
  have K2 := Lib.hid (fun W (hW : Below w.heap.size w W) => inner_at b r _ _ (Lib.hid hb) hr v.2.1.1 ar (by omega) hW)
  have K3 := Lib.hid (fun W p q (hp : Hid (Rep W W.heap.size p (.node o a))) (hq : Hid (Rep W W.heap.size q (.node b r))) => inner_any (.node o a) (.node b r) p q W hp hq v.1 v.2.1 (by simp only [Tr.len_node]; omega))
  generalize ((Tr.node o (.node a b)).ht : Int) = x1 at *
  generalize ((Tr.node a b).ht : Int) = xm at *
  obtain ⟨a0, a1, a2, a3, a4, a5⟩ := N1
  obtain ⟨d0, d1, d2, d3, d4, d5⟩ := N2
  obtain ⟨u0, u1, u2, u3, u4, u5⟩ := No
  obtain ⟨m0, m1, m2, m3, m4, m5⟩ := Nm
  have HS : Hid (∀ W, Below w.heap.size w W → W.cell? ⟨bm, 1, none⟩ = some (.pointer pa) ∧ W.cell? ⟨bm, 2, none⟩ = some (.pointer pb)) :=
    fun W hW => ⟨(hW.cell (p := ⟨bm, _, none⟩) hbm).trans m1, (hW.cell (p := ⟨bm, _, none⟩) hbm).trans m2⟩
  clear q1 q2 q3 q4 hl hr hn h1 h2 al ar ho ha hb v
  go_enter Try.func38, Try.ntmps38
  go_wp2_with fail
  go_quiet (fail)
  go_wp2_with fail
  go_quiet (fail)
  go_wp2_with fail
  go_quiet (fail)
  go_wp2_with fail
  go_region_held3 (fun w' => w'.cell? ⟨bm, 1, none⟩ = some (.pointer pa) ∧ w'.cell? ⟨bm, 2, none⟩ = some (.pointer pb)) (first | go_keep | exact HS.out _ (by assumption))
    (first
      | (go_at_call 39; refine (K1.out _ ?_).mono ?_; (first | exact below_drewN _ _ _ | exact (below_drewN _ _ _).trans (below_drewN _ _ _) | exact ((below_drewN _ _ _).trans (below_drewN _ _ _)).trans (below_drewN _ _ _)); rintro e w1 ⟨p1, rfl, hp1, hb1, _⟩; clear K1)
      | (go_at_call 39; refine (K2.out _ (by assumption)).mono ?_; rintro e w2 ⟨p2, rfl, hp2, hb2, hb3⟩; have hp3 := Lib.hid (hp1.out.to hb3); clear hp1 K2)
      | (go_at_call 39; refine (K3.out _ _ _ hp3 hp2).mono ?_; rintro e w3 ⟨p3, rfl, hp4, hb4⟩; have hb5 := hb2.trans (hb4.mono hb2.size)))
  go_wp2_with fail
  go_ret
  exact ⟨_, rfl, hp4, hb5⟩

set_option maxHeartbeats 2000000 in
set_option maxRecDepth 100000 in
theorem bal_l1 (o m r : Tr) (pl pr : Option Addr) (w : World) (hl : Hid (Rep w w.heap.size pl (.node o m))) (hr : Hid (Rep w w.heap.size pr r)) (al : (Tr.node o m).avl) (ar : r.avl) (hn : (Tr.node o m).len + r.len ≤ 1099511627776)
    (h1 : r.ht + 1 < (Tr.node o m).ht) (h2 : ¬ o.ht < m.ht) (v : (Tr.node o (.node m r)).avl) :
    Calls Try.prog 38 #[.pointer pl, .pointer pr] w fun e w' => ∃ p, e = .returned (.pointer p) ∧ Hid (Rep w' w'.heap.size p (.node o (.node m r))) ∧ Below w.heap.size w w' := by
  obtain ⟨b1, po, pm, rfl, hb1, N1, ho, hm⟩ := hl.out
  obtain ⟨bo, so, lo, ro, rfl, hbo, No⟩ := ho.root
  obtain ⟨bm, sm, lm, rm, rfl, hbm, Nm⟩ := hm.root
  obtain ⟨b2, s2, l2, r2, rfl, hb2, N2⟩ := hr.out.root
  have q1 := Tr.lvs_le al
  have q2 := Tr.lvs_le ar
  have q3 := Tr.ht_lt (Tr.node o m)
  have q4 := Tr.ht_lt r
  have g1 : ((Tr.node o m).ht : Int) ≤ 1099511627776 := by omega
  have g2 : (r.ht : Int) ≤ 1099511627776 := by omega
  have g4 : 0 ≤ (r.ht : Int) := by omega
  have z1 : (r.ht : Int) + 1 < (Tr.node o m).ht := by omega
  have z2 : (m.ht : Int) ≤ o.ht := by omega
  simp only [Tr.len_node] at hn
  have K1 := Lib.hid (fun W (hW : Below w.heap.size w W) => inner_at m r _ _ (Lib.hid hm) hr v.2.1.1 ar (by omega) hW)
  have K2 := Lib.hid (fun W q (hW : Below w.heap.size w W) (hq : Hid (Rep W W.heap.size q (.node m r))) => inner_any o (.node m r) _ q W (Lib.hid (ho.to hW)) hq v.1 v.2.1 (by simp only [Tr.len_node]; omega))
  generalize ((Tr.node o m).ht : Int) = x1 at *
  obtain ⟨a0, a1, a2, a3, a4, a5⟩ := N1
  obtain ⟨d0, d1, d2, d3, d4, d5⟩ := N2
  obtain ⟨u0, u1, u2, u3, u4, u5⟩ := No
  obtain ⟨m0, m1, m2, m3, m4, m5⟩ := Nm
  clear q1 q2 q3 q4 hl hr hn h1 h2 al ar ho hm v
  go_enter Try.func38, Try.ntmps38
  go_wp2_with fail
  go_quiet (fail)
  go_wp2_with fail
  go_quiet (fail)
  go_wp2_with fail
  go_quiet (fail)
  go_wp2_with fail
  refine (K1.out _ (by first | exact below_drewN _ _ _ | exact (below_drewN _ _ _).trans (below_drewN _ _ _) | exact ((below_drewN _ _ _).trans (below_drewN _ _ _)).trans (below_drewN _ _ _))).mono ?_
  rintro e w1 ⟨p1, rfl, hp1, hB1, _⟩
  go_wp2_with fail
  refine (K2.out _ _ hB1 hp1).mono ?_
  rintro e w2 ⟨p2, rfl, hp2, hB2⟩
  go_wp2_with fail
  go_ret
  exact ⟨_, rfl, hp2, hB1.trans (hB2.mono hB1.size)⟩

set_option maxHeartbeats 2000000 in
set_option maxRecDepth 100000 in
theorem bal_r1 (o m l : Tr) (pl pr : Option Addr) (w : World) (hl : Hid (Rep w w.heap.size pl l)) (hr : Hid (Rep w w.heap.size pr (.node m o))) (al : l.avl) (ar : (Tr.node m o).avl) (hn : l.len + (Tr.node m o).len ≤ 1099511627776)
    (h1 : l.ht + 1 < (Tr.node m o).ht) (h2 : ¬ o.ht < m.ht) (v : (Tr.node (.node l m) o).avl) :
    Calls Try.prog 38 #[.pointer pl, .pointer pr] w fun e w' => ∃ p, e = .returned (.pointer p) ∧ Hid (Rep w' w'.heap.size p (.node (.node l m) o)) ∧ Below w.heap.size w w' := by
  obtain ⟨b2, pm, po, rfl, hb2, N2, hm, ho⟩ := hr.out
  obtain ⟨bo, so, lo, ro, rfl, hbo, No⟩ := ho.root
  obtain ⟨bm, sm, lm, rm, rfl, hbm, Nm⟩ := hm.root
  obtain ⟨b1, s1, l1, r1, rfl, hb1, N1⟩ := hl.out.root
  have q1 := Tr.lvs_le al
  have q2 := Tr.lvs_le ar
  have q3 := Tr.ht_lt (Tr.node m o)
  have q4 := Tr.ht_lt l
  have g1 : ((Tr.node m o).ht : Int) ≤ 1099511627776 := by omega
  have g2 : (l.ht : Int) ≤ 1099511627776 := by omega
  have g3 : 0 ≤ ((Tr.node m o).ht : Int) := by omega
  have g4 : 0 ≤ (l.ht : Int) := by omega
  have z0 : (l.ht : Int) ≤ (Tr.node m o).ht + 1 := by omega
  have z1 : (l.ht : Int) + 1 < (Tr.node m o).ht := by omega
  have z2 : (m.ht : Int) ≤ o.ht := by omega
  simp only [Tr.len_node] at hn
  have K1 := Lib.hid (fun W (hW : Below w.heap.size w W) => inner_at l m _ _ hl (Lib.hid hm) al v.1.2.1 (by omega) hW)
  have K2 := Lib.hid (fun W q (hW : Below w.heap.size w W) (hq : Hid (Rep W W.heap.size q (.node l m))) => inner_any (.node l m) o q _ W hq (Lib.hid (ho.to hW)) v.1 v.2.1 (by simp only [Tr.len_node]; omega))
  generalize ((Tr.node m o).ht : Int) = x1 at *
  obtain ⟨a0, a1, a2, a3, a4, a5⟩ := N1
  obtain ⟨d0, d1, d2, d3, d4, d5⟩ := N2
  obtain ⟨u0, u1, u2, u3, u4, u5⟩ := No
  obtain ⟨m0, m1, m2, m3, m4, m5⟩ := Nm
  clear q1 q2 q3 q4 hl hr hn h1 h2 al ar ho hm v
  go_enter Try.func38, Try.ntmps38
  go_wp2_with fail
  go_quiet (fail)
  go_wp2_with fail
  go_quiet (fail)
  go_wp2_with fail
  go_quiet (fail)
  go_wp2_with fail
  go_quiet (fail)
  go_wp2_with fail
  refine (K1.out _ (by first | exact below_drewN _ _ _ | exact (below_drewN _ _ _).trans (below_drewN _ _ _) | exact ((below_drewN _ _ _).trans (below_drewN _ _ _)).trans (below_drewN _ _ _) | exact (((below_drewN _ _ _).trans (below_drewN _ _ _)).trans (below_drewN _ _ _)).trans (below_drewN _ _ _))).mono ?_
  rintro e w1 ⟨p1, rfl, hp1, hB1, _⟩
  go_wp2_with fail
  refine (K2.out _ _ hB1 hp1).mono ?_
  rintro e w2 ⟨p2, rfl, hp2, hB2⟩
  go_wp2_with fail
  go_ret
  exact ⟨_, rfl, hp2, hB1.trans (hB2.mono hB1.size)⟩

set_option maxHeartbeats 2000000 in
set_option maxRecDepth 100000 in
theorem bal_r2 (o a b l : Tr) (pl pr : Option Addr) (w : World) (hl : Hid (Rep w w.heap.size pl l)) (hr : Hid (Rep w w.heap.size pr (.node (.node a b) o))) (al : l.avl) (ar : (Tr.node (.node a b) o).avl) (hn : l.len + (Tr.node (.node a b) o).len ≤ 1099511627776)
    (h1 : l.ht + 1 < (Tr.node (.node a b) o).ht) (h2 : o.ht < (Tr.node a b).ht) (v : (Tr.node (.node l a) (.node b o)).avl) :
    Calls Try.prog 38 #[.pointer pl, .pointer pr] w fun e w' => ∃ p, e = .returned (.pointer p) ∧ Hid (Rep w' w'.heap.size p (.node (.node l a) (.node b o))) ∧ Below w.heap.size w w' := by
  obtain ⟨b2, pm, po, rfl, hb2, N2, hm, ho⟩ := hr.out
  obtain ⟨bo, so, lo, ro, rfl, hbo, No⟩ := ho.root
  obtain ⟨bm, pa, pb, rfl, hbm, Nm, ha, hb⟩ := hm
  obtain ⟨b1, s1, l1, r1, rfl, hb1, N1⟩ := hl.out.root
  have q1 := Tr.lvs_le al
  have q2 := Tr.lvs_le ar
  have q3 := Tr.ht_lt (Tr.node (.node a b) o)
  have q4 := Tr.ht_lt l
  have g1 : ((Tr.node (.node a b) o).ht : Int) ≤ 1099511627776 := by omega
  have g2 : (l.ht : Int) ≤ 1099511627776 := by omega
  have g3 : 0 ≤ ((Tr.node (.node a b) o).ht : Int) := by omega
  have g4 : 0 ≤ (l.ht : Int) := by omega
  have z0 : (l.ht : Int) ≤ (Tr.node (.node a b) o).ht + 1 := by omega
  have z1 : (l.ht : Int) + 1 < (Tr.node (.node a b) o).ht := by omega
  have z2 : (o.ht : Int) < (Tr.node a b).ht := by omega
  simp only [Tr.len_node] at hn
  have K1 := Lib.hid (fun W (hW : Below w.heap.size w W) => inner_at l a _ _ hl (Lib.hid ha) al v.1.2.1 (by omega) hW)
  have K2 := Lib.hid (fun W (hW : Below w.heap.size w W) => inner_at b o _ _ (Lib.hid hb) (Lib.hid ho) v.2.1.1 v.2.1.2.1 (by omega) hW)
  have K3 := Lib.hid (fun W p q (hp : Hid (Rep W W.heap.size p (.node l a))) (hq : Hid (Rep W W.heap.size q (.node b o))) => inner_any (.node l a) (.node b o) p q W hp hq v.1 v.2.1 (by simp only [Tr.len_node]; omega))
  generalize ((Tr.node (.node a b) o).ht : Int) = x1 at *
  generalize ((Tr.node a b).ht : Int) = xm at *
  obtain ⟨a0, a1, a2, a3, a4, a5⟩ := N1
  obtain ⟨d0, d1, d2, d3, d4, d5⟩ := N2
  obtain ⟨u0, u1, u2, u3, u4, u5⟩ := No
  obtain ⟨m0, m1, m2, m3, m4, m5⟩ := Nm
  have HS : Hid (∀ W, Below w.heap.size w W → W.cell? ⟨bm, 1, none⟩ = some (.pointer pa) ∧ W.cell? ⟨bm, 2, none⟩ = some (.pointer pb)) :=
    fun W hW => ⟨(hW.cell (p := ⟨bm, _, none⟩) hbm).trans m1, (hW.cell (p := ⟨bm, _, none⟩) hbm).trans m2⟩
  clear q1 q2 q3 q4 hl hr hn h1 h2 al ar ho ha hb v
  go_enter Try.func38, Try.ntmps38
  go_wp2_with fail
  go_quiet (fail)
  go_wp2_with fail
  go_quiet (fail)
  go_wp2_with fail
  go_quiet (fail)
  go_wp2_with fail
  go_quiet (fail)
  go_wp2_with fail
  go_region_held3 (fun w' => w'.cell? ⟨bm, 1, none⟩ = some (.pointer pa) ∧ w'.cell? ⟨bm, 2, none⟩ = some (.pointer pb)) (first | go_keep | exact HS.out _ (by assumption))
    (first
      | (go_at_call 39; refine (K1.out _ ?_).mono ?_; (first | exact below_drewN _ _ _ | exact (below_drewN _ _ _).trans (below_drewN _ _ _) | exact ((below_drewN _ _ _).trans (below_drewN _ _ _)).trans (below_drewN _ _ _) | exact (((below_drewN _ _ _).trans (below_drewN _ _ _)).trans (below_drewN _ _ _)).trans (below_drewN _ _ _)); rintro e w1 ⟨p1, rfl, hp1, hb1, _⟩; clear K1)
      | (go_at_call 39; refine (K2.out _ (by assumption)).mono ?_; rintro e w2 ⟨p2, rfl, hp2, hb2, hb3⟩; have hp3 := Lib.hid (hp1.out.to hb3); clear hp1 K2)
      | (go_at_call 39; refine (K3.out _ _ _ hp3 hp2).mono ?_; rintro e w3 ⟨p3, rfl, hp4, hb4⟩; have hb5 := hb2.trans (hb4.mono hb2.size)))
  go_wp2_with fail
  go_ret
  exact ⟨_, rfl, hp4, hb5⟩

/-- What a call that joins two trees hands back. -/
def Hands (l r : Tr) (J : Tr → Tr → Tr → Prop) (w : World) (e : Ending) (w' : World) : Prop := ∃ p t, e = .returned (.pointer p) ∧ Hid (Rep w' w'.heap.size p t) ∧ J l r t ∧ Below w.heap.size w w'

theorem balanced_any (l r : Tr) (pl pr : Option Addr) (w : World) (hl : Hid (Rep w w.heap.size pl l)) (hr : Hid (Rep w w.heap.size pr r)) (al : l.avl) (ar : r.avl) (hn : l.len + r.len ≤ 1099511627776) (h1 : l.ht ≤ r.ht + 2) (h2 : r.ht ≤ l.ht + 2) :
    Calls Try.prog 38 #[.pointer pl, .pointer pr] w (Hands l r Tr.Bal w) := by
  by_cases c1 : r.ht + 1 < l.ht
  · match l, al with
    | .leaf s, _ => simp [Tr.ht] at c1
    | .node o m, al =>
      by_cases c2 : o.ht < m.ht
      · match m, al, c2 with
        | .leaf s, _, c2 => simp [Tr.ht] at c2
        | .node a b, al, c2 =>
          have J := Tr.bal_left2 al ar c1 h1 c2
          exact (bal_l2 o a b r pl pr w hl hr al ar hn c1 c2 J.avl).mono fun e w' ⟨p, h3, h4, h5⟩ => ⟨p, _, h3, h4, J, h5⟩
      · have J := Tr.bal_left1 al ar c1 h1 c2
        exact (bal_l1 o m r pl pr w hl hr al ar hn c1 c2 J.avl).mono fun e w' ⟨p, h3, h4, h5⟩ => ⟨p, _, h3, h4, J, h5⟩
  · by_cases c3 : l.ht + 1 < r.ht
    · match r, ar with
      | .leaf s, _ => simp [Tr.ht] at c3
      | .node m o, ar =>
        by_cases c2 : o.ht < m.ht
        · match m, ar, c2 with
          | .leaf s, _, c2 => simp [Tr.ht] at c2
          | .node a b, ar, c2 =>
            have J := Tr.bal_right2 ar al c3 h2 c2
            exact (bal_r2 o a b l pl pr w hl hr al ar hn c3 c2 J.avl).mono fun e w' ⟨p, h3, h4, h5⟩ => ⟨p, _, h3, h4, J, h5⟩
        · have J := Tr.bal_right1 ar al c3 h2 c2
          exact (bal_r1 o m l pl pr w hl hr al ar hn c3 c2 J.avl).mono fun e w' ⟨p, h3, h4, h5⟩ => ⟨p, _, h3, h4, J, h5⟩
    · have J := Tr.bal_plain al ar (by omega) (by omega)
      exact (bal_none l r pl pr w hl hr al ar hn (by omega) (by omega)).mono fun e w' ⟨p, h3, h4, h5⟩ => ⟨p, _, h3, h4, J, h5⟩
end Go.Proofs.Ytkbodbbbgibgfaa
