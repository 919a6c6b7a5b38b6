/-
  join by its contract: the concatenation of two trees, as high as the higher one or one more.
-/
import Derived.Test.YtkbodbbbgibgfaaJoin
namespace Go.Proofs.Ytkbodbbbgibgfaa
open Go.RowKit
attribute [local go_sem ↓] Go.wp_at_zero Go.wp_at_succ

theorem join_nil_left (p : Option Addr) (w : World) : Calls Try.prog 26 #[.pointer none, .pointer p] w fun e w' => e = .returned (.pointer p) ∧ w' = w := by
  go_enter Try.func26, Try.ntmps26
  go_wp2_with fail
  go_ret
  exact ⟨rfl, rfl⟩

theorem join_nil_right (b : Nat) (w : World) : Calls Try.prog 26 #[.pointer (some ⟨b, 0, none⟩), .pointer none] w fun e w' => e = .returned (.pointer (some ⟨b, 0, none⟩)) ∧ w' = w := by
  go_enter Try.func26, Try.ntmps26
  go_wp2_with fail
  go_ret
  exact ⟨rfl, rfl⟩

set_option maxHeartbeats 1000000 in
set_option maxRecDepth 100000 in
theorem join_ll (s t : ByteArray) (p1 p2 : Option Addr) (w : World) (R1 : Hid (Rep w w.heap.size p1 (.leaf s))) (R2 : Hid (Rep w w.heap.size p2 (.leaf t))) (h1 : 0 < s.size) (h2 : 0 < t.size) (hn : s.size + t.size ≤ 1099511627776) :
    Calls Try.prog 26 #[.pointer p1, .pointer p2] w (Hands (.leaf s) (.leaf t) Tr.Joined w) := by
  have K := Lib.hid (joinLeaves_any s t p1 p2 w R1 R2 h1 h2 hn)
  obtain ⟨b1, rfl, _, N1⟩ := R1.out
  obtain ⟨b2, rfl, _, N2⟩ := R2.out
  have K1 := Lib.hid (isleaf_yes b1 _ _ _ _ _ w N1)
  have K2 := Lib.hid (isleaf_yes b2 _ _ _ _ _ w N2)
  clear R1 R2 hn h1 h2
  go_enter Try.func26, Try.ntmps26
  go_wp2_with fail
  refine K1.out.mono ?_
  rintro e w' ⟨rfl, rfl⟩
  go_wp2_with fail
  refine K2.out.mono ?_
  rintro e w' ⟨rfl, rfl⟩
  go_wp2_with fail
  refine K.out.mono ?_
  rintro e w' ⟨p, t, rfl, hp, J, hb⟩
  go_wp2_with fail
  go_ret
  exact ⟨_, _, rfl, hp, J, hb⟩

/-- A call that leaves the world alone, behind an earlier draw. -/
theorem quiet_more {f : FuncId} {args : Array Value} {w : World} {j k : Nat} {v : Value} (h : Calls Try.prog f args (w.drewN (j + k)) fun e u => e = .returned v ∧ u = w.drewN (j + k)) :
    Calls Try.prog f args (w.drewN (j + k)) fun e u => e = .returned v ∧ ∃ m, u = w.drewN (j + m) := by
  refine h.mono ?_
  rintro e u ⟨h1, h2⟩
  exact ⟨h1, k, h2⟩

theorem isleaf_of (b : Nat) (s : ByteArray) (l r : Option Addr) (n h c : Int) (w : World) (hn : NodeAt w b s l r n h c) (h0 : h = 0) :
    Calls Try.prog 35 #[.pointer (some ⟨b, 0, none⟩)] w fun e w' => e = .returned (.bool true) ∧ w' = w := by
  subst h0
  exact isleaf_yes b s l r n c w hn

set_option maxHeartbeats 2000000 in
set_option maxRecDepth 100000 in
theorem join_L1 (a b r : Tr) (p1 p2 : Option Addr) (w : World) (R1 : Hid (Rep w w.heap.size p1 (.node a b))) (R2 : Hid (Rep w w.heap.size p2 r)) (v1 : (Tr.node a b).avl) (v2 : r.avl) (hn : (Tr.node a b).len + r.len ≤ 1099511627776)
    (h1 : r.ht + 1 < (Tr.node a b).ht)
    (ih : ∀ W q1 q2, Hid (Rep W W.heap.size q1 b) → Hid (Rep W W.heap.size q2 r) → Calls Try.prog 26 #[.pointer q1, .pointer q2] W (Hands b r Tr.Joined W)) :
    Calls Try.prog 26 #[.pointer p1, .pointer p2] w (Hands (.node a b) r Tr.Joined w) := by
  have hc := (Or.inl h1 : r.ht + 1 < (Tr.node a b).ht ∨ r.ht = 0)
  have hx : (Tr.node a b).ht ≠ 0 := by simp [Tr.ht]
  obtain ⟨b1, pa, pb, rfl, hb1, N1, ha, hb⟩ := R1.out
  obtain ⟨b2, s2, l2, r2, rfl, hb2, N2⟩ := R2.out.root
  have q1 := Tr.lvs_le v1
  have q2 := Tr.lvs_le v2
  have q3 := Tr.ht_lt (Tr.node a b)
  have q4 := Tr.ht_lt r
  have g1 : ((Tr.node a b).ht : Int) ≤ 1099511627776 := by omega
  have g2 : (r.ht : Int) ≤ 1099511627776 := by omega
  have g4 : 0 ≤ (r.ht : Int) := by omega
  have z1 : (r.ht : Int) + 1 < (Tr.node a b).ht := by omega
  have zd : decide ((r.ht : Int) + 1 < (Tr.node a b).ht) = true := by simpa using z1
  have hw : IntKind.i64.wrap ((r.ht : Int) + 1) = r.ht + 1 := IntWalk.i64_in _ (by omega)
  have KL := Lib.hid (isleaf_no b1 _ _ _ _ _ _ w N1 (by omega))
  have K1 := Lib.hid (fun W (hW : Below w.heap.size w W) => ih W _ _ (Lib.hid (hb.to hW)) (Lib.hid (R2.out.to hW)))
  have K2 := Lib.hid (fun W q t (hW : Below w.heap.size w W) (hq : Hid (Rep W W.heap.size q t)) (J : Tr.Joined b r t) => balanced_any a t _ q W (Lib.hid (ha.to hW)) hq v1.1 J.avl
    (by rw [J.len]; simp only [Tr.len_node] at hn; omega) (Tr.join_left_diff v1 hc J).1 (Tr.join_left_diff v1 hc J).2)
  have K3 := Lib.hid (fun t u (J : Tr.Joined b r t) (B : Tr.Bal a t u) => Tr.join_left v1 hc J B)
  generalize ((Tr.node a b).ht : Int) = x1 at *
  generalize (r.ht : Int) = x2 at *
  obtain ⟨a0, a1, a2, a3, a4, a5⟩ := N1
  obtain ⟨d0, d1, d2, d3, d4, d5⟩ := N2
  have HS : Hid (∀ W, Below w.heap.size w W → W.cell? ⟨b1, 1, none⟩ = some (.pointer pa) ∧ W.cell? ⟨b1, 2, none⟩ = some (.pointer pb)) :=
    fun W hW => ⟨(hW.cell (p := ⟨b1, _, none⟩) hb1).trans a1, (hW.cell (p := ⟨b1, _, none⟩) hb1).trans a2⟩
  clear q1 q2 q3 q4 R1 R2 hn v1 v2 ih ha hb hc z1 hx
  go_enter Try.func26, Try.ntmps26
  go_wp2_with fail
  refine KL.out.mono ?_
  rintro e w' ⟨rfl, rfl⟩
  go_wp2_with fail
  go_quiet (fail)
  go_wp2_with fail
  go_region_held3 (fun w' => w'.cell? ⟨b1, 1, none⟩ = some (.pointer pa) ∧ w'.cell? ⟨b1, 2, none⟩ = some (.pointer pb)) (first | go_keep | exact HS.out _ hb4 | exact HS.out _ hb1)
    (first
      | (go_at_call 26; refine (K1.out _ ?_).mono ?_; (first | exact below_drewN _ _ _ | exact (below_drewN _ _ _).trans (below_drewN _ _ _) | exact ((below_drewN _ _ _).trans (below_drewN _ _ _)).trans (below_drewN _ _ _)); rintro e w1 ⟨p1, t1, rfl, hp1, J1, hb0⟩; have hb1 : Below w'.heap.size w' w1 := (by first | exact below_n hb0 | exact below_n (below_n hb0) | exact below_n (below_n (below_n hb0))); clear K1)
      | (go_at_call 38; refine (K2.out _ _ _ hb1 hp1 J1).mono ?_; rintro e w2 ⟨p2, t2, rfl, hp2, J2, hb2⟩; have hb4 := hb1.trans (hb2.mono hb1.size)))
  go_wp2_with fail
  go_ret
  exact ⟨_, _, rfl, hp2, K3.out _ _ J1 J2, hb4⟩

set_option maxHeartbeats 2000000 in
set_option maxRecDepth 100000 in
theorem join_L2 (a b r : Tr) (p1 p2 : Option Addr) (w : World) (R1 : Hid (Rep w w.heap.size p1 (.node a b))) (R2 : Hid (Rep w w.heap.size p2 r)) (v1 : (Tr.node a b).avl) (v2 : r.avl) (hn : (Tr.node a b).len + r.len ≤ 1099511627776)
    (h0 : r.ht = 0) (h1 : ¬ r.ht + 1 < (Tr.node a b).ht)
    (ih : ∀ W q1 q2, Hid (Rep W W.heap.size q1 b) → Hid (Rep W W.heap.size q2 r) → Calls Try.prog 26 #[.pointer q1, .pointer q2] W (Hands b r Tr.Joined W)) :
    Calls Try.prog 26 #[.pointer p1, .pointer p2] w (Hands (.node a b) r Tr.Joined w) := by
  have hc := (Or.inr h0 : r.ht + 1 < (Tr.node a b).ht ∨ r.ht = 0)
  have hx : (Tr.node a b).ht ≠ 0 := by simp [Tr.ht]
  obtain ⟨b1, pa, pb, rfl, hb1, N1, ha, hb⟩ := R1.out
  obtain ⟨b2, s2, l2, r2, rfl, hb2, N2⟩ := R2.out.root
  have q1 := Tr.lvs_le v1
  have q2 := Tr.lvs_le v2
  have q3 := Tr.ht_lt (Tr.node a b)
  have q4 := Tr.ht_lt r
  have g1 : ((Tr.node a b).ht : Int) ≤ 1099511627776 := by omega
  have g2 : (r.ht : Int) ≤ 1099511627776 := by omega
  have g4 : 0 ≤ (r.ht : Int) := by omega
  have z1 : ¬ (r.ht : Int) + 1 < (Tr.node a b).ht := by omega
  have zd : decide ((r.ht : Int) + 1 < (Tr.node a b).ht) = false := by simpa using z1
  have hw : IntKind.i64.wrap ((r.ht : Int) + 1) = r.ht + 1 := IntWalk.i64_in _ (by omega)
  have KL := Lib.hid (isleaf_no b1 _ _ _ _ _ _ w N1 (by omega))
  have KR := Lib.hid (fun k => isleaf_of b2 _ _ _ _ _ _ (w.drewN k) N2 (by omega))
  have K1 := Lib.hid (fun W (hW : Below w.heap.size w W) => ih W _ _ (Lib.hid (hb.to hW)) (Lib.hid (R2.out.to hW)))
  have K2 := Lib.hid (fun W q t (hW : Below w.heap.size w W) (hq : Hid (Rep W W.heap.size q t)) (J : Tr.Joined b r t) => balanced_any a t _ q W (Lib.hid (ha.to hW)) hq v1.1 J.avl
    (by rw [J.len]; simp only [Tr.len_node] at hn; omega) (Tr.join_left_diff v1 hc J).1 (Tr.join_left_diff v1 hc J).2)
  have K3 := Lib.hid (fun t u (J : Tr.Joined b r t) (B : Tr.Bal a t u) => Tr.join_left v1 hc J B)
  generalize ((Tr.node a b).ht : Int) = x1 at *
  generalize (r.ht : Int) = x2 at *
  obtain ⟨a0, a1, a2, a3, a4, a5⟩ := N1
  obtain ⟨d0, d1, d2, d3, d4, d5⟩ := N2
  have HS : Hid (∀ W, Below w.heap.size w W → W.cell? ⟨b1, 1, none⟩ = some (.pointer pa) ∧ W.cell? ⟨b1, 2, none⟩ = some (.pointer pb)) :=
    fun W hW => ⟨(hW.cell (p := ⟨b1, _, none⟩) hb1).trans a1, (hW.cell (p := ⟨b1, _, none⟩) hb1).trans a2⟩
  clear q1 q2 q3 q4 R1 R2 hn v1 v2 ih ha hb hc z1 hx
  go_enter Try.func26, Try.ntmps26
  go_wp2_with fail
  refine KL.out.mono ?_
  rintro e w' ⟨rfl, rfl⟩
  go_wp2_with fail
  go_quiet ((go_at_call 35; exact Calls.quiet_of_same (KR.out _)))
  go_wp2_with fail
  go_region_held3 (fun w' => w'.cell? ⟨b1, 1, none⟩ = some (.pointer pa) ∧ w'.cell? ⟨b1, 2, none⟩ = some (.pointer pb)) (first | go_keep | exact HS.out _ hb4 | exact HS.out _ hb1)
    (first
      | (go_at_call 26; refine (K1.out _ ?_).mono ?_; (first | exact below_drewN _ _ _ | exact (below_drewN _ _ _).trans (below_drewN _ _ _) | exact ((below_drewN _ _ _).trans (below_drewN _ _ _)).trans (below_drewN _ _ _)); rintro e w1 ⟨p1, t1, rfl, hp1, J1, hb0⟩; have hb1 : Below w'.heap.size w' w1 := (by first | exact below_n hb0 | exact below_n (below_n hb0) | exact below_n (below_n (below_n hb0))); clear K1)
      | (go_at_call 38; refine (K2.out _ _ _ hb1 hp1 J1).mono ?_; rintro e w2 ⟨p2, t2, rfl, hp2, J2, hb2⟩; have hb4 := hb1.trans (hb2.mono hb1.size)))
  go_wp2_with fail
  go_ret
  exact ⟨_, _, rfl, hp2, K3.out _ _ J1 J2, hb4⟩

set_option maxHeartbeats 2000000 in
set_option maxRecDepth 100000 in
theorem join_R1 (a b l : Tr) (p1 p2 : Option Addr) (w : World) (R1 : Hid (Rep w w.heap.size p1 l)) (R2 : Hid (Rep w w.heap.size p2 (.node a b))) (v1 : l.avl) (v2 : (Tr.node a b).avl) (hn : l.len + (Tr.node a b).len ≤ 1099511627776)
    (h0 : l.ht ≠ 0) (h1 : l.ht + 1 < (Tr.node a b).ht)
    (ih : ∀ W q1 q2, Hid (Rep W W.heap.size q1 l) → Hid (Rep W W.heap.size q2 a) → Calls Try.prog 26 #[.pointer q1, .pointer q2] W (Hands l a Tr.Joined W)) :
    Calls Try.prog 26 #[.pointer p1, .pointer p2] w (Hands l (.node a b) Tr.Joined w) := by
  have hc := (Or.inl h1 : l.ht + 1 < (Tr.node a b).ht ∨ l.ht = 0)
  have hx : (Tr.node a b).ht ≠ 0 := by simp [Tr.ht]
  obtain ⟨b1, s1, l1, r1, rfl, hb1, N1⟩ := R1.out.root
  obtain ⟨b2, pa, pb, rfl, hb2, N2, ha, hb⟩ := R2.out
  have q1 := Tr.lvs_le v1
  have q2 := Tr.lvs_le v2
  have q3 := Tr.ht_lt (Tr.node a b)
  have q4 := Tr.ht_lt l
  have g1 : ((Tr.node a b).ht : Int) ≤ 1099511627776 := by omega
  have g2 : (l.ht : Int) ≤ 1099511627776 := by omega
  have g3 : 0 ≤ ((Tr.node a b).ht : Int) := by omega
  have g4 : 0 ≤ (l.ht : Int) := by omega
  have z1 : (l.ht : Int) + 1 < (Tr.node a b).ht := by omega
  have zd : decide ((l.ht : Int) + 1 < (Tr.node a b).ht) = true := by simpa using z1
  have zd2 : decide (((Tr.node a b).ht : Int) + 1 < l.ht) = false := by simp; omega
  have hw : IntKind.i64.wrap ((l.ht : Int) + 1) = l.ht + 1 := IntWalk.i64_in _ (by omega)
  have hw2 : IntKind.i64.wrap (((Tr.node a b).ht : Int) + 1) = (Tr.node a b).ht + 1 := IntWalk.i64_in _ (by omega)
  have KL := Lib.hid (fun k => isleaf_no b1 _ _ _ _ _ _ (w.drewN k) N1 (by omega))
  have KR := Lib.hid (fun k => isleaf_no b2 _ _ _ _ _ _ (w.drewN k) N2 (by omega))
  have KL0 := Lib.hid (isleaf_no b1 _ _ _ _ _ _ w N1 (by omega))
  have KR0 := Lib.hid (isleaf_no b2 _ _ _ _ _ _ w N2 (by omega))
  have K1 := Lib.hid (fun W (hW : Below w.heap.size w W) => ih W _ _ (Lib.hid (R1.out.to hW)) (Lib.hid (ha.to hW)))
  have K2 := Lib.hid (fun W q t (hW : Below w.heap.size w W) (hq : Hid (Rep W W.heap.size q t)) (J : Tr.Joined l a t) => balanced_any t b q _ W hq (Lib.hid (hb.to hW)) J.avl v2.2.1
    (by rw [J.len]; simp only [Tr.len_node] at hn; omega) (Tr.join_right_diff v2 hc J).1 (Tr.join_right_diff v2 hc J).2)
  have K3 := Lib.hid (fun t u (J : Tr.Joined l a t) (B : Tr.Bal t b u) => Tr.join_right v2 hc J B)
  generalize ((Tr.node a b).ht : Int) = x2 at *
  generalize (l.ht : Int) = x1 at *
  obtain ⟨a0, a1, a2, a3, a4, a5⟩ := N1
  obtain ⟨d0, d1, d2, d3, d4, d5⟩ := N2
  have HS : Hid (∀ W, Below w.heap.size w W → W.cell? ⟨b2, 1, none⟩ = some (.pointer pa) ∧ W.cell? ⟨b2, 2, none⟩ = some (.pointer pb)) :=
    fun W hW => ⟨(hW.cell (p := ⟨b2, _, none⟩) hb2).trans d1, (hW.cell (p := ⟨b2, _, none⟩) hb2).trans d2⟩
  clear q1 q2 q3 q4 R1 R2 hn v1 v2 ih ha hb hc z1 hx
  go_enter Try.func26, Try.ntmps26
  go_wp2_with fail
  refine KL0.out.mono ?_
  rintro e w' ⟨rfl, rfl⟩
  go_wp2_with fail
  go_quiet ((go_at_call 35; exact Calls.quiet_of_same (KR.out _)))
  go_wp2_with fail
  go_quiet (fail)
  go_wp2_with fail
  go_region_held3 (fun w' => w'.cell? ⟨b2, 1, none⟩ = some (.pointer pa) ∧ w'.cell? ⟨b2, 2, none⟩ = some (.pointer pb)) (first | go_keep | exact HS.out _ hb4 | exact HS.out _ hb1)
    (first
      | (go_at_call 26; refine (K1.out _ ?_).mono ?_; (first | exact below_drewN _ _ _ | exact (below_drewN _ _ _).trans (below_drewN _ _ _) | exact ((below_drewN _ _ _).trans (below_drewN _ _ _)).trans (below_drewN _ _ _)); rintro e w1 ⟨p1, t1, rfl, hp1, J1, hb0⟩; have hb1 : Below w'.heap.size w' w1 := (by first | exact below_n hb0 | exact below_n (below_n hb0) | exact below_n (below_n (below_n hb0))); clear K1)
      | (go_at_call 38; refine (K2.out _ _ _ hb1 hp1 J1).mono ?_; rintro e w2 ⟨p2, t2, rfl, hp2, J2, hb2⟩; have hb4 := hb1.trans (hb2.mono hb1.size)))
  go_wp2_with fail
  go_ret
  exact ⟨_, _, rfl, hp2, K3.out _ _ J1 J2, hb4⟩

set_option maxHeartbeats 2000000 in
set_option maxRecDepth 100000 in
theorem join_R2 (a b l : Tr) (p1 p2 : Option Addr) (w : World) (R1 : Hid (Rep w w.heap.size p1 l)) (R2 : Hid (Rep w w.heap.size p2 (.node a b))) (v1 : l.avl) (v2 : (Tr.node a b).avl) (hn : l.len + (Tr.node a b).len ≤ 1099511627776)
    (h0 : l.ht = 0) (h1 : l.ht + 1 < (Tr.node a b).ht)
    (ih : ∀ W q1 q2, Hid (Rep W W.heap.size q1 l) → Hid (Rep W W.heap.size q2 a) → Calls Try.prog 26 #[.pointer q1, .pointer q2] W (Hands l a Tr.Joined W)) :
    Calls Try.prog 26 #[.pointer p1, .pointer p2] w (Hands l (.node a b) Tr.Joined w) := by
  have hc := (Or.inr h0 : l.ht + 1 < (Tr.node a b).ht ∨ l.ht = 0)
  have hx : (Tr.node a b).ht ≠ 0 := by simp [Tr.ht]
  obtain ⟨b1, s1, l1, r1, rfl, hb1, N1⟩ := R1.out.root
  obtain ⟨b2, pa, pb, rfl, hb2, N2, ha, hb⟩ := R2.out
  have q1 := Tr.lvs_le v1
  have q2 := Tr.lvs_le v2
  have q3 := Tr.ht_lt (Tr.node a b)
  have q4 := Tr.ht_lt l
  have g1 : ((Tr.node a b).ht : Int) ≤ 1099511627776 := by omega
  have g2 : (l.ht : Int) ≤ 1099511627776 := by omega
  have g3 : 0 ≤ ((Tr.node a b).ht : Int) := by omega
  have g4 : 0 ≤ (l.ht : Int) := by omega
  have z1 : (l.ht : Int) + 1 < (Tr.node a b).ht := by omega
  have zd : decide ((l.ht : Int) + 1 < (Tr.node a b).ht) = true := by simpa using z1
  have zd2 : decide (((Tr.node a b).ht : Int) + 1 < l.ht) = false := by simp; omega
  have hw : IntKind.i64.wrap ((l.ht : Int) + 1) = l.ht + 1 := IntWalk.i64_in _ (by omega)
  have hw2 : IntKind.i64.wrap (((Tr.node a b).ht : Int) + 1) = (Tr.node a b).ht + 1 := IntWalk.i64_in _ (by omega)
  have KL := Lib.hid (fun k => isleaf_of b1 _ _ _ _ _ _ (w.drewN k) N1 (by omega))
  have KR := Lib.hid (fun k => isleaf_no b2 _ _ _ _ _ _ (w.drewN k) N2 (by omega))
  have KL0 := Lib.hid (isleaf_of b1 _ _ _ _ _ _ w N1 (by omega))
  have KR0 := Lib.hid (isleaf_no b2 _ _ _ _ _ _ w N2 (by omega))
  have K1 := Lib.hid (fun W (hW : Below w.heap.size w W) => ih W _ _ (Lib.hid (R1.out.to hW)) (Lib.hid (ha.to hW)))
  have K2 := Lib.hid (fun W q t (hW : Below w.heap.size w W) (hq : Hid (Rep W W.heap.size q t)) (J : Tr.Joined l a t) => balanced_any t b q _ W hq (Lib.hid (hb.to hW)) J.avl v2.2.1
    (by rw [J.len]; simp only [Tr.len_node] at hn; omega) (Tr.join_right_diff v2 hc J).1 (Tr.join_right_diff v2 hc J).2)
  have K3 := Lib.hid (fun t u (J : Tr.Joined l a t) (B : Tr.Bal t b u) => Tr.join_right v2 hc J B)
  generalize ((Tr.node a b).ht : Int) = x2 at *
  generalize (l.ht : Int) = x1 at *
  obtain ⟨a0, a1, a2, a3, a4, a5⟩ := N1
  obtain ⟨d0, d1, d2, d3, d4, d5⟩ := N2
  have HS : Hid (∀ W, Below w.heap.size w W → W.cell? ⟨b2, 1, none⟩ = some (.pointer pa) ∧ W.cell? ⟨b2, 2, none⟩ = some (.pointer pb)) :=
    fun W hW => ⟨(hW.cell (p := ⟨b2, _, none⟩) hb2).trans d1, (hW.cell (p := ⟨b2, _, none⟩) hb2).trans d2⟩
  clear q1 q2 q3 q4 R1 R2 hn v1 v2 ih ha hb hc z1 hx
  go_enter Try.func26, Try.ntmps26
  go_wp2_with fail
  refine KL0.out.mono ?_
  rintro e w' ⟨rfl, rfl⟩
  go_wp2_with fail
  refine KR0.out.mono ?_
  rintro e w' ⟨rfl, rfl⟩
  go_wp2_with fail
  go_quiet ((go_at_call 35; exact Calls.quiet_of_same (KR.out _)))
  go_wp2_with fail
  go_quiet (fail)
  go_wp2_with fail
  go_region_held3 (fun w' => w'.cell? ⟨b2, 1, none⟩ = some (.pointer pa) ∧ w'.cell? ⟨b2, 2, none⟩ = some (.pointer pb)) (first | go_keep | exact HS.out _ hb4 | exact HS.out _ hb1)
    (first
      | (go_at_call 26; refine (K1.out _ ?_).mono ?_; (first | exact below_drewN _ _ _ | exact (below_drewN _ _ _).trans (below_drewN _ _ _) | exact ((below_drewN _ _ _).trans (below_drewN _ _ _)).trans (below_drewN _ _ _)); rintro e w1 ⟨p1, t1, rfl, hp1, J1, hb0⟩; have hb1 : Below w'.heap.size w' w1 := (by first | exact below_n hb0 | exact below_n (below_n hb0) | exact below_n (below_n (below_n hb0))); clear K1)
      | (go_at_call 38; refine (K2.out _ _ _ hb1 hp1 J1).mono ?_; rintro e w2 ⟨p2, t2, rfl, hp2, J2, hb2⟩; have hb4 := hb1.trans (hb2.mono hb1.size)))
  go_wp2_with fail
  go_ret
  exact ⟨_, _, rfl, hp2, K3.out _ _ J1 J2, hb4⟩

set_option maxHeartbeats 2000000 in
set_option maxRecDepth 100000 in
theorem join_R3 (a b l : Tr) (p1 p2 : Option Addr) (w : World) (R1 : Hid (Rep w w.heap.size p1 l)) (R2 : Hid (Rep w w.heap.size p2 (.node a b))) (v1 : l.avl) (v2 : (Tr.node a b).avl) (hn : l.len + (Tr.node a b).len ≤ 1099511627776)
    (h0 : l.ht = 0) (h1 : ¬ l.ht + 1 < (Tr.node a b).ht)
    (ih : ∀ W q1 q2, Hid (Rep W W.heap.size q1 l) → Hid (Rep W W.heap.size q2 a) → Calls Try.prog 26 #[.pointer q1, .pointer q2] W (Hands l a Tr.Joined W)) :
    Calls Try.prog 26 #[.pointer p1, .pointer p2] w (Hands l (.node a b) Tr.Joined w) := by
  have hc := (Or.inr h0 : l.ht + 1 < (Tr.node a b).ht ∨ l.ht = 0)
  have hx : (Tr.node a b).ht ≠ 0 := by simp [Tr.ht]
  obtain ⟨b1, s1, l1, r1, rfl, hb1, N1⟩ := R1.out.root
  obtain ⟨b2, pa, pb, rfl, hb2, N2, ha, hb⟩ := R2.out
  have q1 := Tr.lvs_le v1
  have q2 := Tr.lvs_le v2
  have q3 := Tr.ht_lt (Tr.node a b)
  have q4 := Tr.ht_lt l
  have g1 : ((Tr.node a b).ht : Int) ≤ 1099511627776 := by omega
  have g2 : (l.ht : Int) ≤ 1099511627776 := by omega
  have g3 : 0 ≤ ((Tr.node a b).ht : Int) := by omega
  have g4 : 0 ≤ (l.ht : Int) := by omega
  have z1 : ¬ (l.ht : Int) + 1 < (Tr.node a b).ht := by omega
  have zd : decide ((l.ht : Int) + 1 < (Tr.node a b).ht) = false := by simpa using z1
  have zd2 : decide (((Tr.node a b).ht : Int) + 1 < l.ht) = false := by simp; omega
  have hw : IntKind.i64.wrap ((l.ht : Int) + 1) = l.ht + 1 := IntWalk.i64_in _ (by omega)
  have hw2 : IntKind.i64.wrap (((Tr.node a b).ht : Int) + 1) = (Tr.node a b).ht + 1 := IntWalk.i64_in _ (by omega)
  have KL := Lib.hid (fun k => isleaf_of b1 _ _ _ _ _ _ (w.drewN k) N1 (by omega))
  have KR := Lib.hid (fun k => isleaf_no b2 _ _ _ _ _ _ (w.drewN k) N2 (by omega))
  have KL0 := Lib.hid (isleaf_of b1 _ _ _ _ _ _ w N1 (by omega))
  have KR0 := Lib.hid (isleaf_no b2 _ _ _ _ _ _ w N2 (by omega))
  have K1 := Lib.hid (fun W (hW : Below w.heap.size w W) => ih W _ _ (Lib.hid (R1.out.to hW)) (Lib.hid (ha.to hW)))
  have K2 := Lib.hid (fun W q t (hW : Below w.heap.size w W) (hq : Hid (Rep W W.heap.size q t)) (J : Tr.Joined l a t) => balanced_any t b q _ W hq (Lib.hid (hb.to hW)) J.avl v2.2.1
    (by rw [J.len]; simp only [Tr.len_node] at hn; omega) (Tr.join_right_diff v2 hc J).1 (Tr.join_right_diff v2 hc J).2)
  have K3 := Lib.hid (fun t u (J : Tr.Joined l a t) (B : Tr.Bal t b u) => Tr.join_right v2 hc J B)
  generalize ((Tr.node a b).ht : Int) = x2 at *
  generalize (l.ht : Int) = x1 at *
  obtain ⟨a0, a1, a2, a3, a4, a5⟩ := N1
  obtain ⟨d0, d1, d2, d3, d4, d5⟩ := N2
  have HS : Hid (∀ W, Below w.heap.size w W → W.cell? ⟨b2, 1, none⟩ = some (.pointer pa) ∧ W.cell? ⟨b2, 2, none⟩ = some (.pointer pb)) :=
    fun W hW => ⟨(hW.cell (p := ⟨b2, _, none⟩) hb2).trans d1, (hW.cell (p := ⟨b2, _, none⟩) hb2).trans d2⟩
  clear q1 q2 q3 q4 R1 R2 hn v1 v2 ih ha hb hc z1 hx
  go_enter Try.func26, Try.ntmps26
  go_wp2_with fail
  refine KL0.out.mono ?_
  rintro e w' ⟨rfl, rfl⟩
  go_wp2_with fail
  refine KR0.out.mono ?_
  rintro e w' ⟨rfl, rfl⟩
  go_wp2_with fail
  go_quiet ((go_at_call 35; exact Calls.quiet_of_same (KR.out _)))
  go_wp2_with fail
  go_quiet ((go_at_call 35; exact quiet_more (KL.out _)))
  go_wp2_with fail
  go_region_held3 (fun w' => w'.cell? ⟨b2, 1, none⟩ = some (.pointer pa) ∧ w'.cell? ⟨b2, 2, none⟩ = some (.pointer pb)) (first | go_keep | exact HS.out _ hb4 | exact HS.out _ hb1)
    (first
      | (go_at_call 26; refine (K1.out _ ?_).mono ?_; (first | exact below_drewN _ _ _ | exact (below_drewN _ _ _).trans (below_drewN _ _ _) | exact ((below_drewN _ _ _).trans (below_drewN _ _ _)).trans (below_drewN _ _ _)); rintro e w1 ⟨p1, t1, rfl, hp1, J1, hb0⟩; have hb1 : Below w'.heap.size w' w1 := (by first | exact below_n hb0 | exact below_n (below_n hb0) | exact below_n (below_n (below_n hb0))); clear K1)
      | (go_at_call 38; refine (K2.out _ _ _ hb1 hp1 J1).mono ?_; rintro e w2 ⟨p2, t2, rfl, hp2, J2, hb2⟩; have hb4 := hb1.trans (hb2.mono hb1.size)))
  go_wp2_with fail
  go_ret
  exact ⟨_, _, rfl, hp2, K3.out _ _ J1 J2, hb4⟩

set_option maxHeartbeats 2000000 in
set_option maxRecDepth 100000 in
theorem join_M (l r : Tr) (p1 p2 : Option Addr) (w : World) (R1 : Hid (Rep w w.heap.size p1 l)) (R2 : Hid (Rep w w.heap.size p2 r)) (v1 : l.avl) (v2 : r.avl) (hn : l.len + r.len ≤ 1099511627776)
    (hl0 : l.ht ≠ 0) (hr0 : r.ht ≠ 0) (h1 : ¬ r.ht + 1 < l.ht) (h2 : ¬ l.ht + 1 < r.ht) :
    Calls Try.prog 26 #[.pointer p1, .pointer p2] w (Hands l r Tr.Joined w) := by
  have K := Lib.hid (fun W (hW : Below w.heap.size w W) => inner_at l r p1 p2 R1 R2 v1 v2 hn hW)
  have J := Lib.hid (Tr.bal_plain v1 v2 (by omega) (by omega)).joined
  obtain ⟨b1, s1, l1, r1, rfl, hb1, N1⟩ := R1.out.root
  obtain ⟨b2, s2, l2, r2, rfl, hb2, N2⟩ := R2.out.root
  have q1 := Tr.lvs_le v1
  have q2 := Tr.lvs_le v2
  have q3 := Tr.ht_lt l
  have q4 := Tr.ht_lt r
  have g1 : (r.ht : Int) ≤ 1099511627776 := by omega
  have g2 : (l.ht : Int) ≤ 1099511627776 := by omega
  have g3 : 0 ≤ (r.ht : Int) := by omega
  have g4 : 0 ≤ (l.ht : Int) := by omega
  have zd : decide ((l.ht : Int) + 1 < r.ht) = false := by simp; omega
  have zd2 : decide ((r.ht : Int) + 1 < l.ht) = false := by simp; omega
  have hw : IntKind.i64.wrap ((l.ht : Int) + 1) = l.ht + 1 := IntWalk.i64_in _ (by omega)
  have hw2 : IntKind.i64.wrap ((r.ht : Int) + 1) = r.ht + 1 := IntWalk.i64_in _ (by omega)
  have KL := Lib.hid (fun k => isleaf_no b1 _ _ _ _ _ _ (w.drewN k) N1 (by omega))
  have KR := Lib.hid (fun k => isleaf_no b2 _ _ _ _ _ _ (w.drewN k) N2 (by omega))
  have KL0 := Lib.hid (isleaf_no b1 _ _ _ _ _ _ w N1 (by omega))
  generalize (r.ht : Int) = x2 at *
  generalize (l.ht : Int) = x1 at *
  obtain ⟨a0, a1, a2, a3, a4, a5⟩ := N1
  obtain ⟨d0, d1, d2, d3, d4, d5⟩ := N2
  clear q1 q2 q3 q4 R1 R2 hn v1 v2 hl0 hr0 h1 h2
  go_enter Try.func26, Try.ntmps26
  go_wp2_with fail
  refine KL0.out.mono ?_
  rintro e w' ⟨rfl, rfl⟩
  go_wp2_with fail
  go_quiet ((go_at_call 35; exact Calls.quiet_of_same (KR.out _)))
  go_wp2_with fail
  go_quiet ((go_at_call 35; exact quiet_more (KL.out _)))
  go_wp2_with fail
  refine (K.out _ (by first | exact below_drewN _ _ _ | exact (below_drewN _ _ _).trans (below_drewN _ _ _) | exact ((below_drewN _ _ _).trans (below_drewN _ _ _)).trans (below_drewN _ _ _))).mono ?_
  rintro e w1 ⟨p, rfl, hp, hb, _⟩
  go_wp2_with fail
  go_ret
  exact ⟨_, _, rfl, hp, J.out, hb⟩

theorem join_trees (k : Nat) : ∀ (l r : Tr) (p1 p2 : Option Addr) (w : World), l.siz + r.siz ≤ k → Hid (Rep w w.heap.size p1 l) → Hid (Rep w w.heap.size p2 r) → l.avl → r.avl → l.len + r.len ≤ 1099511627776 →
    Calls Try.prog 26 #[.pointer p1, .pointer p2] w (Hands l r Tr.Joined w) := by
  induction k with
  | zero =>
    intro l r p1 p2 w h
    have : 0 < l.siz := by cases l <;> simp [Tr.siz]
    omega
  | succ k ih =>
    intro l r p1 p2 w hk R1 R2 v1 v2 hn
    have hL : ∀ a b, l = .node a b → r.ht + 1 < l.ht ∨ r.ht = 0 → Calls Try.prog 26 #[.pointer p1, .pointer p2] w (Hands l r Tr.Joined w) := by
      rintro a b rfl hc
      have ih' : ∀ W q1 q2, Hid (Rep W W.heap.size q1 b) → Hid (Rep W W.heap.size q2 r) → Calls Try.prog 26 #[.pointer q1, .pointer q2] W (Hands b r Tr.Joined W) :=
        fun W q1 q2 g1 g2 => ih b r q1 q2 W (by simp only [Tr.siz] at hk; omega) g1 g2 v1.2.1 v2 (by simp only [Tr.len_node] at hn; omega)
      by_cases h1 : r.ht + 1 < (Tr.node a b).ht
      · exact join_L1 a b r p1 p2 w R1 R2 v1 v2 hn h1 ih'
      · exact join_L2 a b r p1 p2 w R1 R2 v1 v2 hn (hc.resolve_left h1) h1 ih'
    have hR : ∀ a b, r = .node a b → l.ht + 1 < r.ht ∨ l.ht = 0 → Calls Try.prog 26 #[.pointer p1, .pointer p2] w (Hands l r Tr.Joined w) := by
      rintro a b rfl hc
      have ih' : ∀ W q1 q2, Hid (Rep W W.heap.size q1 l) → Hid (Rep W W.heap.size q2 a) → Calls Try.prog 26 #[.pointer q1, .pointer q2] W (Hands l a Tr.Joined W) :=
        fun W q1 q2 g1 g2 => ih l a q1 q2 W (by simp only [Tr.siz] at hk; omega) g1 g2 v1 v2.1 (by simp only [Tr.len_node] at hn; omega)
      by_cases h1 : l.ht + 1 < (Tr.node a b).ht
      · by_cases h0 : l.ht = 0
        · exact join_R2 a b l p1 p2 w R1 R2 v1 v2 hn h0 h1 ih'
        · exact join_R1 a b l p1 p2 w R1 R2 v1 v2 hn h0 h1 ih'
      · exact join_R3 a b l p1 p2 w R1 R2 v1 v2 hn (hc.resolve_left h1) h1 ih'
    match l, r with
    | .leaf s, .leaf t => exact join_ll s t p1 p2 w R1 R2 v1 v2 hn
    | .leaf s, .node a b => exact hR a b rfl (.inr rfl)
    | .node a b, .leaf s => exact hL a b rfl (.inr rfl)
    | .node a b, .node c d =>
      by_cases h1 : (Tr.node c d).ht + 1 < (Tr.node a b).ht
      · exact hL a b rfl (.inl h1)
      · by_cases h2 : (Tr.node a b).ht + 1 < (Tr.node c d).ht
        · exact hR c d rfl (.inl h2)
        · exact join_M _ _ p1 p2 w R1 R2 v1 v2 hn (by simp [Tr.ht]) (by simp [Tr.ht]) h1 h2

/-- Contents and the height condition of a tree or none. -/
def oCon : Option Tr → List UInt8
  | none => []
  | some t => t.con
def oAvl : Option Tr → Prop
  | none => True
  | some t => t.avl

def Makes (c : List UInt8) (w : World) (e : Ending) (w' : World) : Prop := ∃ p t, e = .returned (.pointer p) ∧ Hid (RepO w' w'.heap.size p t) ∧ oCon t = c ∧ oAvl t ∧ Below w.heap.size w w'

theorem join_any (l r : Option Tr) (p1 p2 : Option Addr) (w : World) (R1 : Hid (RepO w w.heap.size p1 l)) (R2 : Hid (RepO w w.heap.size p2 r)) (v1 : oAvl l) (v2 : oAvl r) (hn : (oCon l).length + (oCon r).length ≤ 1099511627776) :
    Calls Try.prog 26 #[.pointer p1, .pointer p2] w (Makes (oCon l ++ oCon r) w) := by
  match l, r, R1, R2 with
  | none, r, R1, R2 =>
    obtain rfl : p1 = none := R1.out
    refine (join_nil_left p2 w).mono ?_
    rintro e w' ⟨rfl, rfl⟩
    exact ⟨p2, r, rfl, R2, rfl, v2, Below.refl _ _⟩
  | some l, none, R1, R2 =>
    obtain rfl : p2 = none := R2.out
    obtain ⟨b, s, l1, r1, rfl, _, _⟩ := Rep.root R1.out
    refine (join_nil_right b w).mono ?_
    rintro e w' ⟨rfl, rfl⟩
    exact ⟨_, some l, rfl, R1, by simp [oCon], v1, Below.refl _ _⟩
  | some l, some r, R1, R2 =>
    refine (join_trees _ l r p1 p2 w (Nat.le_refl _) R1 R2 v1 v2 hn).mono ?_
    rintro e w' ⟨p, t, rfl, hp, J, hb⟩
    exact ⟨p, some t, rfl, hp, J.con, J.avl, hb⟩
end Go.Proofs.Ytkbodbbbgibgfaa
