/-
  split and byteAt by their contracts.
-/
import Derived.Test.YtkbodbbbgibgfaaJoin2
namespace Go.Proofs.Ytkbodbbbgibgfaa
open Go.RowKit
attribute [local go_sem ↓] Go.wp_at_zero Go.wp_at_succ

theorem leaf_opt (s : ByteArray) (w : World) : Calls Try.prog 36 #[.string s] w (Makes s.data.toList w) := by
  by_cases h : s.size = 0
  · obtain rfl := empty_of h
    refine (leaf_none w).mono ?_
    rintro e w' ⟨rfl, rfl⟩
    exact ⟨none, none, rfl, rfl, rfl, trivial, Below.refl _ _⟩
  · refine (leaf_some s w (by omega)).mono ?_
    rintro e w' ⟨p, rfl, hp, hb⟩
    exact ⟨p, some (.leaf s), rfl, hp, rfl, Nat.pos_of_ne_zero h, hb⟩

/-- Two trees that together hold c, divided at i. -/
def Splits (c : List UInt8) (i : Nat) (w : World) (e : Ending) (w' : World) : Prop :=
  ∃ p q a b, e = .returned (.tuple #[.pointer p, .pointer q]) ∧ Hid (RepO w' w'.heap.size p a) ∧ Hid (RepO w' w'.heap.size q b) ∧ oCon a = c.take i ∧ oCon b = c.drop i ∧ oAvl a ∧ oAvl b ∧ Below w.heap.size w w'

theorem split_zero (t : Option Tr) (p : Option Addr) (w : World) (R : Hid (RepO w w.heap.size p t)) (v : oAvl t) :
    Calls Try.prog 24 #[.pointer p, .int .i64 0] w (Splits (oCon t) 0 w) := by
  go_enter Try.func24, Try.ntmps24
  go_wp2_with fail
  go_ret2
  exact ⟨_, _, none, t, rfl, rfl, R, rfl, rfl, trivial, v, Below.refl _ _⟩

set_option maxHeartbeats 1000000 in
set_option maxRecDepth 100000 in
theorem split_leaf (s : ByteArray) (p : Option Addr) (i : Int) (w : World) (R : Hid (Rep w w.heap.size p (.leaf s))) (h0 : 0 < i) (h1 : i ≤ s.size) (hn : s.size ≤ 1099511627776) :
    Calls Try.prog 24 #[.pointer p, .int .i64 i] w (Splits s.data.toList i.toNat w) := by
  obtain ⟨b, rfl, hb, N⟩ := R.out
  have KL := Lib.hid (isleaf_yes b _ _ _ _ _ w N)
  have K1 := Lib.hid (fun W => leaf_opt (s.extract 0 i.toNat) W)
  have K2 := Lib.hid (fun W => leaf_opt (s.extract i.toNat s.size) W)
  obtain ⟨a0, a1, a2, a3, a4, a5⟩ := N
  have HS : Hid (∀ W, Below w.heap.size w W → W.cell? ⟨b, 0, none⟩ = some (.string s)) := fun W hW => (hW.cell (p := ⟨b, _, none⟩) hb).trans a0
  have g1 : (0 : Int) ≤ i := by omega
  have g2 : ¬ i = 0 := by omega
  have g3 : (i : Int) ≤ 1099511627776 := by omega
  have g4 : (s.size : Int) ≤ 1099511627776 := by omega
  clear R
  go_enter Try.func24, Try.ntmps24
  go_wp2_with fail
  refine KL.out.mono ?_
  rintro e w' ⟨rfl, rfl⟩
  go_wp2_with fail
  go_region_held3 (fun w' => w'.cell? ⟨b, 0, none⟩ = some (.string s)) (first | go_keep | exact HS.out _ hb4 | exact HS.out _ hb1)
    (first
      | (go_at_call 36; refine (K1.out _).mono ?_; rintro e w1 ⟨p1, t1, rfl, hp1, c1, v1, hb0⟩; have hb1 : Below w'.heap.size w' w1 := (by first | exact hb0 | exact below_drew' hb0); have C1 := Lib.hid c1; clear K1 c1)
      | (go_at_call 36; refine (K2.out _).mono ?_; rintro e w2 ⟨p2, t2, rfl, hp2, c2, v2, hb2⟩; have hb4 := hb1.trans (hb2.mono hb1.size); have hp3 := Lib.hid (hp1.out.to hb2); have C2 := Lib.hid c2; clear c2 hp1 K2))
  go_wp2_with fail
  go_ret2
  exact ⟨_, _, t1, t2, rfl, hp3, hp2, by rw [C1.out, Lib.extract_data]; simp, by rw [C2.out, Lib.extract_to_end], v1, v2, hb4⟩

theorem splits_left {l r : Tr} {i : Int} (h : i.toNat ≤ l.len) : (Tr.node l r).con.take i.toNat = l.con.take i.toNat ∧ (Tr.node l r).con.drop i.toNat = l.con.drop i.toNat ++ r.con := by
  have h' : i.toNat ≤ l.con.length := h
  simp only [Tr.con]
  exact ⟨by rw [List.take_append_of_le_length h'], by rw [List.drop_append_of_le_length h']⟩

theorem splits_right {l r : Tr} {i : Int} (h : (l.len : Int) < i) : (Tr.node l r).con.take i.toNat = l.con ++ r.con.take (i - l.len).toNat ∧ (Tr.node l r).con.drop i.toNat = r.con.drop (i - l.len).toNat := by
  have h' : i.toNat = l.con.length + (i - l.len).toNat := by simp only [Tr.len] at *; omega
  simp only [Tr.con]
  rw [h']
  exact ⟨by rw [List.take_length_add_append], by rw [List.drop_length_add_append]⟩

set_option maxHeartbeats 2000000 in
set_option maxRecDepth 100000 in
theorem split_L (l r : Tr) (p : Option Addr) (i : Int) (w : World) (R : Hid (Rep w w.heap.size p (.node l r))) (v : (Tr.node l r).avl) (h0 : 0 < i) (h1 : i ≤ l.len) (hn : (Tr.node l r).len ≤ 1099511627776)
    (ih : ∀ W q, Hid (Rep W W.heap.size q l) → Calls Try.prog 24 #[.pointer q, .int .i64 i] W (Splits l.con i.toNat W)) :
    Calls Try.prog 24 #[.pointer p, .int .i64 i] w (Splits (Tr.node l r).con i.toNat w) := by
  obtain ⟨b, pl, pr, rfl, hb, N, hl, hr⟩ := R.out
  obtain ⟨bl, sl, ll, rl, rfl, hbl, NL⟩ := hl.root
  have hx : (Tr.node l r).ht ≠ 0 := by simp [Tr.ht]
  have KL := Lib.hid (isleaf_no b _ _ _ _ _ _ w N (by omega))
  have K1 := Lib.hid (ih w _ (Lib.hid hl))
  have K2 := Lib.hid (fun W q t (hW : Below w.heap.size w W) (hq : Hid (RepO W W.heap.size q t)) (hc : oCon t = l.con.drop i.toNat) (hv : oAvl t) => join_any t (some r) q pr W hq (Lib.hid (hr.to hW)) hv v.2.1
    (by rw [hc]; simp only [oCon, List.length_drop]; simp only [Tr.len_node] at hn; simp only [Tr.len] at hn; omega))
  have E := Lib.hid (splits_left (l := l) (r := r) (i := i) (by omega))
  have hz := Lib.hid v
  have g1 : (l.len : Int) ≤ 1099511627776 := by simp only [Tr.len_node] at hn; omega
  have g2 : ¬ i = 0 := by omega
  have g3 : (0 : Int) ≤ l.len := by omega
  generalize ((Tr.node l r).ht : Int) = x1 at *
  generalize (l.len : Int) = n at *
  obtain ⟨a0, a1, a2, a3, a4, a5⟩ := N
  obtain ⟨d0, d1, d2, d3, d4, d5⟩ := NL
  have HS : Hid (∀ W, Below w.heap.size w W → W.cell? ⟨b, 2, none⟩ = some (.pointer pr)) := fun W hW => (hW.cell (p := ⟨b, _, none⟩) hb).trans a2
  clear R hl hr ih hn hx v
  go_enter Try.func24, Try.ntmps24
  go_wp2_with fail
  refine KL.out.mono ?_
  rintro e w' ⟨rfl, rfl⟩
  go_wp2_with fail
  refine K1.out.mono ?_
  rintro e w1 ⟨q1, q2, t1, t2, rfl, R1, R2, c1, c2, v1, v2, hb1⟩
  have C1 := Lib.hid c1
  have K3 := Lib.hid (K2.out w1 q2 t2 hb1 R2 c2 v2)
  have s2 := HS.out w1 hb1
  have C2 := Lib.hid c2
  clear c1 c2 K1 K2
  go_wp2_with fail
  refine K3.out.mono ?_
  rintro e w2 ⟨q3, t3, rfl, R3, c3, v3, hb3⟩
  have C3 := Lib.hid c3
  clear c3
  go_wp2_with fail
  go_ret2
  exact ⟨_, _, t1, t3, rfl, Lib.hid (R1.out.to hb3), R3, by rw [C1.out, E.out.1], by rw [C3.out, C2.out, E.out.2]; rfl, v1, v3, hb1.trans (hb3.mono hb1.size)⟩

set_option maxHeartbeats 2000000 in
set_option maxRecDepth 100000 in
theorem split_R (l r : Tr) (p : Option Addr) (i : Int) (w : World) (R : Hid (Rep w w.heap.size p (.node l r))) (v : (Tr.node l r).avl) (h1 : (l.len : Int) < i) (h2 : i ≤ (Tr.node l r).len) (hn : (Tr.node l r).len ≤ 1099511627776)
    (ih : ∀ W q, Hid (Rep W W.heap.size q r) → Calls Try.prog 24 #[.pointer q, .int .i64 (i - l.len)] W (Splits r.con (i - l.len).toNat W)) :
    Calls Try.prog 24 #[.pointer p, .int .i64 i] w (Splits (Tr.node l r).con i.toNat w) := by
  obtain ⟨b, pl, pr, rfl, hb, N, hl, hr⟩ := R.out
  obtain ⟨bl, sl, ll, rl, rfl, hbl, NL⟩ := hl.root
  have hx : (Tr.node l r).ht ≠ 0 := by simp [Tr.ht]
  have KL := Lib.hid (isleaf_no b _ _ _ _ _ _ w N (by omega))
  have K1 := Lib.hid (fun W (hW : Below w.heap.size w W) => ih W _ (Lib.hid (hr.to hW)))
  have K2 := Lib.hid (fun W q t (hW : Below w.heap.size w W) (hq : Hid (RepO W W.heap.size q t)) (hc : oCon t = r.con.take (i - l.len).toNat) (hv : oAvl t) => join_any (some l) t _ q W (Lib.hid (hl.to hW)) hq v.1 hv
    (by rw [hc]; simp only [oCon, List.length_take]; simp only [Tr.len_node] at hn; simp only [Tr.len] at hn; omega))
  have E := Lib.hid (splits_right (l := l) (r := r) (i := i) h1)
  have g1 : (i : Int) ≤ 1099511627776 := by omega
  have g0 : (0 : Int) < i := by omega
  have g2 : ¬ i = 0 := by omega
  have g3 : (0 : Int) ≤ l.len := by omega
  have g4 : IntKind.i64.wrap (i - l.len) = i - l.len := IntWalk.i64_in _ (by omega)
  generalize ((Tr.node l r).ht : Int) = x1 at *
  generalize (l.len : Int) = n at *
  obtain ⟨a0, a1, a2, a3, a4, a5⟩ := N
  obtain ⟨d0, d1, d2, d3, d4, d5⟩ := NL
  have HS : Hid (∀ W, Below w.heap.size w W → W.cell? ⟨b, 1, none⟩ = some (.pointer (some ⟨bl, 0, none⟩)) ∧ W.cell? ⟨b, 2, none⟩ = some (.pointer pr) ∧ W.cell? ⟨bl, 3, none⟩ = some (.int .i64 n)) :=
    fun W hW => ⟨(hW.cell (p := ⟨b, _, none⟩) hb).trans a1, (hW.cell (p := ⟨b, _, none⟩) hb).trans a2, (hW.cell (p := ⟨bl, _, none⟩) hbl).trans d3⟩
  clear R hl hr ih hn hx v
  go_enter Try.func24, Try.ntmps24
  go_wp2_with fail
  refine KL.out.mono ?_
  rintro e w' ⟨rfl, rfl⟩
  go_wp2_with fail
  go_region_held3 (fun w' => w'.cell? ⟨b, 1, none⟩ = some (.pointer (some ⟨bl, 0, none⟩)) ∧ w'.cell? ⟨b, 2, none⟩ = some (.pointer pr) ∧ w'.cell? ⟨bl, 3, none⟩ = some (.int .i64 n)) (first | go_keep | exact HS.out _ hb1)
    ((go_at_call 24; refine (K1.out _ ?_).mono ?_; (first | exact Below.refl _ _ | exact (Below.refl _ _).drew | exact below_drewN _ _ _); rintro e w1 ⟨q1, q2, t1, t2, rfl, R1, R2, c1, c2, v1, v2, hb0⟩; have hb1 : Below w'.heap.size w' w1 := (by first | exact hb0 | exact below_drew' hb0 | exact below_n hb0); have C1 := Lib.hid c1; have C2 := Lib.hid c2; clear c1 c2))
  obtain ⟨s1, _, _⟩ := HS.out w1 hb1
  have K3 := Lib.hid (K2.out w1 q1 t1 hb1 R1 C1.out v1)
  clear K1 K2
  go_wp2_with fail
  refine K3.out.mono ?_
  rintro e w2 ⟨q3, t3, rfl, R3, c3, v3, hb3⟩
  have C3 := Lib.hid c3
  clear c3
  go_wp2_with fail
  go_ret2
  exact ⟨_, _, t3, t2, rfl, R3, Lib.hid (R2.out.to hb3), by rw [C3.out, C1.out, E.out.1]; rfl, by rw [C2.out, E.out.2], v3, v2, hb1.trans (hb3.mono hb1.size)⟩

theorem split_tree : ∀ (t : Tr) (p : Option Addr) (i : Int) (w : World), Hid (Rep w w.heap.size p t) → t.avl → 0 ≤ i → i ≤ t.len → t.len ≤ 1099511627776 → Calls Try.prog 24 #[.pointer p, .int .i64 i] w (Splits t.con i.toNat w) := by
  intro t
  induction t with
  | leaf s =>
    intro p i w R v h0 h1 hn
    by_cases hi : i = 0
    · subst hi; exact split_zero (some (.leaf s)) p w R v
    · exact split_leaf s p i w R (by omega) h1 hn
  | node l r ihl ihr =>
    intro p i w R v h0 h1 hn
    by_cases hi : i = 0
    · subst hi; exact split_zero (some (.node l r)) p w R v
    · have hn' := hn
      rw [Tr.len_node] at hn'
      by_cases h2 : i ≤ l.len
      · exact split_L l r p i w R v (by omega) h2 hn (fun W q hq => ihl q i W hq v.1 h0 h2 (by omega))
      · exact split_R l r p i w R v (by omega) h1 hn (fun W q hq => ihr q (i - l.len) W hq v.2.1 (by omega) (by rw [Tr.len_node] at h1; omega) (by omega))

theorem split_any (t : Option Tr) (p : Option Addr) (i : Int) (w : World) (R : Hid (RepO w w.heap.size p t)) (v : oAvl t) (h0 : 0 ≤ i) (h1 : i ≤ (oCon t).length) (hn : (oCon t).length ≤ 1099511627776) : Calls Try.prog 24 #[.pointer p, .int .i64 i] w (Splits (oCon t) i.toNat w) := by
  cases t with
  | none =>
    obtain rfl : i = 0 := by simp [oCon] at h1; omega
    exact split_zero none p w R v
  | some t => exact split_tree t p i w R v h0 h1 hn
end Go.Proofs.Ytkbodbbbgibgfaa
