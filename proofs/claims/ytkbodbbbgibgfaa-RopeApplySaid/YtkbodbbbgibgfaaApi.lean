/-
  New, Concat, Split, ByteAt, Shape by their contracts.
-/
import Derived.Test.YtkbodbbbgibgfaaStr
namespace Go.Proofs.Ytkbodbbbgibgfaa
open Go.RowKit
attribute [local go_sem ↓] Go.wp_at_zero Go.wp_at_succ

/-- The pointer p is the root of a rope with the contents c. -/
def IsRope (w : World) (p : Option Addr) (c : List UInt8) : Prop := ∃ t, RepO w w.heap.size p t ∧ oAvl t ∧ oCon t = c

theorem IsRope.to {w w' : World} {p : Option Addr} {c : List UInt8} (h : IsRope w p c) (hb : Below w.heap.size w w') : IsRope w' p c := by
  obtain ⟨t, h1, h2, h3⟩ := h
  exact ⟨t, h1.to hb, h2, h3⟩

theorem isRope_none (w : World) : IsRope w none [] := ⟨none, rfl, trivial, rfl⟩

/-- A store into a block that holds no node. -/
theorem NodeAt.set {w : World} {b d : Nat} {s : ByteArray} {l r : Option Addr} {n h c : Int} (H : NodeAt w b s l r n h c) (hd : d ≠ b) (v : Value) : NodeAt (w.setCell ⟨d, 0, none⟩ v) b s l r n h c := by
  obtain ⟨a0, a1, a2, a3, a4, a5⟩ := H
  refine ⟨?_, ?_, ?_, ?_, ?_, ?_⟩ <;> (rw [World.cell?_setCell_far w _ _ v (by exact hd)]; assumption)

theorem NodeAt.ne {w : World} {b d : Nat} {s : ByteArray} {l r q : Option Addr} {n h c : Int} (H : NodeAt w b s l r n h c) (hc : w.cell? ⟨d, 0, none⟩ = some (.pointer q)) : d ≠ b := by
  rintro rfl
  have := H.1.symm.trans hc
  cases this

theorem Rep.set {w : World} {B d : Nat} {q : Option Addr} (hc : w.cell? ⟨d, 0, none⟩ = some (.pointer q)) (v : Value) : ∀ {t : Tr} {p : Option Addr}, Rep w B p t → Rep (w.setCell ⟨d, 0, none⟩ v) B p t
  | .leaf _, _, ⟨b, h1, h2, h3⟩ => ⟨b, h1, h2, h3.set (h3.ne hc) v⟩
  | .node _ _, _, ⟨b, pl, pr, h1, h2, h3, h4, h5⟩ => ⟨b, pl, pr, h1, h2, h3.set (h3.ne hc) v, h4.set hc v, h5.set hc v⟩

theorem RepO.set {w : World} {d : Nat} {q : Option Addr} (hc : w.cell? ⟨d, 0, none⟩ = some (.pointer q)) (v : Value) {t : Option Tr} {p : Option Addr} (h : RepO w w.heap.size p t) : RepO (w.setCell ⟨d, 0, none⟩ v) (w.setCell ⟨d, 0, none⟩ v).heap.size p t := by
  have hz : (w.setCell ⟨d, 0, none⟩ v).heap.size = w.heap.size := by simp
  rw [hz]
  cases t with
  | none => exact h
  | some t => exact Rep.set hc v h

theorem IsRope.set {w : World} {d : Nat} {q : Option Addr} (hc : w.cell? ⟨d, 0, none⟩ = some (.pointer q)) (v : Value) {p : Option Addr} {c : List UInt8} (h : IsRope w p c) : IsRope (w.setCell ⟨d, 0, none⟩ v) p c := by
  obtain ⟨t, h1, h2, h3⟩ := h
  exact ⟨t, h1.set hc v, h2, h3⟩

def HandsRope (c : List UInt8) (w : World) (e : Ending) (w' : World) : Prop := ∃ p, e = .returned (.agg #[.pointer p]) ∧ Hid (IsRope w' p c) ∧ Below w.heap.size w w'

theorem build_opt (s : ByteArray) (w : World) (h : s.size ≤ 1099511627776) : Calls Try.prog 27 #[.string s] w (Makes s.data.toList w) := by
  by_cases h0 : s.size = 0
  · obtain rfl := empty_of h0
    refine (build_none w).mono ?_
    rintro e w' ⟨rfl, hb⟩
    exact ⟨none, none, rfl, rfl, rfl, trivial, hb⟩
  · refine (build_any s w (by omega) h).mono ?_
    rintro e w' ⟨p, t, rfl, hp, B, hb⟩
    exact ⟨p, some t, rfl, hp, B.con, B.avl, hb⟩

set_option maxHeartbeats 1000000 in
set_option maxRecDepth 100000 in
theorem new_any (s : ByteArray) (w : World) (h : s.size ≤ 1099511627776) : Calls Try.prog 15 #[.string s] w (HandsRope s.data.toList w) := by
  go_enter Try.func15, Try.ntmps15
  go_wp2_with fail
  have c0 : (w.alloc (.cells #[.pointer none] 27)).cell? ⟨w.heap.size, 0, none⟩ = some (.pointer none) := by go_simp
  have f0 : (w.alloc (.cells #[.pointer none] 27)).frozen? ⟨w.heap.size, 0, none⟩ = false := by go_simp
  have hB : Below w.heap.size w (w.alloc (.cells #[.pointer none] 27)) := (Below.refl _ _).alloc (Nat.le_refl _) _
  have hz : w.heap.size < (w.alloc (.cells #[.pointer none] 27)).heap.size := by simp
  generalize w.alloc (.cells #[.pointer none] 27) = w0 at *
  refine (build_opt s w0 h).mono ?_
  rintro e w1 ⟨p, t, rfl, hp, hc, hv, hb⟩
  have c1 : w1.cell? ⟨w.heap.size, 0, none⟩ = some (.pointer none) := (hb.cell (p := ⟨w.heap.size, 0, none⟩) hz).trans c0
  have f1 : w1.frozen? ⟨w.heap.size, 0, none⟩ = false := (hb.frozen (p := ⟨w.heap.size, 0, none⟩) hz).trans f0
  have HC := Lib.hid hc
  clear c0 f0 hc
  go_wp2_with fail
  have z0 : (w1.setCell ⟨w.heap.size, 0, none⟩ (.pointer p)).cell? ⟨w.heap.size, 0, none⟩ = some (.pointer p) := World.cell?_setCell_same' _ _ _ (by rw [c1]; rfl)
  have HR := Lib.hid (hp.out.set c1 (.pointer p))
  refine bodyPost_ret (v := .agg #[.pointer p]) (by simp [results, Try.results15, go_sem, z0]; try rfl) rfl ?_
  exact ⟨p, rfl, ⟨t, HR.out, hv, HC.out⟩, (hB.trans (hb.mono (Nat.le_of_lt hz))).setCell (p := ⟨w.heap.size, 0, none⟩) (Nat.le_refl _) _⟩

set_option maxHeartbeats 1000000 in
set_option maxRecDepth 100000 in
theorem concat_any (p q : Option Addr) (c d : List UInt8) (w : World) (R1 : Hid (IsRope w p c)) (R2 : Hid (IsRope w q d)) (hn : c.length + d.length ≤ 1099511627776) :
    Calls Try.prog 14 #[.agg #[.pointer p], .agg #[.pointer q]] w (HandsRope (c ++ d) w) := by
  obtain ⟨t1, r1, v1, e1⟩ := R1.out
  obtain ⟨t2, r2, v2, e2⟩ := R2.out
  have E1 := Lib.hid e1
  have E2 := Lib.hid e2
  clear e1 e2
  go_enter Try.func14, Try.ntmps14
  go_wp2_with fail
  have hB : Below w.heap.size w (((w.alloc (.cells #[.pointer p] 27)).alloc (.cells #[.pointer q] 27)).alloc (.cells #[.pointer none] 27)) := (((Below.refl _ _).alloc (Nat.le_refl _) _).alloc (by simp) _).alloc (by simp; omega) _
  have c0 : (((w.alloc (.cells #[.pointer p] 27)).alloc (.cells #[.pointer q] 27)).alloc (.cells #[.pointer none] 27)).cell? ⟨w.heap.size + 1 + 1, 0, none⟩ = some (.pointer none) := by go_simp
  have f0 : (((w.alloc (.cells #[.pointer p] 27)).alloc (.cells #[.pointer q] 27)).alloc (.cells #[.pointer none] 27)).frozen? ⟨w.heap.size + 1 + 1, 0, none⟩ = false := by go_simp
  have hz : w.heap.size + 1 + 1 < (((w.alloc (.cells #[.pointer p] 27)).alloc (.cells #[.pointer q] 27)).alloc (.cells #[.pointer none] 27)).heap.size := by simp
  generalize ((w.alloc (.cells #[.pointer p] 27)).alloc (.cells #[.pointer q] 27)).alloc (.cells #[.pointer none] 27) = w0 at *
  refine (join_any t1 t2 p q w0 (Lib.hid (r1.to hB)) (Lib.hid (r2.to hB)) v1 v2 (by rw [E1.out, E2.out]; exact hn)).mono ?_
  rintro e w1 ⟨p3, t, rfl, hp, hc, hv, hb⟩
  have c1 : w1.cell? ⟨w.heap.size + 1 + 1, 0, none⟩ = some (.pointer none) := (hb.cell (p := ⟨w.heap.size + 1 + 1, 0, none⟩) hz).trans c0
  have f1 : w1.frozen? ⟨w.heap.size + 1 + 1, 0, none⟩ = false := (hb.frozen (p := ⟨w.heap.size + 1 + 1, 0, none⟩) hz).trans f0
  have HC := Lib.hid hc
  clear c0 f0 hc
  go_wp2_with fail
  have z0 : (w1.setCell ⟨w.heap.size + 1 + 1, 0, none⟩ (.pointer p3)).cell? ⟨w.heap.size + 1 + 1, 0, none⟩ = some (.pointer p3) := World.cell?_setCell_same' _ _ _ (by rw [c1]; rfl)
  have HR := Lib.hid (hp.out.set c1 (.pointer p3))
  refine bodyPost_ret (v := .agg #[.pointer p3]) (by simp [results, Try.results14, go_sem, z0]; try rfl) rfl ?_
  exact ⟨p3, rfl, ⟨t, HR.out, hv, by rw [HC.out, E1.out, E2.out]⟩, (hB.trans (hb.mono (by omega))).setCell (p := ⟨w.heap.size + 1 + 1, 0, none⟩) (by simp; omega) _⟩

/-- Split's answer inside the range, and outside. -/
def HandsTwo (c : List UInt8) (i : Nat) (w : World) (e : Ending) (w' : World) : Prop :=
  ∃ p q, e = .returned (.tuple #[.agg #[.pointer p], .agg #[.pointer q], .int .i64 0]) ∧ Hid (IsRope w' p (c.take i)) ∧ Hid (IsRope w' q (c.drop i)) ∧ Below w.heap.size w w'

set_option maxHeartbeats 1000000 in
set_option maxRecDepth 100000 in
theorem split_in (p : Option Addr) (c : List UInt8) (i : Int) (w : World) (R : Hid (IsRope w p c)) (h0 : 0 ≤ i) (h1 : i ≤ c.length) (hn : c.length ≤ 1099511627776) :
    Calls Try.prog 12 #[.agg #[.pointer p], .int .i64 i] w (HandsTwo c i.toNat w) := by
  obtain ⟨t, r, v, e⟩ := R.out
  have E := Lib.hid e
  clear e
  have h2 : ¬ i < 0 := by omega
  go_enter Try.func12, Try.ntmps12
  go_wp2_with fail
  have hB : Below w.heap.size w (((w.alloc (.cells #[.pointer p] 27)).alloc (.cells #[.pointer none] 27)).alloc (.cells #[.pointer none] 27)) := (((Below.refl _ _).alloc (Nat.le_refl _) _).alloc (by simp) _).alloc (by simp; omega) _
  have b0 : (((w.alloc (.cells #[.pointer p] 27)).alloc (.cells #[.pointer none] 27)).alloc (.cells #[.pointer none] 27)).cell? ⟨w.heap.size, 0, none⟩ = some (.pointer p) := by go_simp
  have c0 : (((w.alloc (.cells #[.pointer p] 27)).alloc (.cells #[.pointer none] 27)).alloc (.cells #[.pointer none] 27)).cell? ⟨w.heap.size + 1, 0, none⟩ = some (.pointer none) := by go_simp
  have f0 : (((w.alloc (.cells #[.pointer p] 27)).alloc (.cells #[.pointer none] 27)).alloc (.cells #[.pointer none] 27)).frozen? ⟨w.heap.size + 1, 0, none⟩ = false := by go_simp
  have d0 : (((w.alloc (.cells #[.pointer p] 27)).alloc (.cells #[.pointer none] 27)).alloc (.cells #[.pointer none] 27)).cell? ⟨w.heap.size + 1 + 1, 0, none⟩ = some (.pointer none) := by go_simp
  have g0 : (((w.alloc (.cells #[.pointer p] 27)).alloc (.cells #[.pointer none] 27)).alloc (.cells #[.pointer none] 27)).frozen? ⟨w.heap.size + 1 + 1, 0, none⟩ = false := by go_simp
  have hz : w.heap.size + 1 + 1 < (((w.alloc (.cells #[.pointer p] 27)).alloc (.cells #[.pointer none] 27)).alloc (.cells #[.pointer none] 27)).heap.size := by simp
  generalize ((w.alloc (.cells #[.pointer p] 27)).alloc (.cells #[.pointer none] 27)).alloc (.cells #[.pointer none] 27) = w0 at *
  refine (len_any t p w0 (Lib.hid (r.to hB))).mono ?_
  rintro e w1 ⟨rfl, hb⟩
  have h3 : ¬ i > ((oCon t).length : Nat) := by rw [E.out]; omega
  have K1 := Lib.hid (split_any t p i w1 (Lib.hid ((r.to hB).to hb)) v h0 (by rw [E.out]; exact h1) (by rw [E.out]; exact hn))
  have b1 : w1.cell? ⟨w.heap.size, 0, none⟩ = some (.pointer p) := (hb.cell (p := ⟨w.heap.size, 0, none⟩) (by simp; omega)).trans b0
  have c1 := Lib.hid ((hb.cell (p := ⟨w.heap.size + 1, 0, none⟩) (by simp; omega)).trans c0)
  have f1 := Lib.hid ((hb.frozen (p := ⟨w.heap.size + 1, 0, none⟩) (by simp; omega)).trans f0)
  have d1 := Lib.hid ((hb.cell (p := ⟨w.heap.size + 1 + 1, 0, none⟩) (by simp; omega)).trans d0)
  have g1 := Lib.hid ((hb.frozen (p := ⟨w.heap.size + 1 + 1, 0, none⟩) (by simp; omega)).trans g0)
  clear b0 c0 f0 d0 g0
  have hz1 := hb.size
  go_wp2_with fail
  refine K1.out.mono ?_
  rintro e w2 ⟨p1, p2, t1, t2, rfl, R1, R2, e1, e2, v1, v2, hb2⟩
  have E1 := Lib.hid e1
  have E2 := Lib.hid e2
  have c2 : w2.cell? ⟨w.heap.size + 1, 0, none⟩ = some (.pointer none) := (hb2.cell (p := ⟨w.heap.size + 1, 0, none⟩) (by simp; omega)).trans c1.out
  have f2 : w2.frozen? ⟨w.heap.size + 1, 0, none⟩ = false := (hb2.frozen (p := ⟨w.heap.size + 1, 0, none⟩) (by simp; omega)).trans f1.out
  have d2 : w2.cell? ⟨w.heap.size + 1 + 1, 0, none⟩ = some (.pointer none) := (hb2.cell (p := ⟨w.heap.size + 1 + 1, 0, none⟩) (by simp; omega)).trans d1.out
  have g2 : w2.frozen? ⟨w.heap.size + 1 + 1, 0, none⟩ = false := (hb2.frozen (p := ⟨w.heap.size + 1 + 1, 0, none⟩) (by simp; omega)).trans g1.out
  clear e1 e2 b1 c1 f1 d1 g1 K1
  go_wp2_with fail
  have z1 : ((w2.setCell ⟨w.heap.size + 1, 0, none⟩ (.pointer p1)).setCell ⟨w.heap.size + 1 + 1, 0, none⟩ (.pointer p2)).cell? ⟨w.heap.size + 1, 0, none⟩ = some (.pointer p1) := by
    rw [World.cell?_setCell_far _ _ _ _ (by simp)]
    exact World.cell?_setCell_same' _ _ _ (by rw [c2]; rfl)
  have d3 : (w2.setCell ⟨w.heap.size + 1, 0, none⟩ (.pointer p1)).cell? ⟨w.heap.size + 1 + 1, 0, none⟩ = some (.pointer none) := by
    rw [World.cell?_setCell_far _ _ _ _ (by simp)]
    exact d2
  have z2 : ((w2.setCell ⟨w.heap.size + 1, 0, none⟩ (.pointer p1)).setCell ⟨w.heap.size + 1 + 1, 0, none⟩ (.pointer p2)).cell? ⟨w.heap.size + 1 + 1, 0, none⟩ = some (.pointer p2) := World.cell?_setCell_same' _ _ _ (by rw [d3]; rfl)
  have HR1 := Lib.hid ((R1.out.set c2 (.pointer p1)).set d3 (.pointer p2))
  have HR2 := Lib.hid ((R2.out.set c2 (.pointer p1)).set d3 (.pointer p2))
  clear c2 d3 d2 f2 g2
  refine bodyPost_ret (v := .tuple #[.agg #[.pointer p1], .agg #[.pointer p2], .int .i64 0]) (by simp [results, Try.results12, go_sem, z1, z2]; try rfl) rfl ?_
  exact ⟨p1, p2, rfl, ⟨t1, HR1.out, v1, by rw [E1.out, E.out]⟩, ⟨t2, HR2.out, v2, by rw [E2.out, E.out]⟩, ((hB.trans ((hb.trans (hb2.mono hz1)).mono (by omega))).setCell (p := ⟨w.heap.size + 1, 0, none⟩) (by simp) _).setCell (p := ⟨w.heap.size + 1 + 1, 0, none⟩) (by simp; omega) _⟩

set_option maxHeartbeats 1000000 in
set_option maxRecDepth 100000 in
theorem split_neg (p : Option Addr) (i : Int) (w : World) (h2 : i < 0) :
    Calls Try.prog 12 #[.agg #[.pointer p], .int .i64 i] w fun e w' => e = .returned (.tuple #[.agg #[.pointer none], .agg #[.pointer none], .int .i64 1]) ∧ Below w.heap.size w w' := by
  go_enter Try.func12, Try.ntmps12
  go_wp2_with fail
  refine bodyPost_ret (v := .tuple #[.agg #[.pointer none], .agg #[.pointer none], .int .i64 1]) (by simp [results, Try.results12, go_sem]; try rfl) rfl ⟨rfl, ?_⟩
  exact (((((Below.refl _ _).alloc (Nat.le_refl _) _).alloc (by simp) _).alloc (by simp; omega) _))

set_option maxHeartbeats 1000000 in
set_option maxRecDepth 100000 in
theorem split_big (p : Option Addr) (c : List UInt8) (i : Int) (w : World) (R : Hid (IsRope w p c)) (h0 : 0 ≤ i) (h1 : i > c.length) :
    Calls Try.prog 12 #[.agg #[.pointer p], .int .i64 i] w fun e w' => e = .returned (.tuple #[.agg #[.pointer none], .agg #[.pointer none], .int .i64 1]) ∧ Below w.heap.size w w' := by
  obtain ⟨t, r, v, e⟩ := R.out
  have E := Lib.hid e
  clear e
  have h2 : ¬ i < 0 := by omega
  go_enter Try.func12, Try.ntmps12
  go_wp2_with fail
  have hB : Below w.heap.size w (((w.alloc (.cells #[.pointer p] 27)).alloc (.cells #[.pointer none] 27)).alloc (.cells #[.pointer none] 27)) := (((Below.refl _ _).alloc (Nat.le_refl _) _).alloc (by simp) _).alloc (by simp; omega) _
  have c0 : (((w.alloc (.cells #[.pointer p] 27)).alloc (.cells #[.pointer none] 27)).alloc (.cells #[.pointer none] 27)).cell? ⟨w.heap.size + 1, 0, none⟩ = some (.pointer none) := by go_simp
  have f0 : (((w.alloc (.cells #[.pointer p] 27)).alloc (.cells #[.pointer none] 27)).alloc (.cells #[.pointer none] 27)).frozen? ⟨w.heap.size + 1, 0, none⟩ = false := by go_simp
  have d0 : (((w.alloc (.cells #[.pointer p] 27)).alloc (.cells #[.pointer none] 27)).alloc (.cells #[.pointer none] 27)).cell? ⟨w.heap.size + 1 + 1, 0, none⟩ = some (.pointer none) := by go_simp
  have g0 : (((w.alloc (.cells #[.pointer p] 27)).alloc (.cells #[.pointer none] 27)).alloc (.cells #[.pointer none] 27)).frozen? ⟨w.heap.size + 1 + 1, 0, none⟩ = false := by go_simp
  have hz : w.heap.size + 1 + 1 < (((w.alloc (.cells #[.pointer p] 27)).alloc (.cells #[.pointer none] 27)).alloc (.cells #[.pointer none] 27)).heap.size := by simp
  generalize ((w.alloc (.cells #[.pointer p] 27)).alloc (.cells #[.pointer none] 27)).alloc (.cells #[.pointer none] 27) = w0 at *
  refine (len_any t p w0 (Lib.hid (r.to hB))).mono ?_
  rintro e w1 ⟨rfl, hb⟩
  have h3 : i > ((oCon t).length : Nat) := by rw [E.out]; omega
  have c1 := (hb.cell (p := ⟨w.heap.size + 1, 0, none⟩) (by simp; omega)).trans c0
  have f1 := (hb.frozen (p := ⟨w.heap.size + 1, 0, none⟩) (by simp; omega)).trans f0
  have d1 := (hb.cell (p := ⟨w.heap.size + 1 + 1, 0, none⟩) (by simp; omega)).trans d0
  have g1 := (hb.frozen (p := ⟨w.heap.size + 1 + 1, 0, none⟩) (by simp; omega)).trans g0
  clear c0 f0 d0 g0
  go_wp2_with fail
  have z1 : ((w1.setCell ⟨w.heap.size + 1, 0, none⟩ (.pointer none)).setCell ⟨w.heap.size + 1 + 1, 0, none⟩ (.pointer none)).cell? ⟨w.heap.size + 1, 0, none⟩ = some (.pointer none) := by
    rw [World.cell?_setCell_far _ _ _ _ (by simp)]
    exact World.cell?_setCell_same' _ _ _ (by rw [c1]; rfl)
  have d3 : (w1.setCell ⟨w.heap.size + 1, 0, none⟩ (.pointer none)).cell? ⟨w.heap.size + 1 + 1, 0, none⟩ = some (.pointer none) := by
    rw [World.cell?_setCell_far _ _ _ _ (by simp)]
    exact d1
  have z2 : ((w1.setCell ⟨w.heap.size + 1, 0, none⟩ (.pointer none)).setCell ⟨w.heap.size + 1 + 1, 0, none⟩ (.pointer none)).cell? ⟨w.heap.size + 1 + 1, 0, none⟩ = some (.pointer none) := World.cell?_setCell_same' _ _ _ (by rw [d3]; rfl)
  refine bodyPost_ret (v := .tuple #[.agg #[.pointer none], .agg #[.pointer none], .int .i64 1]) (by simp [results, Try.results12, go_sem, z1, z2]; try rfl) rfl ⟨rfl, ?_⟩
  exact ((hB.trans (hb.mono (by omega))).setCell (p := ⟨w.heap.size + 1, 0, none⟩) (by simp) _).setCell (p := ⟨w.heap.size + 1 + 1, 0, none⟩) (by simp; omega) _

theorem split_out (p : Option Addr) (c : List UInt8) (i : Int) (w : World) (R : Hid (IsRope w p c)) (h : i < 0 ∨ i > c.length) :
    Calls Try.prog 12 #[.agg #[.pointer p], .int .i64 i] w fun e w' => e = .returned (.tuple #[.agg #[.pointer none], .agg #[.pointer none], .int .i64 1]) ∧ Below w.heap.size w w' := by
  by_cases h0 : i < 0
  · exact split_neg p i w h0
  · exact split_big p c i w R (by omega) (h.resolve_left h0)

def HandsByte (c : List UInt8) (i : Nat) (w : World) (e : Ending) (w' : World) : Prop := ∃ x, c[i]? = some x ∧ e = .returned (.tuple #[.int .u8 (x.toNat : Int), .int .i64 0]) ∧ Below w.heap.size w w'

set_option maxHeartbeats 1000000 in
set_option maxRecDepth 100000 in
theorem byteAt_in (p : Option Addr) (c : List UInt8) (i : Int) (w : World) (R : Hid (IsRope w p c)) (h0 : 0 ≤ i) (h1 : i < c.length) (hn : c.length ≤ 1099511627776) :
    Calls Try.prog 13 #[.agg #[.pointer p], .int .i64 i] w (HandsByte c i.toNat w) := by
  obtain ⟨t, r, v, e⟩ := R.out
  obtain ⟨t', rfl⟩ : ∃ t', t = some t' := by
    cases t with
    | none => simp only [oCon] at e; subst e; simp at h1; omega
    | some t' => exact ⟨t', rfl⟩
  simp only [oCon] at e
  have E := Lib.hid e
  have hl : t'.len = c.length := by rw [← e]; rfl
  have HL := Lib.hid hl
  clear e hl
  have h2 : ¬ i < 0 := by omega
  go_enter Try.func13, Try.ntmps13
  go_wp2_with fail
  have hB : Below w.heap.size w (w.alloc (.cells #[.pointer p] 27)) := (Below.refl _ _).alloc (Nat.le_refl _) _
  have b0 : (w.alloc (.cells #[.pointer p] 27)).cell? ⟨w.heap.size, 0, none⟩ = some (.pointer p) := by go_simp
  have hz : w.heap.size < (w.alloc (.cells #[.pointer p] 27)).heap.size := by simp
  generalize w.alloc (.cells #[.pointer p] 27) = w0 at *
  refine (len_any (some t') p w0 (Lib.hid (r.to hB))).mono ?_
  rintro e w1 ⟨rfl, hb⟩
  have h3 : ¬ i ≥ ((oCon (some t')).length : Nat) := by have := HL.out; simp only [oCon, Tr.len] at *; omega
  have K1 := Lib.hid (byte_any t' p i w1 (Lib.hid ((r.to hB).to hb)) v h0 (by rw [HL.out]; exact h1) (by rw [HL.out]; exact hn))
  have b1 : w1.cell? ⟨w.heap.size, 0, none⟩ = some (.pointer p) := (hb.cell (p := ⟨w.heap.size, 0, none⟩) (by simp; omega)).trans b0
  clear b0
  go_wp2_with fail
  refine K1.out.mono ?_
  rintro e w2 ⟨x, hx, rfl, rfl⟩
  have HX := Lib.hid hx
  clear hx K1
  go_wp2_with fail
  go_ret2
  exact ⟨x, by rw [← E.out]; exact HX.out, rfl, hB.trans (hb.mono (Nat.le_of_lt hz))⟩

set_option maxHeartbeats 1000000 in
set_option maxRecDepth 100000 in
theorem byteAt_out (p : Option Addr) (c : List UInt8) (i : Int) (w : World) (R : Hid (IsRope w p c)) (h : i < 0 ∨ i ≥ c.length) :
    Calls Try.prog 13 #[.agg #[.pointer p], .int .i64 i] w fun e w' => e = .returned (.tuple #[.int .u8 0, .int .i64 1]) ∧ Below w.heap.size w w' := by
  obtain ⟨t, r, v, e⟩ := R.out
  have E := Lib.hid e
  clear e
  by_cases h2 : i < 0
  · go_enter Try.func13, Try.ntmps13
    go_wp2_with fail
    go_ret2
    exact ⟨rfl, (Below.refl _ _).alloc (Nat.le_refl _) _⟩
  · have h4 := h.resolve_left h2
    go_enter Try.func13, Try.ntmps13
    go_wp2_with fail
    have hB : Below w.heap.size w (w.alloc (.cells #[.pointer p] 27)) := (Below.refl _ _).alloc (Nat.le_refl _) _
    have hz : w.heap.size < (w.alloc (.cells #[.pointer p] 27)).heap.size := by simp
    generalize w.alloc (.cells #[.pointer p] 27) = w0 at *
    refine (len_any t p w0 (Lib.hid (r.to hB))).mono ?_
    rintro e w1 ⟨rfl, hb⟩
    have h3 : i ≥ ((oCon t).length : Nat) := by rw [E.out]; exact h4
    go_wp2_with fail
    go_ret2
    exact ⟨rfl, hB.trans (hb.mono (Nat.le_of_lt hz))⟩

/-- Shape's answer: height h, n leaves. -/
def HandsShape (c : List UInt8) (w : World) (e : Ending) (w' : World) : Prop :=
  ∃ h n : Nat, e = .returned (.tuple #[.int .i64 h, .int .i64 n]) ∧ ((c = [] ∧ h = 0 ∧ n = 0) ∨ (c ≠ [] ∧ (fibs h).2 ≤ n ∧ n ≤ c.length ∧ h < n)) ∧ Below w.heap.size w w'

set_option maxHeartbeats 1000000 in
set_option maxRecDepth 100000 in
theorem shape_any (p : Option Addr) (c : List UInt8) (w : World) (R : Hid (IsRope w p c)) : Calls Try.prog 28 #[.agg #[.pointer p]] w (HandsShape c w) := by
  obtain ⟨t, r, v, e⟩ := R.out
  cases t with
  | none =>
    obtain rfl : p = none := r
    have E := Lib.hid e
    clear e
    go_enter Try.func28, Try.ntmps28
    go_wp2_with fail
    go_ret2
    exact ⟨0, 0, rfl, .inl ⟨E.out.symm, rfl, rfl⟩, (Below.refl _ _).alloc (Nat.le_refl _) _⟩
  | some t =>
    have F := Lib.hid (Tr.fib_le v)
    have L := Lib.hid (Tr.lvs_le v)
    have T := Lib.hid (Tr.ht_lt t)
    have P := Lib.hid (Tr.len_pos v)
    simp only [oCon] at e
    have E := Lib.hid e
    clear e
    obtain ⟨b, s, l, r', rfl, hb, N⟩ := Rep.root r
    have N' := N.below (World.block_lt_of_cell? w _ N.1) ((Below.refl w.heap.size w).alloc (Nat.le_refl _) (.cells #[.pointer (some ⟨b, 0, none⟩)] 27))
    obtain ⟨a0, a1, a2, a3, a4, a5⟩ := N'
    have hB : Below w.heap.size w (w.alloc (.cells #[.pointer (some ⟨b, 0, none⟩)] 27)) := (Below.refl _ _).alloc (Nat.le_refl _) _
    clear N r
    go_enter Try.func28, Try.ntmps28
    go_wp2_with fail
    go_quiet (fail)
    go_wp2_with fail
    go_ret2
    refine ⟨_, _, rfl, .inr ⟨?_, F.out, ?_, T.out⟩, by first | exact hB | exact hB.trans (below_drewN _ _ _)⟩
    · rintro rfl
      have := P.out
      rw [Tr.len, E.out] at this
      simp at this
    · have := L.out
      rw [Tr.len, E.out] at this
      exact this
end Go.Proofs.Ytkbodbbbgibgfaa
