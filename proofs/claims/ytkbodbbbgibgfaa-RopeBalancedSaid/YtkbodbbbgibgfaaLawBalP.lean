/-
  What the walk of RopeBalanced's law holds between its statements.
-/
import Derived.Test.YtkbodbbbgibgfaaHeld
import Derived.Test.YtkbodbbbgibgfaaOpenP
namespace Go.Proofs.Ytkbodbbbgibgfaa.lawBal
open Go.RowKit
attribute [local go_sem ↓] Go.wp_at_zero Go.wp_at_succ

/-- Mod's answer: between nothing and n. -/
def ModIn (n : Int) (w : World) (e : Ending) (w' : World) : Prop := ∃ r, 0 ≤ r ∧ r < n ∧ e = .returned (.int .i64 r) ∧ w = w'

set_option maxHeartbeats 1000000 in
set_option maxRecDepth 100000 in
theorem mod_any (x n : Int) (w : World) (h0 : 0 < n) (h1 : n ≤ 1000000) : Calls Try.prog 16 #[.int .i64 x, .int .i64 n] w (ModIn n w) := by
  have t1 : x.tmod n < n := Int.tmod_lt_of_pos x h0
  have t2 : -n < x.tmod n := by
    have := Int.tmod_lt_of_pos (-x) h0
    rw [Int.neg_tmod] at this
    omega
  have n0 : n ≠ 0 := by omega
  have n1 : n ≠ -1 := by omega
  have n2 : ¬ n ≤ 0 := by omega
  have n3 : (n == 0) = false := by simp; omega
  by_cases hn : x.tmod n < 0
  · go_enter Try.func16, Try.ntmps16
    go_wp2_with fail
    go_ret
    exact ⟨_, by omega, by omega, rfl, rfl⟩
  · go_enter Try.func16, Try.ntmps16
    go_wp2_with fail
    go_ret
    exact ⟨_, by omega, by omega, rfl, rfl⟩

theorem later_N {w w' : World} (n : Nat) (h : Below (w.drewN n).heap.size (w.drewN n) w') : Below w.heap.size w w' := (below_drewN _ _ _).trans h

theorem below_drew1 {B : Nat} {a w : World} (h : Below B a w) (n : Nat) : Below B a (w.drewN n) := h.trans (below_drewN _ _ _)

theorem below_drew' {w w' : World} (h : Below w.drew.heap.size w.drew w') : Below w.heap.size w w' := (Below.refl _ _).drew.trans h

/-- A contract seen from an earlier world, that tells of its own world too. -/
theorem upto2 {w0 W : World} {f : FuncId} {args : Array Value} {v : Ending} (hW : Below w0.heap.size w0 W) (h : Calls Try.prog f args W fun e w' => e = v ∧ Below W.heap.size W w') :
    Calls Try.prog f args W fun e w' => e = v ∧ Below w0.heap.size w0 w' ∧ Below W.heap.size W w' :=
  h.mono fun _ _ ⟨he, hb⟩ => ⟨he, hW.trans (hb.mono hW.size), hb⟩

theorem split2 {w0 W : World} {args : Array Value} {c : List UInt8} {i : Nat} (hW : Below w0.heap.size w0 W) (h : Calls Try.prog 12 args W (HandsTwo c i W)) :
    Calls Try.prog 12 args W fun e w' => ∃ p q, e = .returned (.tuple #[.agg #[.pointer p], .agg #[.pointer q], .int .i64 0]) ∧ Hid (IsRope w' p (c.take i)) ∧ Hid (IsRope w' q (c.drop i)) ∧ Below w0.heap.size w0 w' ∧ Below W.heap.size W w' :=
  h.mono fun _ _ ⟨p, q, he, h1, h2, hb⟩ => ⟨p, q, he, h1, h2, hW.trans (hb.mono hW.size), hb⟩

theorem Held.other {w : World} {b d : Nat} {p : Option Addr} (h : Held w b p) (hd : d ≠ b) (v : Value) : Held (w.setCell ⟨d, 0, none⟩ v) b p :=
  ⟨by rw [World.cell?_setCell_far w _ _ v (by exact hd)]; exact h.1, by simpa using h.2⟩

theorem Held.same {w : World} {b : Nat} {p q : Option Addr} (h : Held w b p) : Held (w.setCell ⟨b, 0, none⟩ (.pointer q)) b q :=
  ⟨World.cell?_setCell_same' _ _ _ (by rw [h.1]; rfl), by simpa using h.2⟩

/-- The cell A of the law's own holds a rope; p3 and p4 are the ropes of two contents. -/
structure Parts (w : World) (A : Nat) (p2 p3 p4 : Option Addr) (c3 c4 : List UInt8) (W : World) : Prop where
  held : Held W A p2
  fz : W.frozen? ⟨A, 0, none⟩ = false
  r3 : IsRope W p3 c3
  r4 : IsRope W p4 c4
  below : Below w.heap.size w W

theorem Parts.to {w : World} {A : Nat} {p2 p3 p4 : Option Addr} {c3 c4 : List UInt8} {W W' : World} (h : Parts w A p2 p3 p4 c3 c4 W) (hb : Below W.heap.size W W') : Parts w A p2 p3 p4 c3 c4 W' :=
  ⟨h.held.to hb, (hb.frozen (p := ⟨A, 0, none⟩) h.held.2).trans h.fz, h.r3.to hb, h.r4.to hb, h.below.trans (hb.mono h.below.size)⟩

theorem Parts.set {w : World} {A d : Nat} {p2 p3 p4 q : Option Addr} {c3 c4 : List UInt8} {W : World} (h : Parts w A p2 p3 p4 c3 c4 W) (hc : W.cell? ⟨d, 0, none⟩ = some (.pointer q)) (hd : d ≠ A) (hw : w.heap.size ≤ d) (v : Value) :
    Parts w A p2 p3 p4 c3 c4 (W.setCell ⟨d, 0, none⟩ v) :=
  ⟨Held.other h.held hd v, by rw [World.frozen?_setCell]; exact h.fz, h.r3.set hc v, h.r4.set hc v, h.below.setCell (p := ⟨d, 0, none⟩) hw v⟩

/-- What region 9 leaves. -/
def Fin2 (w : World) (A A1 A2 : Nat) (p2 p3 p4 : Option Addr) (c3 c4 : List UInt8) (W : World) : Prop := Parts w A p2 p3 p4 c3 c4 W ∧ Held W A1 p3 ∧ Held W A2 p4

theorem Fin2.to {w : World} {A A1 A2 : Nat} {p2 p3 p4 : Option Addr} {c3 c4 : List UInt8} {W W' : World} (h : Fin2 w A A1 A2 p2 p3 p4 c3 c4 W) (hb : Below W.heap.size W W') : Fin2 w A A1 A2 p2 p3 p4 c3 c4 W' :=
  ⟨h.1.to hb, h.2.1.to hb, h.2.2.to hb⟩

/-- A fresh cell: what it holds, that it may be written, that it lies in the world. -/
def Fresh (W : World) (d : Nat) : Prop := W.cell? ⟨d, 0, none⟩ = some (.pointer none) ∧ W.frozen? ⟨d, 0, none⟩ = false ∧ d < W.heap.size

theorem Fresh.to {W W' : World} {d : Nat} (h : Fresh W d) (hb : Below W.heap.size W W') : Fresh W' d :=
  ⟨(hb.cell (p := ⟨d, 0, none⟩) h.2.2).trans h.1, (hb.frozen (p := ⟨d, 0, none⟩) h.2.2).trans h.2.1, Nat.lt_of_lt_of_le h.2.2 hb.size⟩

theorem fresh_one (W : World) : Fresh (W.alloc (.cells #[.pointer none] 27)) W.heap.size := ⟨by go_simp, by go_simp, by simp⟩

theorem below_one (W : World) (o : Obj) : Below W.heap.size W (W.alloc o) := (Below.refl _ _).alloc (Nat.le_refl _) _

theorem below_two (W : World) (o o' : Obj) : Below W.heap.size W ((W.alloc o).alloc o') := ((Below.refl _ _).alloc (Nat.le_refl _) _).alloc (by simp) _

/-- Both cells are there, and are written. -/
theorem Parts.both {w : World} {A a b : Nat} {p2 p3 p4 : Option Addr} {c3 c4 : List UInt8} {W : World} (h : Parts w A p2 p3 p4 c3 c4 W) (ha : Fresh W a) (hb : Fresh W b) (hab : a ≠ b) (hA : a ≠ A) (hB : b ≠ A) (la : w.heap.size ≤ a) (lb : w.heap.size ≤ b) :
    Fin2 w A a b p2 p3 p4 c3 c4 ((W.setCell ⟨a, 0, none⟩ (.pointer p3)).setCell ⟨b, 0, none⟩ (.pointer p4)) := by
  have hb1 : (W.setCell ⟨a, 0, none⟩ (.pointer p3)).cell? ⟨b, 0, none⟩ = some (.pointer none) := by
    rw [World.cell?_setCell_far W _ _ _ (by exact hab)]; exact hb.1
  have H1 : Held (W.setCell ⟨a, 0, none⟩ (.pointer p3)) a p3 := Held.same ⟨ha.1, ha.2.2⟩
  have H2 : Held (W.setCell ⟨a, 0, none⟩ (.pointer p3)) b none := ⟨hb1, by simpa using hb.2.2⟩
  exact ⟨(h.set ha.1 hA la _).set hb1 hB lb _, Held.other H1 hab.symm _, Held.same H2⟩

/-- The other order of the two stores. -/
theorem Parts.both' {w : World} {A a b : Nat} {p2 p3 p4 : Option Addr} {c3 c4 : List UInt8} {W : World} (h : Parts w A p2 p3 p4 c3 c4 W) (ha : Fresh W a) (hb : Fresh W b) (hab : a ≠ b) (hA : a ≠ A) (hB : b ≠ A) (la : w.heap.size ≤ a) (lb : w.heap.size ≤ b) :
    Fin2 w A a b p2 p3 p4 c3 c4 ((W.setCell ⟨b, 0, none⟩ (.pointer p4)).setCell ⟨a, 0, none⟩ (.pointer p3)) := by
  have ha1 : (W.setCell ⟨b, 0, none⟩ (.pointer p4)).cell? ⟨a, 0, none⟩ = some (.pointer none) := by
    rw [World.cell?_setCell_far W _ _ _ (by exact hab.symm)]; exact ha.1
  have H1 : Held (W.setCell ⟨b, 0, none⟩ (.pointer p4)) b p4 := Held.same ⟨hb.1, hb.2.2⟩
  have H2 : Held (W.setCell ⟨b, 0, none⟩ (.pointer p4)) a none := ⟨ha1, by simpa using ha.2.2⟩
  exact ⟨(h.set hb.1 hB lb _).set ha1 hA la _, Held.same H2, Held.other H1 hab _⟩

theorem one_fresh {X W : World} (h : Below (X.alloc (.cells #[.pointer none] 27)).heap.size (X.alloc (.cells #[.pointer none] 27)) W) : Fresh W X.heap.size := (fresh_one X).to h

theorem two_fresh {X W : World} (h : Below ((X.alloc (.cells #[.pointer none] 27)).alloc (.cells #[.pointer none] 27)).heap.size ((X.alloc (.cells #[.pointer none] 27)).alloc (.cells #[.pointer none] 27)) W) : Fresh W X.heap.size ∧ Fresh W (X.heap.size + 1) := by
  have h1 := ((fresh_one X).to (below_one _ (.cells #[.pointer none] 27))).to h
  have h2 := (fresh_one (X.alloc (.cells #[.pointer none] 27))).to h
  have e : (X.alloc (.cells #[.pointer none] 27)).heap.size = X.heap.size + 1 := by simp
  rw [e] at h2
  exact ⟨h1, h2⟩

/-- Both cells are made where the ropes are at hand. -/
theorem Parts.new34 {w : World} {A : Nat} {p2 p3 p4 : Option Addr} {c3 c4 : List UInt8} {W : World} (h : Parts w A p2 p3 p4 c3 c4 W) :
    Fin2 w A W.heap.size (W.heap.size + 1) p2 p3 p4 c3 c4 ((W.alloc (.cells #[.pointer p3] 27)).alloc (.cells #[.pointer p4] 27)) := by
  obtain ⟨hb, c1, c2, hz⟩ := two_cells W p3 p4
  exact ⟨h.to hb, ⟨c1, by omega⟩, ⟨c2, by omega⟩⟩

theorem Parts.new43 {w : World} {A : Nat} {p2 p3 p4 : Option Addr} {c3 c4 : List UInt8} {W : World} (h : Parts w A p2 p3 p4 c3 c4 W) :
    Fin2 w A (W.heap.size + 1) W.heap.size p2 p3 p4 c3 c4 ((W.alloc (.cells #[.pointer p4] 27)).alloc (.cells #[.pointer p3] 27)) := by
  obtain ⟨hb, c1, c2, hz⟩ := two_cells W p4 p3
  exact ⟨h.to hb, ⟨c2, by omega⟩, ⟨c1, by omega⟩⟩

theorem Parts.old3 {w : World} {A d : Nat} {p2 p3 p4 : Option Addr} {c3 c4 : List UInt8} {W : World} (h : Parts w A p2 p3 p4 c3 c4 W) (hd : Fresh W d) (hA : d ≠ A) (ld : w.heap.size ≤ d) :
    Fin2 w A d W.heap.size p2 p3 p4 c3 c4 ((W.alloc (.cells #[.pointer p4] 27)).setCell ⟨d, 0, none⟩ (.pointer p3)) := by
  obtain ⟨hb, c1, _, hz⟩ := one_cell W p4
  have hd1 := hd.to hb
  have h4 : Held (W.alloc (.cells #[.pointer p4] 27)) W.heap.size p4 := ⟨c1, by omega⟩
  exact ⟨(h.to hb).set hd1.1 hA ld _, Held.same ⟨hd1.1, hd1.2.2⟩, Held.other h4 (by have := hd.2.2; omega) _⟩

theorem Parts.old3' {w : World} {A d : Nat} {p2 p3 p4 : Option Addr} {c3 c4 : List UInt8} {W : World} (h : Parts w A p2 p3 p4 c3 c4 W) (hd : Fresh W d) (hA : d ≠ A) (ld : w.heap.size ≤ d) :
    Fin2 w A d W.heap.size p2 p3 p4 c3 c4 ((W.setCell ⟨d, 0, none⟩ (.pointer p3)).alloc (.cells #[.pointer p4] 27)) := by
  obtain ⟨hb, c1, _, hz⟩ := one_cell (W.setCell ⟨d, 0, none⟩ (.pointer p3)) p4
  have e : (W.setCell ⟨d, 0, none⟩ (.pointer p3)).heap.size = W.heap.size := by simp
  have h3 : Held (W.setCell ⟨d, 0, none⟩ (.pointer p3)) d p3 := Held.same ⟨hd.1, hd.2.2⟩
  refine ⟨(h.set hd.1 hA ld _).to hb, h3.to hb, ?_⟩
  rw [e] at c1 hz
  exact ⟨c1, by omega⟩

theorem Parts.old4 {w : World} {A d : Nat} {p2 p3 p4 : Option Addr} {c3 c4 : List UInt8} {W : World} (h : Parts w A p2 p3 p4 c3 c4 W) (hd : Fresh W d) (hA : d ≠ A) (ld : w.heap.size ≤ d) :
    Fin2 w A W.heap.size d p2 p3 p4 c3 c4 ((W.alloc (.cells #[.pointer p3] 27)).setCell ⟨d, 0, none⟩ (.pointer p4)) := by
  obtain ⟨hb, c1, _, hz⟩ := one_cell W p3
  have hd1 := hd.to hb
  have h4 : Held (W.alloc (.cells #[.pointer p3] 27)) W.heap.size p3 := ⟨c1, by omega⟩
  exact ⟨(h.to hb).set hd1.1 hA ld _, Held.other h4 (by have := hd.2.2; omega) _, Held.same ⟨hd1.1, hd1.2.2⟩⟩

theorem Parts.old4' {w : World} {A d : Nat} {p2 p3 p4 : Option Addr} {c3 c4 : List UInt8} {W : World} (h : Parts w A p2 p3 p4 c3 c4 W) (hd : Fresh W d) (hA : d ≠ A) (ld : w.heap.size ≤ d) :
    Fin2 w A W.heap.size d p2 p3 p4 c3 c4 ((W.setCell ⟨d, 0, none⟩ (.pointer p4)).alloc (.cells #[.pointer p3] 27)) := by
  obtain ⟨hb, c1, _, hz⟩ := one_cell (W.setCell ⟨d, 0, none⟩ (.pointer p4)) p3
  have e : (W.setCell ⟨d, 0, none⟩ (.pointer p4)).heap.size = W.heap.size := by simp
  have h3 : Held (W.setCell ⟨d, 0, none⟩ (.pointer p4)) d p4 := Held.same ⟨hd.1, hd.2.2⟩
  refine ⟨(h.set hd.1 hA ld _).to hb, ?_, h3.to hb⟩
  rw [e] at c1 hz
  exact ⟨c1, by omega⟩

theorem apart {a b : Nat} (h : a < b) : b ≠ a ∧ a ≠ b := ⟨by omega, by omega⟩

theorem ints_to {w w' : World} {B : Nat} {a : Option Addr} {l : List Int} (h : Ints w B a l) (hb : Below B w w') : Ints w' B a l := by
  intro i x hx
  obtain ⟨h0, b, o, ha, hlt, hc⟩ := h i x hx
  exact ⟨h0, b, o, ha, hlt, (hb.cell (p := ⟨b, o + i, none⟩) hlt).trans hc⟩

end Go.Proofs.Ytkbodbbbgibgfaa.lawBal
