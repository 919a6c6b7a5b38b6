/-
  ArenaInsert of the reference, by its contract.
-/
import Derived.Test.YtjnnilidnceplaaGtRerr
import Derived.Test.YtjnnilidnceplaaGtExpand
import Derived.Test.YtjnnilidnceplaaGtPlace
import Derived.StillTailTactics
namespace Go.Proofs.Ytjnnilidnceplaa
open Go.RowKit
attribute [local go_sem ↓] Go.wp_at_zero Go.wp_at_succ

/-- The blocks of an arena that a call hands back: those that it was given, and new ones. -/
def Old (S : Nat → Prop) (B : Nat) (w : World) : Nat → Prop := fun b => S b ∨ (B ≤ b ∧ b < w.heap.size)

/-- What ArenaInsert leaves. -/
def RinsPost (S : Nat → Prop) (l : List N) (x : Tree) (w : World) (e : Ending) (w' : World) : Prop :=
  ∃ (l' : List N) (a' : Option Addr) (cap' : Nat), e = .returned (.tuple #[.agg #[.slice a' l'.length cap'], .int .i64 ((insT (gs l) x).2 : Nat)]) ∧ gs l' = (insT (gs l) x).1 ∧ Nodes w' (Old S w.heap.size w') a' l' ∧
    (a' = none → l' = [] ∧ cap' = 0) ∧ Below w.heap.size w w'

/-- The state between two children. -/
structure RinsInv (S : Nat → Prop) (l : List N) (x : Tree) (w : World) (k : Nat) (lk : List N) (ak : Option Addr) (ck : Nat) (v : Value) (wr : World) : Prop where
  g : gs lk = (insF (gs l) (x.c.take k)).1
  nodes : Nodes wr (fun b => S b ∨ (w.heap.size + 4 ≤ b ∧ b < wr.heap.size ∧ v.ownBlock ≠ some b)) ak lk
  nil : ak = none → lk = [] ∧ ck = 0
  own : OwnsI wr (w.heap.size + 4) v (insF (gs l) (x.c.take k)).2
  a : wr.heap[w.heap.size]? = some (.cells #[.slice ak lk.length ck] 24 (0, 0))
  r : wr.heap[w.heap.size + 2]? = some (.cells #[.slice none 0 0] 24 (0, 0))
  n : wr.heap[w.heap.size + 3]? = some (.cells #[.int .i64 x.k, .int .i64 (wid (insF (gs l) (x.c.take k)).1 x.t (insF (gs l) (x.c.take k)).2), .string x.t, v] 48 (0, 0))
  b : Below w.heap.size w wr
  sz : w.heap.size + 4 ≤ wr.heap.size

theorem RinsInv.good {S : Nat → Prop} {l : List N} {x : Tree} {w : World} {k : Nat} {lk : List N} {ak : Option Addr} {ck : Nat} {v : Value} {wr : World} (h : RinsInv S l x w k lk ak ck v wr) (hg : Good (gs l)) : Good (gs lk) := by
  rw [h.g]; exact (insF_grown (x.c.take k) (gs l)).1.good hg
theorem RinsInv.len {S : Nat → Prop} {l : List N} {x : Tree} {w : World} {k : Nat} {lk : List N} {ak : Option Addr} {ck : Nat} {v : Value} {wr : World} (h : RinsInv S l x w k lk ak ck v wr) : lk.length ≤ l.length + sizes (x.c.take k) := by
  have := (insF_grown (x.c.take k) (gs l)).1.len
  rw [← h.g, gs_len, gs_len] at this
  exact this
theorem RinsInv.ids {S : Nat → Prop} {l : List N} {x : Tree} {w : World} {k : Nat} {lk : List N} {ak : Option Addr} {ck : Nat} {v : Value} {wr : World} (h : RinsInv S l x w k lk ak ck v wr) : InR lk.length (insF (gs l) (x.c.take k)).2 := by
  have := (insF_grown (x.c.take k) (gs l)).2
  rw [← h.g, gs_len] at this
  exact this
theorem RinsInv.vblk {S : Nat → Prop} {l : List N} {x : Tree} {w : World} {k : Nat} {lk : List N} {ak : Option Addr} {ck : Nat} {v : Value} {wr : World} (h : RinsInv S l x w k lk ak ck v wr) {g : Nat} (hg : v.ownBlock = some g) : w.heap.size + 4 ≤ g ∧ g < wr.heap.size :=
  World.ownsRow.lt h.own g hg

/-- Five cells in a later world. -/
theorem five_below {w w' : World} {A N : Nat} {a v0 v1 v2 v3 : Value} (hb : Below w.heap.size w w') (hA : A < w.heap.size) (hN : N < w.heap.size)
    (h : w.cell? ⟨A, 0, none⟩ = some a ∧ w.cell? ⟨N, 0, none⟩ = some v0 ∧ w.cell? ⟨N, 1, none⟩ = some v1 ∧ w.cell? ⟨N, 2, none⟩ = some v2 ∧ w.cell? ⟨N, 3, none⟩ = some v3) :
    w'.cell? ⟨A, 0, none⟩ = some a ∧ w'.cell? ⟨N, 0, none⟩ = some v0 ∧ w'.cell? ⟨N, 1, none⟩ = some v1 ∧ w'.cell? ⟨N, 2, none⟩ = some v2 ∧ w'.cell? ⟨N, 3, none⟩ = some v3 :=
  ⟨(hb.cell (p := ⟨A, 0, none⟩) hA).trans h.1, (hb.cell (p := ⟨N, 0, none⟩) hN).trans h.2.1, (hb.cell (p := ⟨N, 1, none⟩) hN).trans h.2.2.1, (hb.cell (p := ⟨N, 2, none⟩) hN).trans h.2.2.2.1, (hb.cell (p := ⟨N, 3, none⟩) hN).trans h.2.2.2.2⟩
theorem five_grown {w w' : World} {row : Option Nat} {A N : Nat} {a v0 v1 v2 v3 : Value} (hg : w.grownBy w' row) (hA : A < w.heap.size) (hN : N < w.heap.size) (hA2 : some A ≠ row) (hN2 : some N ≠ row)
    (h : w.cell? ⟨A, 0, none⟩ = some a ∧ w.cell? ⟨N, 0, none⟩ = some v0 ∧ w.cell? ⟨N, 1, none⟩ = some v1 ∧ w.cell? ⟨N, 2, none⟩ = some v2 ∧ w.cell? ⟨N, 3, none⟩ = some v3) :
    w'.cell? ⟨A, 0, none⟩ = some a ∧ w'.cell? ⟨N, 0, none⟩ = some v0 ∧ w'.cell? ⟨N, 1, none⟩ = some v1 ∧ w'.cell? ⟨N, 2, none⟩ = some v2 ∧ w'.cell? ⟨N, 3, none⟩ = some v3 :=
  ⟨(hg.cell_far ⟨A, 0, none⟩ hA hA2).trans h.1, (hg.cell_far ⟨N, 0, none⟩ hN hN2).trans h.2.1, (hg.cell_far ⟨N, 1, none⟩ hN hN2).trans h.2.2.1, (hg.cell_far ⟨N, 2, none⟩ hN hN2).trans h.2.2.2.1, (hg.cell_far ⟨N, 3, none⟩ hN hN2).trans h.2.2.2.2⟩
theorem five_set {w : World} {A N R : Nat} {a v0 v1 v2 v3 : Value} (u : Value) (hA : A ≠ R) (hN : N ≠ R)
    (h : w.cell? ⟨A, 0, none⟩ = some a ∧ w.cell? ⟨N, 0, none⟩ = some v0 ∧ w.cell? ⟨N, 1, none⟩ = some v1 ∧ w.cell? ⟨N, 2, none⟩ = some v2 ∧ w.cell? ⟨N, 3, none⟩ = some v3) :
    (w.setCell ⟨R, 0, none⟩ u).cell? ⟨A, 0, none⟩ = some a ∧ (w.setCell ⟨R, 0, none⟩ u).cell? ⟨N, 0, none⟩ = some v0 ∧ (w.setCell ⟨R, 0, none⟩ u).cell? ⟨N, 1, none⟩ = some v1 ∧ (w.setCell ⟨R, 0, none⟩ u).cell? ⟨N, 2, none⟩ = some v2 ∧ (w.setCell ⟨R, 0, none⟩ u).cell? ⟨N, 3, none⟩ = some v3 := by
  have e : ∀ (b o : Nat), b ≠ R → (w.setCell ⟨R, 0, none⟩ u).cell? ⟨b, o, none⟩ = w.cell? ⟨b, o, none⟩ := fun b o hb => World.cell?_of_block (heap_setCell_other w ⟨R, 0, none⟩ b u hb)
  exact ⟨(e _ _ hA).trans h.1, (e _ _ hN).trans h.2.1, (e _ _ hN).trans h.2.2.1, (e _ _ hN).trans h.2.2.2.1, (e _ _ hN).trans h.2.2.2.2⟩

theorem ownsRow_base {w : World} {B B' e size n : Nat} {v : Value} {xs : List Value} (h : w.ownsRow B e size v n xs) (hb : B' ≤ B) : w.ownsRow B' e size v n xs :=
  ⟨h.1, h.2.imp id (fun ⟨g, cap, cur, q1, q2, q3⟩ => ⟨g, cap, cur, q1, Nat.le_trans hb q2, q3⟩)⟩

/-- What an append to a slice of the call's own leaves: everything older is as it was. -/
theorem below_append {wr wa w7 : World} {B e size n : Nat} {v : Value} {xs : List Value} {wv : World} (hb : Below wr.heap.size wr wa) (hv : wv.ownsRow wr.heap.size e size v n xs) (hg : wa.grownBy w7 v.ownBlock) (hB : B = wr.heap.size) : Below B wr w7 := by
  subst hB
  exact hb.grown hg hb.size (fun g hg' => (World.ownsRow.lt hv g hg').1)

set_option maxRecDepth 100000 in
set_option maxHeartbeats 8000000 in
theorem rins_any : ∀ (n : Nat) (x : Tree) (ta : Option Addr) (tc : Nat) (l : List N) (a : Option Addr) (cap : Nat) (S : Nat → Prop) (w : World), x.ok → Kids w (· < w.heap.size) n ta x.c → Good (gs l) → l.length + x.size ≤ 4000 →
    (∀ b, S b → b < w.heap.size) → Nodes w S a l → (a = none → l = [] ∧ cap = 0) → Calls Try.prog 14 #[.agg #[.slice a l.length cap], tv x ta tc] w (RinsPost S l x w) := by
  intro n
  induction n using Nat.strongRecOn with
  | ind n ih =>
  intro x ta tc l a cap S w hok hk hgood hsize hS hn hnil
  obtain ⟨j0, ji, jz0, jz1, jz2⟩ := info_parts info_int
  obtain ⟨i0, ii, iz0, iz1, iz2⟩ := info_parts info_node
  have HX : Hid (I64 x.k ∧ x.t.size ≤ maxLen) := ⟨hok.1, hok.2.1⟩
  have hcl : x.c.length ≤ 4000 := by have := size_eq x; have := length_le_sizes x.c; omega
  have HK := Lib.hid hk
  have HG := Lib.hid hgood
  have HSZ : Hid (l.length + (1 + sizes x.c) ≤ 4000) := by have := size_eq x; show _ ≤ _; omega
  have HSS := Lib.hid hS
  have htl : (x.t.size : Int) ≤ 9223372036854775807 := by have := hok.2.1; unfold maxLen at this; omega
  obtain ⟨W0, hW0⟩ : ∃ W0, W0 = (((w.alloc (oneBox (.slice a l.length cap))).alloc (treeBox x.k x.t (.slice ta x.c.length tc))).alloc (oneBox (.slice none 0 0))).alloc (nodeBox x.k x.t.size x.t (.slice none 0 0)) := ⟨_, rfl⟩
  have HI0 : Hid (RinsInv S l x w 0 l a cap (.slice none 0 0) W0) := by
    have e1 : (w.alloc (oneBox (.slice a l.length cap))).heap.size = w.heap.size + 1 := by simp
    have e2 : ((w.alloc (oneBox (.slice a l.length cap))).alloc (treeBox x.k x.t (.slice ta x.c.length tc))).heap.size = w.heap.size + 2 := by simp
    have e3 : (((w.alloc (oneBox (.slice a l.length cap))).alloc (treeBox x.k x.t (.slice ta x.c.length tc))).alloc (oneBox (.slice none 0 0))).heap.size = w.heap.size + 3 := by simp
    have hb : Below w.heap.size w W0 := by rw [hW0]; exact ((((Below.refl _ _).alloc (Nat.le_refl _) _).alloc (by simp) _).alloc (by simp; omega) _).alloc (by simp; omega) _
    refine ⟨rfl, (hn.kept ((kept_below hb).sub hS)).sub (fun b hb => Or.inl hb), hnil, OwnsI.nil _ _, ?_, ?_, ?_, hb, ?_⟩
    · rw [hW0]; exact alloc_keeps _ (alloc_keeps _ (alloc_keeps _ (heap_alloc_new w _)))
    · have := heap_alloc_new ((w.alloc (oneBox (.slice a l.length cap))).alloc (treeBox x.k x.t (.slice ta x.c.length tc))) (oneBox (.slice none 0 0))
      rw [e2] at this
      rw [hW0]; exact alloc_keeps _ this
    · have := heap_alloc_new (((w.alloc (oneBox (.slice a l.length cap))).alloc (treeBox x.k x.t (.slice ta x.c.length tc))).alloc (oneBox (.slice none 0 0))) (nodeBox x.k x.t.size x.t (.slice none 0 0))
      rw [e3] at this
      rw [hW0]; exact this
    · rw [hW0]; simp
  clear hk hgood hS hn hnil hok hsize
  go_enter Try.func14, Try.ntmps14
  go_wp2_with fail
  go_loopw [23] (fun p wr => ∃ (k : Nat) (lk : List N) (ak : Option Addr) (ck : Nat) (v : Value), k ≤ x.c.length ∧ p = .int .i64 k ∧ Hid (RinsInv S l x w k lk ak ck v wr))
    (fun p _ => x.c.length - (intOf p).toNat)
  case atStart => exact ⟨0, l, a, cap, _, Nat.zero_le _, rfl, by have := HI0.out; rw [hW0] at this; exact this⟩
  case round =>
    clear hW0 HI0
    obtain ⟨k, lk, ak, ck, v, hk, rfl, hinv⟩ := hrel
    by_cases hlt : k < x.c.length
    · have hx : x.c[k]? = some x.c[k] := List.getElem?_eq_getElem hlt
      obtain ⟨y, hY⟩ : ∃ y, y = x.c[k] := ⟨_, rfl⟩
      rw [← hY] at hx
      clear hY
      obtain ⟨hok', m, b, o, sa, cap', hm, rfl, _, p0, p1, p2, hk'⟩ := (HK.out.to hinv.out.b).at hx
      have HY := Lib.hid hx
      have hk0 : (0 : Int) ≤ (k : Int) := by omega
      have hk1 : (k : Int) < (x.c.length : Int) := by omega
      obtain ⟨fa, ga⟩ := one_facts hinv.out.a
      have hszr := hinv.out.sz
      have HKY := Lib.hid (hk'.alloc (treeBox y.k y.t (.slice sa y.c.length cap')))
      have HOY := Lib.hid hok'
      clear hx hk' hok'
      have f0 : w.heap.size < wr.heap.size := by omega
      have hst := sizes_take HY.out
      have hle := sizes_take_le x.c (k + 1)
      have hlk := hinv.out.len
      have hsz := HSZ.out
      have HC := Lib.hid (ih m hm y sa cap' lk ak ck (fun b => S b ∨ (w.heap.size + 4 ≤ b ∧ b < wr.heap.size ∧ v.ownBlock ≠ some b)) (wr.alloc (treeBox y.k y.t (.slice sa y.c.length cap'))) HOY.out HKY.out (hinv.out.good HG.out) (by omega)
        (fun b hb => hb.elim (fun h => by have := HSS.out b h; simp; omega) (fun h => by have := h.2.1; simp; omega))
        (hinv.out.nodes.kept ((kept_below ((Below.refl wr.heap.size wr).alloc (Nat.le_refl _) _)).sub (fun b hb => hb.elim (fun h => by have := HSS.out b h; omega) (fun h => h.2.1)))) hinv.out.nil)
      have hl2 : Hid ((insT (gs lk) y).1.length ≤ 4000) := by
        have := (insT_grown y (gs lk)).1.len
        rw [gs_len] at this
        show _ ≤ _
        omega
      clear hst hle hlk hsz
      go_wp2_with fail
      change Calls _ _ _ (wr.alloc (treeBox y.k y.t (.slice sa y.c.length cap'))) _
      refine HC.out.mono ?_
      rintro e w2 ⟨l2, a2, cap2, rfl, hg2, hn2, hz2, hb2⟩
      have hb2r : Below wr.heap.size wr w2 := ((Below.refl _ _).alloc (Nat.le_refl _) _).trans (hb2.mono (by simp))
      have A2 := keeps_below hb2r (by omega) hinv.out.a
      have R2 := keeps_below hb2r (by omega) hinv.out.r
      have N2 := keeps_below hb2r (by omega) hinv.out.n
      have O2 : OwnsI w2 (w.heap.size + 4) v (insF (gs l) (x.c.take k)).2 := owns_below hinv.out.own hb2r
      obtain ⟨c1, c2⟩ := one_facts A2
      have HG2 := Lib.hid hg2
      have HN2 := Lib.hid hn2
      have HZ2 := Lib.hid hz2
      have HB2 := Lib.hid hb2r
      have HA2 := Lib.hid A2
      have HR2 := Lib.hid R2
      have HNN2 := Lib.hid N2
      have HO2 := Lib.hid O2
      clear hg2 hn2 hz2 hb2 hb2r A2 R2 N2 O2 HC fa ga
      generalize hidx : (insT (gs lk) y).2 = idx at *
      have HIDX := Lib.hid hidx
      clear hidx
      go_upto_region 7 with fail
      have A3 : Hid ((w2.setCell ⟨w.heap.size, 0, none⟩ (.slice a2 l2.length cap2)).heap[w.heap.size]? = some (.cells #[.slice a2 l2.length cap2] 24 (0, 0))) := set_one0 HA2.out
      have R3 : Hid ((w2.setCell ⟨w.heap.size, 0, none⟩ (.slice a2 l2.length cap2)).heap[w.heap.size + 2]? = some (.cells #[.slice none 0 0] 24 (0, 0))) := (heap_setCell_other w2 _ _ _ (by simp)).trans HR2.out
      have N3 : Hid ((w2.setCell ⟨w.heap.size, 0, none⟩ (.slice a2 l2.length cap2)).heap[w.heap.size + 3]? = some (.cells #[.int .i64 x.k, .int .i64 (wid (insF (gs l) (x.c.take k)).1 x.t (insF (gs l) (x.c.take k)).2), .string x.t, v] 48 (0, 0))) := (heap_setCell_other w2 _ _ _ (by simp)).trans HNN2.out
      have O3 : Hid (OwnsI (w2.setCell ⟨w.heap.size, 0, none⟩ (.slice a2 l2.length cap2)) (w.heap.size + 4) v (insF (gs l) (x.c.take k)).2) := owns_set HO2.out _ _ (fun e => by have := (hinv.out.vblk e).1; simp at this; omega)
      have K3 : Hid (Nodes (w2.setCell ⟨w.heap.size, 0, none⟩ (.slice a2 l2.length cap2)) (fun b => S b ∨ (w.heap.size + 4 ≤ b ∧ b < w2.heap.size ∧ v.ownBlock ≠ some b)) a2 l2) := by
        refine (HN2.out.kept (kept_set w2 w.heap.size 0 _ _ ?_)).sub ?_
        · intro b hb e
          subst e
          rcases hb with hb | hb
          · rcases hb with hb | hb
            · have := HSS.out _ hb; omega
            · have := hb.1; omega
          · have := hb.1; simp at this; omega
        · intro b hb
          rcases hb with hb | hb
          · rcases hb with hb | hb
            · exact Or.inl hb
            · exact Or.inr ⟨hb.1, by have := hb.2.1; have := HB2.out.size; omega, hb.2.2⟩
          · have h1 := hb.1
            simp at h1
            exact Or.inr ⟨by omega, hb.2, fun e => by have := (hinv.out.vblk e).2; omega⟩
      have B3 : Hid (Below w.heap.size w (w2.setCell ⟨w.heap.size, 0, none⟩ (.slice a2 l2.length cap2))) := (hinv.out.b.trans (HB2.out.mono (by omega))).setCell (p := ⟨w.heap.size, 0, none⟩) (Nat.le_refl _) _
      have Z3 : Hid ((w2.setCell ⟨w.heap.size, 0, none⟩ (.slice a2 l2.length cap2)).heap.size = w2.heap.size ∧ wr.heap.size ≤ w2.heap.size) := ⟨by simp, HB2.out.size⟩
      have LV : Hid (∀ g, v.ownBlock = some g → w.heap.size + 4 ≤ g ∧ g < wr.heap.size) := fun g hg => hinv.out.vblk hg
      have HIDS := Lib.hid (insF_len (x.c.take k) (gs l))
      have HST := Lib.hid (insF_step (gs l) HY.out (t := x.t))
      have hgk := hinv.out.g
      rw [← hgk, HIDX.out, ← HG2.out] at HST
      have hgk' : Hid (gs lk = (insF (gs l) (x.c.take k)).1) := hgk
      clear hgk
      have hidlt : Hid (idx < l2.length) := by
        have := (insT_grown y (gs lk)).2
        rw [← HG2.out, HIDX.out, gs_len] at this
        exact this
      have hl2' : Hid (l2.length ≤ 4000) := by
        have := hl2.out
        rw [← HG2.out, gs_len] at this
        exact this
      clear HN2 HA2 HR2 HNN2 HO2 hinv HB2 c1 c2 p0 p1 p2
      generalize w2.setCell ⟨w.heap.size, 0, none⟩ (.slice a2 l2.length cap2) = w3 at *
      obtain ⟨d0, d1, d2, d3, d4, d5⟩ := four_facts N3.out
      generalize hids : (insF (gs l) (x.c.take k)).2 = ids at *
      generalize hwv : wid (insF (gs l) (x.c.take k)).1 x.t ids = wv at *
      have HIDSE := Lib.hid hids
      have HWV := Lib.hid hwv
      clear hids hwv
      have hil : ids.length ≤ 4000 := by have := HIDS.out; rw [List.length_take] at this; omega
      have hvN : Hid (v.ownBlock ≠ some (w.heap.size + 3)) := fun e => by have := (LV.out _ e).1; omega
      have z3 := Z3.out
      have HC1 : Hid (∀ j u, [Value.int .i64 (idx : Int)][j]? = some u → (w3.alloc (.cells #[.int .i64 idx] 3)).cell? ((⟨w2.heap.size, 0, none⟩ : Addr).add j) = some u) := by rw [← Z3.out.1]; exact cell_one_new _ _ _
      go_upto_region 8 with (at_builtin; refine wpList_append_lies _ rfl _ _ 46 rfl (w.heap.size + 4) 3 j0 (.int .i64 0) 1 8 Try.underlying46 ji jz0 jz1 jz2 rfl (by decide) v ids.length (iCells ids) rfl (World.ownsRow.alloc O3.out _) ⟨w2.heap.size, 0, none⟩ 1 1 [.int .i64 idx] rfl rfl HC1.out (by simp [Value.oneCell']) (by omega) (by unfold maxLen; omega) (by omega) (by simp; omega) (w3.heap.size + 1) (by simp) ?_; intro gg4 cap4 w4 hown4 hgrow4 hloc4 hlt4; have N4 := (hgrow4.block (w.heap.size + 3) (by simp; omega) (Ne.symm hvN.out)).trans (alloc_keeps (.cells #[.int .i64 idx] 3) N3.out); obtain ⟨g0, g1, g2, g3, g4, g5⟩ := four_facts N4; have HN4 := Lib.hid N4; clear N4)
      have s4 := hgrow4.size
      simp at s4
      have hlo4 : Hid (v.ownBlock = some gg4 ∨ gg4 = w3.heap.size + 1) := hloc4
      have A5 : Hid ((w4.setCell ⟨w.heap.size + 1 + 1 + 1, 3, none⟩ (.slice (some ⟨gg4, 0, none⟩) (ids.length + 1) cap4)).heap[w.heap.size]? = some (.cells #[.slice a2 l2.length cap2] 24 (0, 0))) := (heap_setCell_other w4 _ _ _ (by simp; omega)).trans ((hgrow4.block w.heap.size (by simp; omega) (fun e => by have := (LV.out _ e.symm).1; omega)).trans (alloc_keeps _ A3.out))
      have R5 : Hid ((w4.setCell ⟨w.heap.size + 1 + 1 + 1, 3, none⟩ (.slice (some ⟨gg4, 0, none⟩) (ids.length + 1) cap4)).heap[w.heap.size + 2]? = some (.cells #[.slice none 0 0] 24 (0, 0))) := (heap_setCell_other w4 _ _ _ (by simp)).trans ((hgrow4.block (w.heap.size + 2) (by simp; omega) (fun e => by have := (LV.out _ e.symm).1; omega)).trans (alloc_keeps _ R3.out))
      have N5 : Hid ((w4.setCell ⟨w.heap.size + 1 + 1 + 1, 3, none⟩ (.slice (some ⟨gg4, 0, none⟩) (ids.length + 1) cap4)).heap[w.heap.size + 3]? = some (.cells #[.int .i64 x.k, .int .i64 wv, .string x.t, .slice (some ⟨gg4, 0, none⟩) (ids.length + 1) cap4] 48 (0, 0))) := set_four3 HN4.out
      have O5 : Hid (OwnsI (w4.setCell ⟨w.heap.size + 1 + 1 + 1, 3, none⟩ (.slice (some ⟨gg4, 0, none⟩) (ids.length + 1) cap4)) (w.heap.size + 4) (.slice (some ⟨gg4, 0, none⟩) (ids.length + 1) cap4) (ids ++ [(idx : Int)])) := by
        show World.ownsRow _ _ _ _ _ _ _
        rw [iCells_append, List.length_append]
        refine owns_set hown4 _ _ (fun e => ?_)
        have e' : gg4 = w.heap.size + 1 + 1 + 1 := by simpa [Value.ownBlock] using e
        rcases hlo4.out with h | h
        · rw [e'] at h; exact hvN.out h
        · omega
      have K5 : Hid (Nodes (w4.setCell ⟨w.heap.size + 1 + 1 + 1, 3, none⟩ (.slice (some ⟨gg4, 0, none⟩) (ids.length + 1) cap4)) (fun b => S b ∨ (w.heap.size + 4 ≤ b ∧ b < (w4.setCell ⟨w.heap.size + 1 + 1 + 1, 3, none⟩ (.slice (some ⟨gg4, 0, none⟩) (ids.length + 1) cap4)).heap.size ∧ gg4 ≠ b)) a2 l2) := by
        refine (K3.out.kept (((kept_below ((Below.refl w3.heap.size w3).alloc (Nat.le_refl _) (.cells #[.int .i64 idx] 3))).sub ?_).trans ((kept_grown hgrow4 ?_).trans (kept_set w4 (w.heap.size + 1 + 1 + 1) 3 (.slice (some ⟨gg4, 0, none⟩) (ids.length + 1) cap4) _ ?_)))).sub ?_
        · intro b hb
          exact hb.elim (fun h => by have := HSS.out b h; omega) (fun h => by have := h.2.1; omega)
        · intro b hb
          refine ⟨hb.elim (fun h => by have := HSS.out b h; simp; omega) (fun h => by have := h.2.1; simp; omega), fun e => ?_⟩
          exact hb.elim (fun h => by have := HSS.out b h; have := (LV.out _ e.symm).1; omega) (fun h => h.2.2 e.symm)
        · intro b hb
          exact hb.elim (fun h => by have := HSS.out b h; omega) (fun h => by have := h.1; omega)
        · intro b hb
          refine hb.elim Or.inl (fun h => Or.inr ⟨h.1, by have := h.2.1; simp; omega, fun e => ?_⟩)
          rcases hlo4.out with h4 | h4
          · exact h.2.2 (by rw [h4, e])
          · have := h.2.1; omega
      have B5 : Hid (Below w.heap.size w (w4.setCell ⟨w.heap.size + 1 + 1 + 1, 3, none⟩ (.slice (some ⟨gg4, 0, none⟩) (ids.length + 1) cap4))) := ((B3.out.alloc (by omega) (.cells #[.int .i64 idx] 3)).grown hgrow4 (by simp; omega) (fun g hg => by have := (LV.out g hg).1; omega)).setCell (p := ⟨w.heap.size + 1 + 1 + 1, 3, none⟩) (by simp; omega) _
      have Z5 : Hid (w.heap.size + 4 ≤ (w4.setCell ⟨w.heap.size + 1 + 1 + 1, 3, none⟩ (.slice (some ⟨gg4, 0, none⟩) (ids.length + 1) cap4)).heap.size) := by show _ ≤ _; simp; omega
      clear hown4 hgrow4 hloc4 hlt4 HN4 A3 R3 N3 O3 K3 B3 Z3 z3 s4 g0 g1 g2 g3 g4 g5 d0 d1 d2 d3 d4 d5 hlo4 hvN LV
      generalize w4.setCell ⟨w.heap.size + 1 + 1 + 1, 3, none⟩ (.slice (some ⟨gg4, 0, none⟩) (ids.length + 1) cap4) = w5 at *
      obtain ⟨z, hZ⟩ : ∃ z, l2[idx]? = some z := ⟨_, List.getElem?_eq_getElem hidlt.out⟩
      obtain ⟨_, b3, o3, hba, hbS, _, q1, _, _, _⟩ := K5.out idx z hZ
      have hw2 := HST.out.2.2
      rw [wAt_at hZ] at hw2
      have HWN := Lib.hid hw2
      clear hw2 hZ
      subst hba
      have hb3 : b3 < w5.heap.size := hbS.elim (fun h => by have := HSS.out _ h; have := Z5.out; omega) (fun h => h.2.1)
      have z5 := Z5.out
      obtain ⟨d0, d1, d2, d3, d4, d5⟩ := four_facts N5.out
      obtain ⟨a0, _⟩ := one_facts A5.out
      have hx0 : (0 : Int) ≤ (idx : Int) := by omega
      have hx1 : (idx : Int) < (l2.length : Int) := by have := hidlt.out; omega
      have HSET := Lib.hid (fun u => set_four1 (u := u) N5.out)
      have HFIN : Hid (RinsInv S l x w (k + 1) l2 (some ⟨b3, o3, none⟩) cap2 (.slice (some ⟨gg4, 0, none⟩) (ids.length + 1) cap4) (w5.setCell ⟨w.heap.size + 1 + 1 + 1, 1, none⟩ (.int .i64 (wrap64 (wv + z.g.w)))).drew) := by
        have hids2 : ids ++ [(idx : Int)] = (insF (gs l) (x.c.take (k + 1))).2 := by rw [HST.out.2.1]
        have hwid2 : wrap64 (wv + z.g.w) = wid (insF (gs l) (x.c.take (k + 1))).1 x.t (insF (gs l) (x.c.take (k + 1))).2 := by rw [HWN.out, hgk'.out, HWV.out]
        refine ⟨HST.out.1.symm, ?_, HZ2.out, ?_, ?_, ?_, ?_, ?_, ?_⟩
        · refine ((K5.out.kept (kept_set w5 (w.heap.size + 1 + 1 + 1) 1 (.int .i64 (wrap64 (wv + z.g.w))) _ ?_)).kept (fun _ _ _ => rfl)).sub ?_
          · intro b hb
            exact hb.elim (fun h => by have := HSS.out b h; omega) (fun h => by have := h.1; omega)
          · intro b hb
            exact hb.elim Or.inl (fun h => Or.inr ⟨h.1, by simp; exact h.2.1, by simp [Value.ownBlock]; exact h.2.2⟩)
        · rw [← hids2]
          show World.ownsRow _ _ _ _ _ _ _
          refine owns_below (owns_set O5.out ⟨w.heap.size + 1 + 1 + 1, 1, none⟩ (.int .i64 (wrap64 (wv + z.g.w))) (fun e => ?_)) (Below.refl _ _).drew
          have h1 := (World.ownsRow.lt O5.out _ e).1
          simp at h1
          omega
        · exact (heap_setCell_other w5 ⟨w.heap.size + 1 + 1 + 1, 1, none⟩ _ _ (by simp; omega)).trans A5.out
        · exact (heap_setCell_other w5 ⟨w.heap.size + 1 + 1 + 1, 1, none⟩ _ _ (by simp)).trans R5.out
        · rw [← hwid2]
          exact HSET.out _
        · exact (B5.out.setCell (p := ⟨w.heap.size + 1 + 1 + 1, 1, none⟩) (by simp; omega) _).drew
        · simp; exact z5
      clear hbS
      go_still_tail 10, (by kernel_rfl)
      change wpList _ _ _ _ _ w5.drew
      go_wp2_with fail
      go_roundw
      case rel => exact ⟨k + 1, _, _, _, _, by omega, by go_num, HFIN⟩
      case measure => simp [intOf]; omega
    · obtain rfl : k = x.c.length := by omega
      have hG := hinv.out.g
      have hN := hinv.out.n
      have hO := hinv.out.own
      have hl4 := hinv.out.len
      have hgl := hinv.out.good HG.out
      have hsz := HSZ.out
      rw [List.take_length] at hG hN hO hl4
      have hlk : lk.length ≤ 3999 := by omega
      obtain ⟨va, vc, rfl, hvI, hvn⟩ := OwnsI.ints hO
      have hidl : (insF (gs l) x.c).2.length = x.c.length := insF_len _ _
      have hidr := (insF_grown x.c (gs l)).2
      rw [← hG, gs_len] at hidr
      have hIT : Hid (insT (gs l) x = fin (gs lk) x.k x.t (insF (gs l) x.c).2) := by show _ = _; rw [insT_eq, hG]
      have hwr := wid_range (gs lk) HX.out.2 (insF (gs l) x.c).2
      rw [← hG] at hN
      generalize (insF (gs l) x.c).2 = ids at *
      obtain ⟨wv, hwv⟩ : ∃ wv, wv = wid (gs lk) x.t ids := ⟨_, rfl⟩
      rw [← hwv] at hN hwr
      obtain ⟨X, hXX⟩ : ∃ X : G, X = ⟨x.k, wv, x.t, ids⟩ := ⟨_, rfl⟩
      have HGV : Hid (gv X va vc = .agg #[.int .i64 x.k, .int .i64 wv, .string x.t, .slice va ids.length vc]) := by show _ = _; rw [hXX]
      have HXC : Hid (X.c = ids) := by show _ = _; rw [hXX]
      have HNC : Hid (ncells [⟨X, va, vc⟩] = [.int .i64 x.k, .int .i64 wv, .string x.t, .slice va ids.length vc]) := by show _ = _; rw [hXX]; rfl
      have HF1 : Hid (∀ j y, (gs lk)[j]? = some y → NoDup (gs lk) j X → (y.k = X.k ∧ y.w = X.w ∧ y.t = X.t ∧ y.c = X.c) → insT (gs l) x = (gs lk, j)) := by
        intro j y hy hnd he
        rw [hXX] at hnd he
        rw [hwv] at hnd he
        rw [hIT.out, fin, place_of_found hgl hy he hnd]
      have HF2 : Hid (NoDup (gs lk) lk.length X → insT (gs l) x = (gs lk ++ [X], lk.length)) := by
        intro hnd
        rw [hXX, hwv] at hnd ⊢
        rw [hIT.out, fin, place_of_none hgl (by rw [gs_len]; exact hnd), gs_len]
      have HXOK : Hid (N.ok ⟨X, va, vc⟩) := by
        rw [hXX]
        refine ⟨HX.out.1, hwr, HX.out.2, by simp only; omega, fun z hz => ?_, hvn⟩
        have := hidr z hz
        unfold I64
        omega
      have HB := Lib.hid hinv.out.b
      have HAA := Lib.hid hinv.out.a
      have HRR := Lib.hid hinv.out.r
      have HNN := Lib.hid hN
      have HNIL := Lib.hid hinv.out.nil
      have HZ := Lib.hid hinv.out.sz
      have HND : Hid (Nodes wr (fun b => S b ∨ (w.heap.size + 4 ≤ b ∧ b < wr.heap.size)) ak lk) := hinv.out.nodes.sub (fun b hb => hb.elim Or.inl (fun h => Or.inr ⟨h.1, h.2.1⟩))
      have HVI : Hid (Ints wr (fun b => w.heap.size + 4 ≤ b ∧ b < wr.heap.size) va ids) := hvI.sub (fun b hb => World.ownsRow.lt hO b hb)
      have hidn : (ids.length : Int) ≤ 4000 := by omega
      have hlkn : (lk.length : Int) ≤ 3999 := by omega
      clear hG hN hO hl4 hgl hsz hvI hvn hidl hidr hwr hwv hXX hinv hIT
      obtain ⟨wx, rfl⟩ : ∃ wx : World, wx = wr := ⟨_, rfl⟩
      obtain ⟨ca, _⟩ := one_facts HAA.out
      go_wp2_with fail
      go_loopw [53] (fun p wr => ∃ j : Nat, j ≤ lk.length ∧ p = .int .i64 j ∧ Hid (NoDup (gs lk) j X) ∧ Hid (Below wx.heap.size wx wr))
        (fun p _ => lk.length - (intOf p).toNat)
      case atStart => exact ⟨0, Nat.zero_le _, rfl, fun i y hi => absurd hi (by omega), Below.refl _ _⟩
      case round =>
        clear ca
        obtain ⟨j, hj, rfl, hnd, hbx⟩ := hrel
        have hzx := HZ.out
        have hzr := hbx.out.size
        have A5 := keeps_below hbx.out (by omega) HAA.out
        have R5 := keeps_below hbx.out (by omega) HRR.out
        have N5 := keeps_below hbx.out (by omega) HNN.out
        obtain ⟨a0, a1⟩ := one_facts A5
        obtain ⟨r0, r1⟩ := one_facts R5
        obtain ⟨n0, n1, n2, n3, _, _⟩ := four_facts N5
        have HA5 := Lib.hid A5
        have HR5 := Lib.hid R5
        have HN5 := Lib.hid N5
        have s0 : w.heap.size < wr.heap.size := by omega
        have s3 : w.heap.size + 1 + 1 + 1 < wr.heap.size := by omega
        clear A5 R5 N5
        by_cases hlt3 : j < lk.length
        · obtain ⟨y, hY⟩ : ∃ y, lk[j]? = some y := ⟨_, List.getElem?_eq_getElem hlt3⟩
          obtain ⟨⟨_, _, _, hc8, _⟩, b2, o2, hba, hb2l, q0, q1, q2, q3, qI⟩ := ((HND.out.sub (fun b hb => hb.elim (fun h => by have := HSS.out b h; omega) (fun h => h.2))).to hbx.out) j y hY
          have HL : Hid (y.g.c.length ≤ maxLen) := by show _ ≤ _; unfold maxLen; omega
          have HY := Lib.hid hY
          have hj0 : (0 : Int) ≤ (j : Int) := by omega
          have hj1 : (j : Int) < (lk.length : Int) := by omega
          have HRI := Lib.hid (qI.alloc (nodeBox y.g.k y.g.w y.g.t (.slice y.a y.g.c.length y.cap)))
          have HXI := Lib.hid (((HVI.out.sub (fun b hb => hb.2)).to hbx.out).alloc (nodeBox y.g.k y.g.w y.g.t (.slice y.a y.g.c.length y.cap)))
          subst hba
          clear hY qI hc8
          go_wp2_with fail
          change Calls _ _ _ (wr.alloc (nodeBox y.g.k y.g.w y.g.t (.slice y.a y.g.c.length y.cap))) _
          by_cases heq : y.g.k = X.k ∧ y.g.w = X.w ∧ y.g.t = X.t ∧ y.g.c = X.c
          · have hyx : y.g = X := by
              obtain ⟨h1, h2, h3, h4⟩ := heq
              cases hyg : y.g; cases X
              rw [hyg] at h1 h2 h3 h4
              simp only at h1 h2 h3 h4
              rw [h1, h2, h3, h4]
            have hI' : ∀ c', c' = ids → Ints (wr.alloc (nodeBox y.g.k y.g.w y.g.t (.slice y.a y.g.c.length y.cap))) (· < (wr.alloc (nodeBox y.g.k y.g.w y.g.t (.slice y.a y.g.c.length y.cap))).heap.size) va c' := fun c' h => by subst h; exact HXI.out
            have KC := green_yes y.g y.a y.cap va vc (wr.alloc (nodeBox y.g.k y.g.w y.g.t (.slice y.a y.g.c.length y.cap))) HL.out HRI.out (hI' _ (by rw [hyx, HXC.out]))
            rw [show gv y.g va vc = gv X va vc from by rw [hyx], HGV.out] at KC
            have hins : Hid (insT (gs l) x = (gs lk, j)) := HF1.out j _ (gs_at HY.out) hnd.out heq
            refine KC.mono ?_
            rintro e w5 ⟨rfl, hb5⟩
            have q5 : Below wr.heap.size wr w5 := ((Below.refl _ _).alloc (Nat.le_refl _) _).trans (hb5.mono (by simp))
            obtain ⟨a6, _⟩ := one_facts (keeps_below q5 s0 HA5.out)
            have HR6 := Lib.hid (keeps_below q5 (by omega) HR5.out)
            obtain ⟨r6, r7⟩ := one_facts HR6.out
            have hset := Lib.hid (fun u => (one_facts (set_one0 (u := u) HR6.out)).1)
            have hB6 : Hid (∀ u, Below w.heap.size w (w5.setCell ⟨w.heap.size + 1 + 1, 0, none⟩ u)) := fun u => ((HB.out.trans (hbx.out.mono HB.out.size)).trans (q5.mono (by omega))).setCell (p := ⟨w.heap.size + 1 + 1, 0, none⟩) (by simp; omega) u
            have hN6 : Hid (∀ u, Nodes (w5.setCell ⟨w.heap.size + 1 + 1, 0, none⟩ u) (Old S w.heap.size (w5.setCell ⟨w.heap.size + 1 + 1, 0, none⟩ u)) (some ⟨b2, o2, none⟩) lk) := by
              intro u
              refine (HND.out.kept (((kept_below hbx.out).sub ?_).trans (((kept_below q5).sub ?_).trans (kept_set w5 (w.heap.size + 1 + 1) 0 u _ ?_)))).sub ?_
              · exact fun b hb => hb.elim (fun h => by have := HSS.out b h; omega) (fun h => h.2)
              · exact fun b hb => hb.elim (fun h => by have := HSS.out b h; omega) (fun h => by have := h.2; omega)
              · exact fun b hb => hb.elim (fun h => by have := HSS.out b h; omega) (fun h => by have := h.1; omega)
              · exact fun b hb => hb.elim Or.inl (fun h => Or.inr ⟨by have := h.1; omega, by have := h.2; have := q5.size; simp; omega⟩)
            clear hb5 KC heq hyx hI' q5
            go_wp2_with fail
            have z0 := hset.out (.slice (some ⟨b2, o2, none⟩) lk.length ck)
            refine bodyPost_ret (by simp [results, Try.results14, go_sem, z0]; try rfl) rfl ?_
            refine ⟨lk, some ⟨b2, o2, none⟩, ck, by rw [hins.out], by rw [hins.out], hN6.out _, HNIL.out, hB6.out _⟩
          · have KC := green_no y.g X y.a y.cap va vc (wr.alloc (nodeBox y.g.k y.g.w y.g.t (.slice y.a y.g.c.length y.cap))) heq HL.out HRI.out (by rw [HXC.out]; exact HXI.out)
            rw [HGV.out] at KC
            have hnd' : Hid (NoDup (gs lk) (j + 1) X) := hnd.out.step (gs_at HY.out) heq
            refine KC.mono ?_
            rintro e w5 ⟨rfl, hb5⟩
            have hfin : Hid (Below wx.heap.size wx w5) := (below_al hbx.out (Nat.le_refl _) _).trans (hb5.mono (by simp; omega))
            clear hb5 KC heq
            go_wp2_with fail
            go_roundw
            case rel => exact ⟨j + 1, by omega, by go_num, hnd', hfin⟩
            case measure => simp [intOf]; omega
        · obtain rfl : j = lk.length := by omega
          have hins : Hid (insT (gs l) x = (gs lk ++ [X], lk.length)) := HF2.out hnd.out
          have HCL : Hid (∀ W, Below wr.heap.size wr W → Calls Try.prog 27 #[.slice ak lk.length ck] W fun e w' => ∃ v, e = .returned v ∧ w'.ownsRow wr.heap.size 48 4 v lk.length (ncells lk) ∧ Below wr.heap.size wr w' ∧ Below W.heap.size W w') := fun W hW =>
            (clone_any lk ak ck W (by omega) (((HND.out.sub (fun b hb => hb.elim (fun h => by have := HSS.out b h; omega) (fun h => h.2))).to hbx.out).to hW) HNIL.out).mono fun e w' ⟨v, h1, h2, h3⟩ => ⟨v, h1, ownsRow_base h2 hW.size, hW.trans (h3.mono hW.size), h3⟩
          have HFIVE : Hid (wr.cell? ⟨w.heap.size, 0, none⟩ = some (.slice ak lk.length ck) ∧ wr.cell? ⟨w.heap.size + 1 + 1 + 1, 0, none⟩ = some (.int .i64 x.k) ∧ wr.cell? ⟨w.heap.size + 1 + 1 + 1, 1, none⟩ = some (.int .i64 wv) ∧ wr.cell? ⟨w.heap.size + 1 + 1 + 1, 2, none⟩ = some (.string x.t) ∧ wr.cell? ⟨w.heap.size + 1 + 1 + 1, 3, none⟩ = some (.slice va ids.length vc)) := ⟨a0, n0, n1, n2, n3⟩
          have hS0 := HFIVE.out
          go_wp2_with fail
          go_region_held3 (fun w' => w'.cell? ⟨w.heap.size, 0, none⟩ = some (.slice ak lk.length ck) ∧ w'.cell? ⟨w.heap.size + 1 + 1 + 1, 0, none⟩ = some (.int .i64 x.k) ∧ w'.cell? ⟨w.heap.size + 1 + 1 + 1, 1, none⟩ = some (.int .i64 wv) ∧ w'.cell? ⟨w.heap.size + 1 + 1 + 1, 2, none⟩ = some (.string x.t) ∧ w'.cell? ⟨w.heap.size + 1 + 1 + 1, 3, none⟩ = some (.slice va ids.length vc))
            (first | with_reducible exact hS7 | (with_reducible exact five_set _ (by omega) (by omega) hS7) | with_reducible exact hS6 | (refine five_below ?_ s0 s3 HFIVE.out; repeat' (first | with_reducible exact Below.refl _ _ | with_reducible exact q6 | with_reducible exact q6.size | with_reducible refine Below.drew ?_ | with_reducible refine Below.alloc ?_ ?_ _ | with_reducible exact Nat.le_refl _ | (simp; omega))))
            (first
              | (go_at_call 27; refine (HCL.out _ ?_).mono ?_; (repeat' (first | with_reducible exact Below.refl _ _ | with_reducible refine Below.drew ?_ | with_reducible refine Below.alloc ?_ ?_ _ | with_reducible exact Nat.le_refl _)); rintro e w6 ⟨v6, rfl, ho6, q6, qW⟩; have ho6' := Lib.hid ho6; have z6 := q6.size; have v6b : ∀ g, v6.ownBlock = some g → wr.heap.size ≤ g := fun g hg => (World.ownsRow.lt ho6'.out g hg).1; clear ho6)
              | (refine step_append_lies _ (by rfl) _ _ _ (by rfl) wr.heap.size 48 i0 _ 4 56 Try.underlying22 ii iz0 iz1 iz2 rfl (by omega) v6 lk.length (ncells lk) (by rfl) (World.ownsRow.alloc ho6'.out _) ⟨w6.heap.size, 0, none⟩ 1 1 [.int .i64 x.k, .int .i64 wv, .string x.t, .slice va ids.length vc] (by rfl) (by rfl) (World.news_of_block (heap_alloc_new w6 _)) (by simp [Value.oneCell']) (by omega) (by unfold maxLen; omega) (by omega) (by simp; omega) (w6.heap.size + 1) (by simp) ?_; intro gg7 cap7 w7 hown7 hgrow7 hat7 hlt7; have hS7 := five_grown hgrow7 (by simp; omega) (by simp; omega) (fun e => by have := v6b _ e.symm; omega) (fun e => by have := v6b _ e.symm; omega) (five_below (Below.alloc q6 q6.size _) s0 s3 HFIVE.out); have B7 : Hid (Below wr.heap.size wr w7) := below_append (Below.alloc q6 q6.size _) ho6'.out hgrow7 rfl; have O7 := Lib.hid hown7; have L7 := Lib.hid hlt7; have R7 := Lib.hid (keeps_below B7.out (by omega) HR5.out); obtain ⟨r8, r9⟩ := one_facts R7.out; clear hown7 hgrow7 hat7 hlt7)
              | (refine step_append_lies _ (by rfl) _ _ _ (by rfl) wr.heap.size 48 i0 _ 4 56 Try.underlying22 ii iz0 iz1 iz2 rfl (by omega) v6 lk.length (ncells lk) (by rfl) ho6'.out ⟨wr.heap.size, 0, none⟩ 1 1 [.int .i64 x.k, .int .i64 wv, .string x.t, .slice va ids.length vc] (by rfl) (by rfl) (World.news_of_block (keeps_below qW (by simp) (heap_alloc_new wr _))) (by simp [Value.oneCell']) (by omega) (by unfold maxLen; omega) (by omega) (by omega) w6.heap.size rfl ?_; intro gg7 cap7 w7 hown7 hgrow7 hat7 hlt7; have hS7 := five_grown hgrow7 (by omega) (by omega) (fun e => by have := v6b _ e.symm; omega) (fun e => by have := v6b _ e.symm; omega) (five_below q6 s0 s3 HFIVE.out); have B7 : Hid (Below wr.heap.size wr w7) := below_append q6 ho6'.out hgrow7 rfl; have O7 := Lib.hid hown7; have L7 := Lib.hid hlt7; have R7 := Lib.hid (keeps_below B7.out (by omega) HR5.out); obtain ⟨r8, r9⟩ := one_facts R7.out; clear hown7 hgrow7 hat7 hlt7))
          all_goals
            have hT : ∀ b, S b ∨ (w.heap.size + 4 ≤ b ∧ b < wx.heap.size) → b < wx.heap.size := fun b hb => hb.elim (fun h => by have := HSS.out b h; omega) (fun h => h.2)
            have z7 := B7.out.size
            have hK7 : Kept (fun b => S b ∨ (w.heap.size + 4 ≤ b ∧ b < wx.heap.size)) wx w7 := ((kept_below hbx.out).sub hT).trans ((kept_below B7.out).sub (fun b hb => by have := hT b hb; omega))
            have hC7 : Chl w7 (fun b => S b ∨ (w.heap.size + 4 ≤ b ∧ b < w7.heap.size)) (lk ++ [⟨X, va, vc⟩]) := by
              refine Chl.snoc ((HND.out.chl.kept hK7).sub (fun b hb => hb.elim Or.inl (fun h => Or.inr ⟨h.1, by have := h.2; omega⟩))) HXOK.out ?_
              simp only
              rw [HXC.out]
              exact (HVI.out.kept (hK7.sub (fun b hb => Or.inr hb))).sub (fun b hb => Or.inr ⟨hb.1, by have := hb.2; omega⟩)
            have hO7 : OwnsN w7 wr.heap.size (.slice (some ⟨gg7, 0, none⟩) (lk.length + 1) cap7) (lk ++ [⟨X, va, vc⟩]) := by
              unfold OwnsN
              rw [ncells_append, HNC.out, List.length_append]
              exact O7.out
            obtain ⟨a8, c8, he8, hn8⟩ := OwnsN.nodes hO7 hC7 (fun g hg => Or.inr (by have := World.ownsRow.lt hO7 g hg; omega))
            rw [List.length_append] at he8
            cases he8
            have hset := Lib.hid (fun u => (one_facts (set_one0 (u := u) R7.out)).1)
            have hB8 : Hid (∀ u, Below w.heap.size w (w7.setCell ⟨w.heap.size + 1 + 1, 0, none⟩ u)) := fun u => ((HB.out.trans (hbx.out.mono HB.out.size)).trans (B7.out.mono (by omega))).setCell (p := ⟨w.heap.size + 1 + 1, 0, none⟩) (by simp; omega) u
            have hN8 : Hid (∀ u, Nodes (w7.setCell ⟨w.heap.size + 1 + 1, 0, none⟩ u) (Old S w.heap.size (w7.setCell ⟨w.heap.size + 1 + 1, 0, none⟩ u)) (some ⟨gg7, 0, none⟩) (lk ++ [⟨X, va, vc⟩])) := fun u =>
              (hn8.kept (kept_set w7 (w.heap.size + 1 + 1) 0 u _ (fun b hb => hb.elim (fun h => by have := HSS.out b h; omega) (fun h => by have := h.1; omega)))).sub
                (fun b hb => hb.elim Or.inl (fun h => Or.inr ⟨by have := h.1; omega, by have := h.2; simp; exact this⟩))
            have hgs8 : Hid (gs (lk ++ [⟨X, va, vc⟩]) = (insT (gs l) x).1) := by show _ = _; rw [hins.out]; simp [gs]
            have hl8 : Hid ((lk ++ [(⟨X, va, vc⟩ : N)]).length = lk.length + 1) := by show _ = _; simp
            clear hT hK7 hC7 hO7 hn8 hS7 v6b
            go_wp2_with fail
            have z0 := hset.out (.slice (some ⟨gg7, 0, none⟩) (lk.length + 1) cap7)
            refine bodyPost_ret (by simp [results, Try.results14, go_sem, z0]; try rfl) rfl ?_
            exact ⟨lk ++ [⟨X, va, vc⟩], some ⟨gg7, 0, none⟩, cap7, by rw [hins.out, hl8.out], hgs8.out, hN8.out _, (fun h => by cases h), hB8.out _⟩
end Go.Proofs.Ytjnnilidnceplaa
