/-
  A rope's nodes in memory; cappedSum, isLeaf, inner, by their contracts.
-/
import Derived.Test.YtkbodbbbgibgfaaTree
import Derived.Deep.RegionHeld3
import Derived.Deep.DrawnRows
import Derived.IntWalk
import Derived.Deep.QuietTactic
namespace Go.Proofs.Ytkbodbbbgibgfaa
open Go.RowKit
attribute [local go_sem ↓] Go.wp_at_zero Go.wp_at_succ

/-- The six cells of the node that lies in block b. -/
def NodeAt (w : World) (b : Nat) (s : ByteArray) (l r : Option Addr) (n h c : Int) : Prop :=
  w.cell? ⟨b, 0, none⟩ = some (.string s) ∧ w.cell? ⟨b, 1, none⟩ = some (.pointer l) ∧ w.cell? ⟨b, 2, none⟩ = some (.pointer r) ∧
  w.cell? ⟨b, 3, none⟩ = some (.int .i64 n) ∧ w.cell? ⟨b, 4, none⟩ = some (.int .i64 h) ∧ w.cell? ⟨b, 5, none⟩ = some (.int .i64 c)

theorem NodeAt.below {w w' : World} {B b : Nat} {s : ByteArray} {l r : Option Addr} {n h c : Int} (H : NodeAt w b s l r n h c) (hB : b < B) (hb : Below B w w') : NodeAt w' b s l r n h c := by
  obtain ⟨a0, a1, a2, a3, a4, a5⟩ := H
  exact ⟨(hb.cell (p := ⟨b, _, none⟩) hB).trans a0, (hb.cell (p := ⟨b, _, none⟩) hB).trans a1, (hb.cell (p := ⟨b, _, none⟩) hB).trans a2,
    (hb.cell (p := ⟨b, _, none⟩) hB).trans a3, (hb.cell (p := ⟨b, _, none⟩) hB).trans a4, (hb.cell (p := ⟨b, _, none⟩) hB).trans a5⟩

/-- The pointer p leads to the nodes of t, all of them in blocks below B. -/
def Rep (w : World) (B : Nat) : Option Addr → Tr → Prop
  | p, .leaf s => ∃ b, p = some ⟨b, 0, none⟩ ∧ b < B ∧ NodeAt w b s none none s.size 0 1
  | p, .node l r => ∃ b pl pr, p = some ⟨b, 0, none⟩ ∧ b < B ∧ NodeAt w b ⟨#[]⟩ pl pr ((Tr.node l r).len : Nat) ((Tr.node l r).ht : Nat) ((Tr.node l r).lvs : Nat) ∧ Rep w B pl l ∧ Rep w B pr r

def RepO (w : World) (B : Nat) (p : Option Addr) : Option Tr → Prop
  | none => p = none
  | some t => Rep w B p t

theorem Rep.below {w w' : World} {B B' : Nat} (hb : Below B w w') (hB : B ≤ B') : ∀ {t : Tr} {p : Option Addr}, Rep w B p t → Rep w' B' p t
  | .leaf _, _, ⟨b, h1, h2, h3⟩ => ⟨b, h1, Nat.lt_of_lt_of_le h2 hB, h3.below h2 hb⟩
  | .node _ _, _, ⟨b, pl, pr, h1, h2, h3, h4, h5⟩ => ⟨b, pl, pr, h1, Nat.lt_of_lt_of_le h2 hB, h3.below h2 hb, h4.below hb hB, h5.below hb hB⟩

theorem RepO.below {w w' : World} {B B' : Nat} (hb : Below B w w') (hB : B ≤ B') {t : Option Tr} {p : Option Addr} (h : RepO w B p t) : RepO w' B' p t := by
  cases t with
  | none => exact h
  | some t => exact Rep.below hb hB h

/-- In a later world, all blocks that there are. -/
theorem Rep.to {w w' : World} {t : Tr} {p : Option Addr} (h : Rep w w.heap.size p t) (hb : Below w.heap.size w w') : Rep w' w'.heap.size p t := h.below hb hb.size
theorem RepO.to {w w' : World} {t : Option Tr} {p : Option Addr} (h : RepO w w.heap.size p t) (hb : Below w.heap.size w w') : RepO w' w'.heap.size p t := h.below hb hb.size

/-- Whatever the shape: the root's cells. -/
theorem Rep.root {w : World} {B : Nat} {t : Tr} {p : Option Addr} (h : Rep w B p t) : ∃ b s l r, p = some ⟨b, 0, none⟩ ∧ b < B ∧ NodeAt w b s l r (t.len : Nat) (t.ht : Nat) (t.lvs : Nat) := by
  cases t with
  | leaf s => obtain ⟨b, h1, h2, h3⟩ := h; exact ⟨b, _, _, _, h1, h2, h3⟩
  | node l r => obtain ⟨b, pl, pr, h1, h2, h3, _, _⟩ := h; exact ⟨b, _, _, _, h1, h2, h3⟩

theorem capped_any (a b : Int) (w : World) (ha : 0 ≤ a) (hb : 0 ≤ b) (h : a + b ≤ 9223372036854775807) :
    Calls Try.prog 46 #[.int .i64 a, .int .i64 b] w fun e w' => e = .returned (.int .i64 (a + b)) ∧ w = w' := by
  have h1 : ¬ a > 9223372036854775807 - b := by omega
  go_enter Try.func46, Try.ntmps46
  go_wp2_with fail
  go_ret
  exact ⟨rfl, rfl⟩

theorem isleaf_any (b : Nat) (s : ByteArray) (l r : Option Addr) (n h c : Int) (w : World) (hn : NodeAt w b s l r n h c) :
    Calls Try.prog 35 #[.pointer (some ⟨b, 0, none⟩)] w fun e w' => e = .returned (.bool (decide (h = 0))) ∧ w = w' := by
  obtain ⟨a0, a1, a2, a3, a4, a5⟩ := hn
  go_enter Try.func35, Try.ntmps35
  go_wp2_with fail
  go_ret
  exact ⟨rfl, rfl⟩

def nodeObj (s : ByteArray) (l r : Option Addr) (n h c : Int) : Obj := .cells #[.string s, .pointer l, .pointer r, .int .i64 n, .int .i64 h, .int .i64 c] 57

theorem nodeAt_new (w : World) (s : ByteArray) (l r : Option Addr) (n h c : Int) : NodeAt (w.alloc (nodeObj s l r n h c)) w.heap.size s l r n h c := by
  refine ⟨?_, ?_, ?_, ?_, ?_, ?_⟩ <;> simp [nodeObj, go_sem]

set_option maxHeartbeats 1000000 in
set_option maxRecDepth 100000 in
theorem inner_lo (b1 b2 : Nat) (s1 s2 : ByteArray) (l1 r1 l2 r2 : Option Addr) (n1 h1 c1 n2 h2 c2 : Int) (w : World) (H1 : NodeAt w b1 s1 l1 r1 n1 h1 c1) (H2 : NodeAt w b2 s2 l2 r2 n2 h2 c2)
    (bn1 : 0 ≤ n1) (bn2 : 0 ≤ n2) (bn : n1 + n2 ≤ 9223372036854775807) (bc1 : 0 ≤ c1) (bc2 : 0 ≤ c2) (bc : c1 + c2 ≤ 9223372036854775807) (hle : h1 ≤ h2) (h0 : 0 ≤ h2) (hh : h2 < 9223372036854775807) :
    Calls Try.prog 39 #[.pointer (some ⟨b1, 0, none⟩), .pointer (some ⟨b2, 0, none⟩)] w fun e w' => e = .returned (.pointer (some ⟨w.heap.size, 0, none⟩)) ∧ w' = (w.alloc (nodeObj ⟨#[]⟩ (some ⟨b1, 0, none⟩) (some ⟨b2, 0, none⟩) (n1 + n2) (h2 + 1) (c1 + c2))).drew := by
  obtain ⟨a0, a1, a2, a3, a4, a5⟩ := H1
  obtain ⟨d0, d1, d2, d3, d4, d5⟩ := H2
  have hm : (if h1 < h2 then h2 else h1) = h2 := by split <;> omega
  have hw : IntKind.i64.wrap (h2 + 1) = h2 + 1 := IntWalk.i64_in _ (by omega)
  have e3 := World.new_ne w _ a3
  have e4 := World.new_ne w _ a4
  have e5 := World.new_ne w _ a5
  have f3 := World.new_ne w _ d3
  have f4 := World.new_ne w _ d4
  have f5 := World.new_ne w _ d5
  go_enter Try.func39, Try.ntmps39
  go_wp2_with fail
  go_region_held3 (fun w' => w'.cell? ⟨b1, 3, none⟩ = some (.int .i64 n1) ∧ w'.cell? ⟨b1, 4, none⟩ = some (.int .i64 h1) ∧ w'.cell? ⟨b1, 5, none⟩ = some (.int .i64 c1) ∧
      w'.cell? ⟨b2, 3, none⟩ = some (.int .i64 n2) ∧ w'.cell? ⟨b2, 4, none⟩ = some (.int .i64 h2) ∧ w'.cell? ⟨b2, 5, none⟩ = some (.int .i64 c2)) (go_keep)
    ((go_at_call 46; refine (capped_any _ _ _ (by assumption) (by assumption) (by assumption)).mono ?_; rintro e w' ⟨rfl, rfl⟩))
  all_goals
    go_wp2_with fail
    go_ret
    exact ⟨rfl, rfl⟩
set_option maxHeartbeats 1000000 in
set_option maxRecDepth 100000 in
theorem inner_hi (b1 b2 : Nat) (s1 s2 : ByteArray) (l1 r1 l2 r2 : Option Addr) (n1 h1 c1 n2 h2 c2 : Int) (w : World) (H1 : NodeAt w b1 s1 l1 r1 n1 h1 c1) (H2 : NodeAt w b2 s2 l2 r2 n2 h2 c2)
    (bn1 : 0 ≤ n1) (bn2 : 0 ≤ n2) (bn : n1 + n2 ≤ 9223372036854775807) (bc1 : 0 ≤ c1) (bc2 : 0 ≤ c2) (bc : c1 + c2 ≤ 9223372036854775807) (hle : h2 ≤ h1) (h0 : 0 ≤ h1) (hh : h1 < 9223372036854775807) :
    Calls Try.prog 39 #[.pointer (some ⟨b1, 0, none⟩), .pointer (some ⟨b2, 0, none⟩)] w fun e w' => e = .returned (.pointer (some ⟨w.heap.size, 0, none⟩)) ∧ w' = (w.alloc (nodeObj ⟨#[]⟩ (some ⟨b1, 0, none⟩) (some ⟨b2, 0, none⟩) (n1 + n2) (h1 + 1) (c1 + c2))).drew := by
  obtain ⟨a0, a1, a2, a3, a4, a5⟩ := H1
  obtain ⟨d0, d1, d2, d3, d4, d5⟩ := H2
  have hm : (if h1 < h2 then h2 else h1) = h1 := by split <;> omega
  have hw : IntKind.i64.wrap (h1 + 1) = h1 + 1 := IntWalk.i64_in _ (by omega)
  have e3 := World.new_ne w _ a3
  have e4 := World.new_ne w _ a4
  have e5 := World.new_ne w _ a5
  have f3 := World.new_ne w _ d3
  have f4 := World.new_ne w _ d4
  have f5 := World.new_ne w _ d5
  go_enter Try.func39, Try.ntmps39
  go_wp2_with fail
  go_region_held3 (fun w' => w'.cell? ⟨b1, 3, none⟩ = some (.int .i64 n1) ∧ w'.cell? ⟨b1, 4, none⟩ = some (.int .i64 h1) ∧ w'.cell? ⟨b1, 5, none⟩ = some (.int .i64 c1) ∧
      w'.cell? ⟨b2, 3, none⟩ = some (.int .i64 n2) ∧ w'.cell? ⟨b2, 4, none⟩ = some (.int .i64 h2) ∧ w'.cell? ⟨b2, 5, none⟩ = some (.int .i64 c2)) (go_keep)
    ((go_at_call 46; refine (capped_any _ _ _ (by assumption) (by assumption) (by assumption)).mono ?_; rintro e w' ⟨rfl, rfl⟩))
  all_goals
    go_wp2_with fail
    go_ret
    exact ⟨rfl, rfl⟩

/-- inner's node is the node of the two trees. -/
theorem inner_any (l r : Tr) (pl pr : Option Addr) (w : World) (hl : Hid (Rep w w.heap.size pl l)) (hr : Hid (Rep w w.heap.size pr r)) (al : l.avl) (ar : r.avl) (hn : l.len + r.len ≤ 1099511627776) :
    Calls Try.prog 39 #[.pointer pl, .pointer pr] w fun e w' => ∃ p, e = .returned (.pointer p) ∧ Hid (Rep w' w'.heap.size p (.node l r)) ∧ Below w.heap.size w w' := by
  obtain ⟨b1, s1, l1, r1, rfl, hb1, N1⟩ := hl.out.root
  obtain ⟨b2, s2, l2, r2, rfl, hb2, N2⟩ := hr.out.root
  have q1 := Tr.lvs_le al
  have q2 := Tr.lvs_le ar
  have q3 := Tr.ht_lt l
  have q4 := Tr.ht_lt r
  have key : ∀ (h : Nat), h = (Tr.node l r).ht → ∀ w', w' = (w.alloc (nodeObj ⟨#[]⟩ (some ⟨b1, 0, none⟩) (some ⟨b2, 0, none⟩) ((l.len : Int) + r.len) h ((l.lvs : Int) + r.lvs))).drew →
      Hid (Rep w' w'.heap.size (some ⟨w.heap.size, 0, none⟩) (.node l r)) ∧ Below w.heap.size w w' := by
    rintro h rfl w' rfl
    have hb : Below w.heap.size w (w.alloc (nodeObj ⟨#[]⟩ (some ⟨b1, 0, none⟩) (some ⟨b2, 0, none⟩) ((l.len : Int) + r.len) ((Tr.node l r).ht : Nat) ((l.lvs : Int) + r.lvs))).drew := ((Below.refl _ _).alloc (Nat.le_refl _) _).drew
    refine ⟨⟨w.heap.size, _, _, rfl, by simp, ?_, hl.out.to hb, hr.out.to hb⟩, hb⟩
    have := nodeAt_new w ⟨#[]⟩ (some ⟨b1, 0, none⟩) (some ⟨b2, 0, none⟩) ((l.len : Int) + r.len) ((Tr.node l r).ht : Nat) ((l.lvs : Int) + r.lvs)
    rw [Tr.len_node, Int.natCast_add]
    exact this
  rcases Nat.le_total l.ht r.ht with h | h
  · refine (inner_lo b1 b2 s1 s2 l1 r1 l2 r2 _ _ _ _ _ _ w N1 N2 (by omega) (by omega) (by omega) (by omega) (by omega) (by omega) (by omega) (by omega) (by omega)).mono ?_
    rintro e w' ⟨rfl, hw⟩
    exact ⟨_, rfl, key (r.ht + 1) (by simp only [Tr.ht]; omega) w' hw⟩
  · refine (inner_hi b1 b2 s1 s2 l1 r1 l2 r2 _ _ _ _ _ _ w N1 N2 (by omega) (by omega) (by omega) (by omega) (by omega) (by omega) (by omega) (by omega) (by omega)).mono ?_
    rintro e w' ⟨rfl, hw⟩
    exact ⟨_, rfl, key (l.ht + 1) (by simp only [Tr.ht]; omega) w' hw⟩

end Go.Proofs.Ytkbodbbbgibgfaa
