/-
  Common words for the walks of package greentree: trees, nodes and integers in memory; slices that a call has made itself; keys of the map.
-/
import Derived.Test.YtbomilleckgalaaGreatProg
import Derived.Test.YtbomilleckgalaaGreatGtPure
import Derived.WalkKit
import Derived.KernelRfl
import Derived.Lib.Hide
import Derived.Deep.AppendLies
import Derived.Deep.AppendSrc
import Derived.Deep.QuietTactic
import Derived.BigQuiet
import Derived.Laws.StructEq
import Derived.Laws.MakeOwn
import Derived.Laws.AppendOwn
import Derived.Maps.OwnSet
import Derived.Maps.AppendAt
import Derived.DeepKeys4
import Derived.Outline
import Derived.IntWalk
import Derived.WalkSpells
import Derived.Lib.Builder
namespace Go.Proofs.YtbomilleckgalaaGreat
open Go.RowKit

theorem info_int : (Tryz.prog.info? 3).map (fun i => (i.zero, i.size, i.bytes)) = some (some (.int .i64 0), 1, 8) := by kernel_rfl

theorem info_byte : (Tryz.prog.info? 5).map (fun i => (i.zero, i.size, i.bytes)) = some (some (.int .u8 0), 1, 1) := by kernel_rfl

theorem info_tree : (Tryz.prog.info? 40).map (fun i => (i.zero, i.size, i.bytes)) = some (some (.agg #[.int .i64 0, .string ⟨#[]⟩, .slice none 0 0]), 3, 48) := by kernel_rfl

/-! ### what does not change -/

def Kept (S : Nat → Prop) (w w' : World) : Prop := ∀ b o, S b → w'.cell? ⟨b, o, none⟩ = w.cell? ⟨b, o, none⟩

theorem Kept.refl (S : Nat → Prop) (w : World) : Kept S w w := fun _ _ _ => rfl
theorem Kept.trans {S : Nat → Prop} {a b c : World} (h : Kept S a b) (h' : Kept S b c) : Kept S a c := fun i o hi => (h' i o hi).trans (h i o hi)
theorem Kept.sub {S T : Nat → Prop} {a b : World} (h : Kept S a b) (hs : ∀ i, T i → S i) : Kept T a b := fun i o hi => h i o (hs i hi)
theorem kept_below {B : Nat} {w w' : World} (h : Below B w w') : Kept (· < B) w w' := fun b o hb => h.cell (p := ⟨b, o, none⟩) hb

/-! ### integers -/

def I64 (z : Int) : Prop := -9223372036854775808 ≤ z ∧ z ≤ 9223372036854775807

/-- The slice at a reads in w as the list zs of integers; its block is one of S. -/
def Ints (w : World) (S : Nat → Prop) (a : Option Addr) (zs : List Int) : Prop :=
  ∀ i z, zs[i]? = some z → ∃ b o, a = some ⟨b, o, none⟩ ∧ S b ∧ w.cell? ⟨b, o + i, none⟩ = some (.int .i64 z)

theorem Ints.kept {w w' : World} {S : Nat → Prop} {a : Option Addr} {zs : List Int} (h : Ints w S a zs) (hk : Kept S w w') : Ints w' S a zs := by
  intro i z hz
  obtain ⟨b, o, h1, h2, h3⟩ := h i z hz
  exact ⟨b, o, h1, h2, (hk b _ h2).trans h3⟩
theorem Ints.sub {w : World} {S T : Nat → Prop} {a : Option Addr} {zs : List Int} (h : Ints w S a zs) (hs : ∀ i, S i → T i) : Ints w T a zs := by
  intro i z hz
  obtain ⟨b, o, h1, h2, h3⟩ := h i z hz
  exact ⟨b, o, h1, hs b h2, h3⟩
theorem Ints.to {w w' : World} {a : Option Addr} {l : List Int} (h : Ints w (· < w.heap.size) a l) (hb : Below w.heap.size w w') : Ints w' (· < w'.heap.size) a l :=
  (h.kept (kept_below hb)).sub fun _ hi => Nat.lt_of_lt_of_le hi hb.size
theorem Ints.alloc {w : World} {a : Option Addr} {l : List Int} (h : Ints w (· < w.heap.size) a l) (o : Obj) : Ints (w.alloc o) (· < (w.alloc o).heap.size) a l :=
  h.to ((Below.refl _ _).alloc (Nat.le_refl _) _)
theorem Ints.nil (w : World) (S : Nat → Prop) (a : Option Addr) : Ints w S a [] := fun i z h => by simp at h

/-! ### nodes of an arena -/

/-- A node with the header of its children. -/
structure N where
  g : G
  a : Option Addr
  cap : Nat

def N.cells (x : N) : List Value := [.int .i64 x.g.k, .int .i64 x.g.w, .string x.g.t, .slice x.a x.g.c.length x.cap]
/-- The value of a node. -/
abbrev gv (g : G) (a : Option Addr) (cap : Nat) : Value := .agg #[.int .i64 g.k, .int .i64 g.w, .string g.t, .slice a g.c.length cap]

/-- The integers fit, the text and the list of children are no longer than they may be. -/
def N.ok (x : N) : Prop := I64 x.g.k ∧ I64 x.g.w ∧ x.g.t.size ≤ maxLen ∧ x.g.c.length * 8 ≤ 140737488351232 ∧ (∀ z, z ∈ x.g.c → I64 z) ∧ (x.a = none → x.g.c = [] ∧ x.cap = 0)

/-- The slice at a reads in w as the nodes l; all blocks are of S. -/
def Nodes (w : World) (S : Nat → Prop) (a : Option Addr) (l : List N) : Prop :=
  ∀ i x, l[i]? = some x → x.ok ∧ ∃ b o, a = some ⟨b, o, none⟩ ∧ S b ∧ w.cell? ⟨b, o + i * 4, none⟩ = some (.int .i64 x.g.k) ∧ w.cell? ⟨b, o + i * 4 + 1, none⟩ = some (.int .i64 x.g.w) ∧
    w.cell? ⟨b, o + i * 4 + 2, none⟩ = some (.string x.g.t) ∧ w.cell? ⟨b, o + i * 4 + 3, none⟩ = some (.slice x.a x.g.c.length x.cap) ∧ Ints w S x.a x.g.c

theorem Nodes.kept {w w' : World} {S : Nat → Prop} {a : Option Addr} {l : List N} (h : Nodes w S a l) (hk : Kept S w w') : Nodes w' S a l := by
  intro i x hx
  obtain ⟨h0, b, o, h1, h2, h3, h4, h5, h6, h7⟩ := h i x hx
  exact ⟨h0, b, o, h1, h2, (hk b _ h2).trans h3, (hk b _ h2).trans h4, (hk b _ h2).trans h5, (hk b _ h2).trans h6, h7.kept hk⟩
theorem Nodes.sub {w : World} {S T : Nat → Prop} {a : Option Addr} {l : List N} (h : Nodes w S a l) (hs : ∀ i, S i → T i) : Nodes w T a l := by
  intro i x hx
  obtain ⟨h0, b, o, h1, h2, h3, h4, h5, h6, h7⟩ := h i x hx
  exact ⟨h0, b, o, h1, hs b h2, h3, h4, h5, h6, h7.sub hs⟩
theorem Nodes.nil (w : World) (S : Nat → Prop) (a : Option Addr) : Nodes w S a [] := fun i z h => by simp at h
theorem Nodes.to {w w' : World} {a : Option Addr} {l : List N} (h : Nodes w (· < w.heap.size) a l) (hb : Below w.heap.size w w') : Nodes w' (· < w'.heap.size) a l :=
  (h.kept (kept_below hb)).sub fun _ hi => Nat.lt_of_lt_of_le hi hb.size
theorem Nodes.below {w w' : World} {B : Nat} {a : Option Addr} {l : List N} (h : Nodes w (· < B) a l) (hb : Below B w w') : Nodes w' (· < B) a l := h.kept (kept_below hb)

def gs (l : List N) : List G := l.map N.g
theorem gs_at {l : List N} {i : Nat} {x : N} (h : l[i]? = some x) : (gs l)[i]? = some x.g := by simp [gs, h]
theorem gs_len (l : List N) : (gs l).length = l.length := by simp [gs]

/-! ### trees -/

def Tree.ok (x : Tree) : Prop := I64 x.k ∧ x.t.size ≤ maxLen ∧ x.c.length ≤ maxLen

/-- The slice at a reads in w as the trees l, of no greater height than n; all blocks are of S. -/
def Kids (w : World) (S : Nat → Prop) : Nat → Option Addr → List Tree → Prop
  | 0, _, l => l = []
  | n + 1, a, l => ∀ i x, l[i]? = some x → x.ok ∧ ∃ b o sa cap, a = some ⟨b, o, none⟩ ∧ S b ∧ w.cell? ⟨b, o + i * 3, none⟩ = some (.int .i64 x.k) ∧ w.cell? ⟨b, o + i * 3 + 1, none⟩ = some (.string x.t) ∧
      w.cell? ⟨b, o + i * 3 + 2, none⟩ = some (.slice sa x.c.length cap) ∧ Kids w S n sa x.c

theorem Kids.kept {w w' : World} {S : Nat → Prop} (hk : Kept S w w') : ∀ {n : Nat} {a : Option Addr} {l : List Tree}, Kids w S n a l → Kids w' S n a l
  | 0, _, _, h => h
  | n + 1, a, l, h => by
    intro i x hx
    obtain ⟨h0, b, o, sa, cap, h1, h2, h3, h4, h5, h6⟩ := h i x hx
    exact ⟨h0, b, o, sa, cap, h1, h2, (hk b _ h2).trans h3, (hk b _ h2).trans h4, (hk b _ h2).trans h5, h6.kept hk⟩

theorem Kids.up {w : World} {S T : Nat → Prop} (hs : ∀ i, S i → T i) : ∀ {n : Nat} {a : Option Addr} {l : List Tree} {m : Nat}, Kids w S n a l → n ≤ m → Kids w T m a l
  | 0, _, _, 0, h, _ => h
  | 0, _, _, m + 1, h, _ => by
    rw [show _ = [] from h]
    intro i x hx
    simp at hx
  | n + 1, a, l, 0, _, hm => absurd hm (by omega)
  | n + 1, a, l, m + 1, h, hm => by
    intro i x hx
    obtain ⟨h0, b, o, sa, cap, h1, h2, h3, h4, h5, h6⟩ := h i x hx
    exact ⟨h0, b, o, sa, cap, h1, hs b h2, h3, h4, h5, h6.up hs (by omega)⟩

theorem Kids.nil (w : World) (S : Nat → Prop) (n : Nat) (a : Option Addr) : Kids w S n a [] := by
  cases n with
  | zero => rfl
  | succ n => exact fun i x hx => by simp at hx

theorem Kids.at {w : World} {S : Nat → Prop} {n : Nat} {a : Option Addr} {l : List Tree} (h : Kids w S n a l) {i : Nat} {x : Tree} (hx : l[i]? = some x) :
    x.ok ∧ ∃ m b o sa cap, m < n ∧ a = some ⟨b, o, none⟩ ∧ S b ∧ w.cell? ⟨b, o + i * 3, none⟩ = some (.int .i64 x.k) ∧ w.cell? ⟨b, o + i * 3 + 1, none⟩ = some (.string x.t) ∧
      w.cell? ⟨b, o + i * 3 + 2, none⟩ = some (.slice sa x.c.length cap) ∧ Kids w S m sa x.c := by
  cases n with
  | zero => rw [show l = [] from h] at hx; simp at hx
  | succ n =>
    obtain ⟨h0, b, o, sa, cap, h1, h2, h3, h4, h5, h6⟩ := h i x hx
    exact ⟨h0, n, b, o, sa, cap, by omega, h1, h2, h3, h4, h5, h6⟩

theorem Kids.to {w w' : World} {n : Nat} {a : Option Addr} {l : List Tree} (h : Kids w (· < w.heap.size) n a l) (hb : Below w.heap.size w w') : Kids w' (· < w'.heap.size) n a l :=
  (h.kept (kept_below hb)).up (fun _ hi => Nat.lt_of_lt_of_le hi hb.size) (Nat.le_refl _)

/-- The value of a tree. -/
abbrev tv (x : Tree) (a : Option Addr) (cap : Nat) : Value := .agg #[.int .i64 x.k, .string x.t, .slice a x.c.length cap]

/-! ### keys of the map -/

theorem laidOut : laidOutB Tryz.prog = true := by kernel_rfl

theorem zeroInt (w : World) : (zeroValue 3).run Tryz.prog w = .ok (.int .i64 0) w := by kernel_rfl

def keyV (k : Int) (t e : ByteArray) : Value := .agg #[.int .i64 k, .string t, .string e]

theorem Kids.alloc {w : World} {n : Nat} {a : Option Addr} {l : List Tree} (h : Kids w (· < w.heap.size) n a l) (o : Obj) : Kids (w.alloc o) (· < (w.alloc o).heap.size) n a l :=
  h.to ((Below.refl _ _).alloc (Nat.le_refl _) _)
theorem Nodes.alloc {w : World} {a : Option Addr} {l : List N} (h : Nodes w (· < w.heap.size) a l) (o : Obj) : Nodes (w.alloc o) (· < (w.alloc o).heap.size) a l :=
  h.to ((Below.refl _ _).alloc (Nat.le_refl _) _)
theorem Kids.drew {w : World} {n : Nat} {a : Option Addr} {l : List Tree} (h : Kids w (· < w.heap.size) n a l) : Kids w.drew (· < w.drew.heap.size) n a l := h.to (Below.refl _ _).drew
theorem Nodes.drew {w : World} {a : Option Addr} {l : List N} (h : Nodes w (· < w.heap.size) a l) : Nodes w.drew (· < w.drew.heap.size) a l := h.to (Below.refl _ _).drew
theorem below_drewN' {B : Nat} {a w : World} (h : Below B a w) (n : Nat) : Below B a (w.drewN n) := ⟨h.os, h.tape, h.output, h.size, h.block⟩
theorem below_drew' {B : Nat} {a w : World} (h : Below B a.drew w) : Below B a w := ⟨h.os, h.tape, h.output, h.size, h.block⟩
theorem below_al {B : Nat} {a w : World} (h : Below B a w) (hB : B ≤ a.heap.size) (o : Obj) : Below B a (w.alloc o) := h.alloc (Nat.le_trans hB h.size) o

/-! ### blocks of one, three and four cells -/

theorem set_one0 {w : World} {b : Nat} {v0 u : Value} {t : TypeId} (h : w.heap[b]? = some (.cells #[v0] t (0, 0))) : (w.setCell ⟨b, 0, none⟩ u).heap[b]? = some (.cells #[u] t (0, 0)) := by
  simp [World.setCell, Array.getElem?_modify, h]
theorem set_three0 {w : World} {b : Nat} {v0 v1 v2 u : Value} {t : TypeId} (h : w.heap[b]? = some (.cells #[v0, v1, v2] t (0, 0))) : (w.setCell ⟨b, 0, none⟩ u).heap[b]? = some (.cells #[u, v1, v2] t (0, 0)) := by
  simp [World.setCell, Array.getElem?_modify, h]
theorem set_three1 {w : World} {b : Nat} {v0 v1 v2 u : Value} {t : TypeId} (h : w.heap[b]? = some (.cells #[v0, v1, v2] t (0, 0))) : (w.setCell ⟨b, 1, none⟩ u).heap[b]? = some (.cells #[v0, u, v2] t (0, 0)) := by
  simp [World.setCell, Array.getElem?_modify, h]
theorem set_three2 {w : World} {b : Nat} {v0 v1 v2 u : Value} {t : TypeId} (h : w.heap[b]? = some (.cells #[v0, v1, v2] t (0, 0))) : (w.setCell ⟨b, 2, none⟩ u).heap[b]? = some (.cells #[v0, v1, u] t (0, 0)) := by
  simp [World.setCell, Array.getElem?_modify, h]
theorem set_four1 {w : World} {b : Nat} {v0 v1 v2 v3 u : Value} {t : TypeId} (h : w.heap[b]? = some (.cells #[v0, v1, v2, v3] t (0, 0))) : (w.setCell ⟨b, 1, none⟩ u).heap[b]? = some (.cells #[v0, u, v2, v3] t (0, 0)) := by
  simp [World.setCell, Array.getElem?_modify, h]
theorem set_four3 {w : World} {b : Nat} {v0 v1 v2 v3 u : Value} {t : TypeId} (h : w.heap[b]? = some (.cells #[v0, v1, v2, v3] t (0, 0))) : (w.setCell ⟨b, 3, none⟩ u).heap[b]? = some (.cells #[v0, v1, v2, u] t (0, 0)) := by
  simp [World.setCell, Array.getElem?_modify, h]
theorem set_three {w : World} {b : Nat} {v0 v1 v2 u0 u1 u2 : Value} {t : TypeId} (h : w.heap[b]? = some (.cells #[v0, v1, v2] t (0, 0))) :
    (((w.setCell ⟨b, 0, none⟩ u0).setCell ⟨b, 1, none⟩ u1).setCell ⟨b, 2, none⟩ u2).heap[b]? = some (.cells #[u0, u1, u2] t (0, 0)) := set_three2 (set_three1 (set_three0 h))

theorem one_facts {w : World} {b : Nat} {v0 : Value} {t : TypeId} (h : w.heap[b]? = some (.cells #[v0] t (0, 0))) : w.cell? ⟨b, 0, none⟩ = some v0 ∧ w.frozen? ⟨b, 0, none⟩ = false := by
  refine ⟨?_, Lib.frozen_of_heap h _⟩
  rw [Lib.cell_of_heap h]; rfl
theorem three_facts {w : World} {b : Nat} {v0 v1 v2 : Value} {t : TypeId} (h : w.heap[b]? = some (.cells #[v0, v1, v2] t (0, 0))) :
    w.cell? ⟨b, 0, none⟩ = some v0 ∧ w.cell? ⟨b, 1, none⟩ = some v1 ∧ w.cell? ⟨b, 2, none⟩ = some v2 ∧ w.frozen? ⟨b, 0, none⟩ = false ∧ w.frozen? ⟨b, 1, none⟩ = false ∧ w.frozen? ⟨b, 2, none⟩ = false := by
  refine ⟨?_, ?_, ?_, Lib.frozen_of_heap h _, Lib.frozen_of_heap h _, Lib.frozen_of_heap h _⟩ <;> (rw [Lib.cell_of_heap h]; rfl)
theorem four_facts {w : World} {b : Nat} {v0 v1 v2 v3 : Value} {t : TypeId} (h : w.heap[b]? = some (.cells #[v0, v1, v2, v3] t (0, 0))) :
    w.cell? ⟨b, 0, none⟩ = some v0 ∧ w.cell? ⟨b, 1, none⟩ = some v1 ∧ w.cell? ⟨b, 2, none⟩ = some v2 ∧ w.cell? ⟨b, 3, none⟩ = some v3 ∧ w.frozen? ⟨b, 1, none⟩ = false ∧ w.frozen? ⟨b, 3, none⟩ = false := by
  refine ⟨?_, ?_, ?_, ?_, Lib.frozen_of_heap h _, Lib.frozen_of_heap h _⟩ <;> (rw [Lib.cell_of_heap h]; rfl)

/-- A block stays while the world grows above it. -/
theorem keeps_below {B b : Nat} {w w' : World} {o : Obj} (h : Below B w w') (hb : b < B) (he : w.heap[b]? = some o) : w'.heap[b]? = some o := (h.block b hb).trans he
theorem alloc_keeps {w : World} {b : Nat} {o : Obj} (o' : Obj) (h : w.heap[b]? = some o) : (w.alloc o').heap[b]? = some o := by
  rw [Below.heap_alloc _ _ _ (Array.getElem?_eq_some_iff.1 h).1]; exact h
end Go.Proofs.YtbomilleckgalaaGreat
