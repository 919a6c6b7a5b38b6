/-
  Syntax trees and arenas of nodes, plain mathematics (no program): sizes, widths, insertion, expansion.
-/
import Derived.WalkKit
namespace Go.Proofs.YtcpojagfnpajeaaGreatDoorR
open Go.RowKit

/-- A node of an arena. -/
structure G where
  k : Int
  w : Int
  t : ByteArray
  c : List Int
deriving Inhabited

/-- A syntax tree. -/
inductive Tree where
  | node (k : Int) (t : ByteArray) (c : List Tree)

namespace Tree
def k : Tree → Int | .node k _ _ => k
def t : Tree → ByteArray | .node _ t _ => t
def c : Tree → List Tree | .node _ _ c => c
end Tree

mutual
def Tree.size : Tree → Nat
  | .node _ _ c => 1 + sizes c
def sizes : List Tree → Nat
  | [] => 0
  | x :: r => x.size + sizes r
end

mutual
def Tree.height : Tree → Nat
  | .node _ _ c => 1 + heights c
def heights : List Tree → Nat
  | [] => 0
  | x :: r => max x.height (heights r)
end

/-- A token has no children, an inner node no text. -/
def wfN (k : Int) (t : ByteArray) (n : Nat) : Bool := if 100 ≤ k then decide (n = 0) else decide (t.size = 0)

mutual
def Tree.wf : Tree → Bool
  | .node k t c => wfN k t c.length && wfs c
def wfs : List Tree → Bool
  | [] => true
  | x :: r => x.wf && wfs r
end

theorem sizes_append (a b : List Tree) : sizes (a ++ b) = sizes a + sizes b := by
  induction a with
  | nil => simp [sizes]
  | cons x r ih => simp [sizes, ih]; omega

theorem size_pos : ∀ x : Tree, 1 ≤ x.size | .node _ _ c => by simp [Tree.size]

theorem length_le_sizes (l : List Tree) : l.length ≤ sizes l := by
  induction l with
  | nil => simp
  | cons x r ih => have := size_pos x; simp [sizes]; omega

theorem size_eq (x : Tree) : x.size = 1 + sizes x.c := by cases x; simp [Tree.size, Tree.c]
theorem heights_append (a b : List Tree) : heights (a ++ b) = max (heights a) (heights b) := by
  induction a with
  | nil => simp [heights]
  | cons x r ih => simp only [List.cons_append, heights, ih]; omega


theorem wfs_append (a b : List Tree) : wfs (a ++ b) = (wfs a && wfs b) := by
  induction a with
  | nil => simp [wfs]
  | cons x r ih => simp [wfs, ih, Bool.and_assoc]

/-! ### arenas -/

def wAt (l : List G) (i : Int) : Int := ((l[i.toNat]?).map G.w).getD 0

/-- The width of a node with this text and these children. -/
def wid (l : List G) (t : ByteArray) (c : List Int) : Int := c.foldl (fun s i => wrap64 (s + wAt l i)) (t.size : Int)

def InR (n : Nat) (c : List Int) : Prop := ∀ x, x ∈ c → 0 ≤ x ∧ x < n

def same (x y : G) : Prop := x.k = y.k ∧ x.t = y.t ∧ x.c = y.c

/-- The node x at the place i of the arena l is well made. -/
def OkAt (l : List G) (i : Nat) (x : G) : Prop :=
  InR i x.c ∧ wfN x.k x.t x.c.length = true ∧ x.w = wid l x.t x.c ∧ ∀ j y, j < i → l[j]? = some y → ¬ same y x

def OkTo (l : List G) (n : Nat) : Prop := ∀ i x, i < n → l[i]? = some x → OkAt l i x

def Good (l : List G) : Prop := ∀ i x, l[i]? = some x → InR i x.c ∧ x.w = wid l x.t x.c ∧ ∀ j y, j < i → l[j]? = some y → ¬ same y x

/-- Where a node with this content lies. -/
def place (l : List G) (k : Int) (t : ByteArray) (c : List Int) : Option Nat := l.findIdx? (fun y => decide (y.k = k) && decide (y.t = t) && decide (y.c = c))

def fin (l : List G) (k : Int) (t : ByteArray) (c : List Int) : List G × Nat :=
  match place l k t c with
  | some j => (l, j)
  | none => (l ++ [⟨k, wid l t c, t, c⟩], l.length)

mutual
def insT (l : List G) : Tree → List G × Nat
  | .node k t c => fin (insF l c).1 k t (insF l c).2
def insF (l : List G) : List Tree → List G × List Int
  | [] => (l, [])
  | x :: r => ((insF (insT l x).1 r).1, ((insT l x).2 : Int) :: (insF (insT l x).1 r).2)
end

/-- What becomes of an arena: nodes are added at its end; well made as it was. -/
structure Grown (l l' : List G) (m : Nat) : Prop where
  pre : ∃ r, l' = l ++ r
  len : l'.length ≤ l.length + m
  good : Good l → Good l'


/-! ### reading back -/

/-- The tree with an index, to the depth n. -/
def exT (l : List G) : Nat → Nat → Tree
  | 0, _ => .node 0 ⟨#[]⟩ []
  | n + 1, i => match l[i]? with
    | some x => .node x.k x.t (x.c.map fun j => exT l n j.toNat)
    | none => .node 0 ⟨#[]⟩ []

/-- The sum of f over the indices. -/
def sumC (f : Nat → Nat) (c : List Int) : Nat := (c.map fun j => f j.toNat).foldr (· + ·) 0

/-- How many nodes it has. -/
def exS (l : List G) : Nat → Nat → Nat
  | 0, _ => 1
  | n + 1, i => match l[i]? with
    | some x => 1 + sumC (exS l n) x.c
    | none => 1

/-- Children lie ahead of their parents. -/
def Down (l : List G) : Prop := ∀ (i : Nat) (x : G), l[i]? = some x → InR i x.c
/-- The size of the tree with the index i; that tree. -/
def szAt (l : List G) (i : Nat) : Nat := exS l (i + 1) i
def trAt (l : List G) (i : Nat) : Tree := exT l (i + 1) i

end Go.Proofs.YtcpojagfnpajeaaGreatDoorR
