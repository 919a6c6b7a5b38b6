/-
  Syntax trees and arenas of nodes, plain mathematics (no program): sizes, widths, insertion, expansion.
-/
import Derived.WalkKit
namespace Go.Proofs.YtcpojagfnpajeaaGreatDoorR
open Go.RowKit

/-- A node of an arena. -/
structure G where
  k : Int
  w : Int
  t : ByteArray
  c : List Int
deriving Inhabited

/-- A syntax tree. -/
inductive Tree where
  | node (k : Int) (t : ByteArray) (c : List Tree)

namespace Tree
def k : Tree → Int | .node k _ _ => k
def t : Tree → ByteArray | .node _ t _ => t
def c : Tree → List Tree | .node _ _ c => c
theorem eta : ∀ x : Tree, x = .node x.k x.t x.c | .node _ _ _ => rfl
end Tree

mutual
def Tree.size : Tree → Nat
  | .node _ _ c => 1 + sizes c
def sizes : List Tree → Nat
  | [] => 0
  | x :: r => x.size + sizes r
end

mutual
def Tree.height : Tree → Nat
  | .node _ _ c => 1 + heights c
def heights : List Tree → Nat
  | [] => 0
  | x :: r => max x.height (heights r)
end

/-- A token has no children, an inner node no text. -/
def wfN (k : Int) (t : ByteArray) (n : Nat) : Bool := if 100 ≤ k then decide (n = 0) else decide (t.size = 0)

mutual
def Tree.wf : Tree → Bool
  | .node k t c => wfN k t c.length && wfs c
def wfs : List Tree → Bool
  | [] => true
  | x :: r => x.wf && wfs r
end

theorem sizes_append (a b : List Tree) : sizes (a ++ b) = sizes a + sizes b := by
  induction a with
  | nil => simp [sizes]
  | cons x r ih => simp [sizes, ih]; omega

theorem sizes_take {l : List Tree} {k : Nat} {x : Tree} (h : l[k]? = some x) : sizes (l.take (k + 1)) = sizes (l.take k) + x.size := by
  rw [List.take_add_one, h, sizes_append]; simp [sizes]

theorem sizes_take_le (l : List Tree) (k : Nat) : sizes (l.take k) ≤ sizes l := by
  have h := sizes_append (l.take k) (l.drop k)
  rw [List.take_append_drop] at h
  omega

theorem size_pos : ∀ x : Tree, 1 ≤ x.size | .node _ _ c => by simp [Tree.size]

theorem length_le_sizes (l : List Tree) : l.length ≤ sizes l := by
  induction l with
  | nil => simp
  | cons x r ih => have := size_pos x; simp [sizes]; omega

theorem size_eq (x : Tree) : x.size = 1 + sizes x.c := by cases x; simp [Tree.size, Tree.c]
theorem height_eq (x : Tree) : x.height = 1 + heights x.c := by cases x; simp [Tree.height, Tree.c]
theorem wf_eq (x : Tree) : x.wf = (wfN x.k x.t x.c.length && wfs x.c) := by cases x; simp [Tree.wf, Tree.c, Tree.k, Tree.t]

theorem heights_append (a b : List Tree) : heights (a ++ b) = max (heights a) (heights b) := by
  induction a with
  | nil => simp [heights]
  | cons x r ih => simp only [List.cons_append, heights, ih]; omega

theorem heights_take {l : List Tree} {k : Nat} {x : Tree} (h : l[k]? = some x) : heights (l.take (k + 1)) = max (heights (l.take k)) x.height := by
  rw [List.take_add_one, h, heights_append]; simp [heights]

theorem height_le_of {l : List Tree} {k : Nat} {x : Tree} (h : l[k]? = some x) : x.height ≤ heights l := by
  have h1 := heights_take h
  have h2 := heights_append (l.take (k + 1)) (l.drop (k + 1))
  rw [List.take_append_drop] at h2
  omega

theorem size_le_of {l : List Tree} {k : Nat} {x : Tree} (h : l[k]? = some x) : x.size ≤ sizes l := by
  have h1 := sizes_take h
  have h2 := sizes_take_le l (k + 1)
  omega

mutual
theorem height_le : ∀ x : Tree, x.height ≤ x.size
  | .node _ _ c => by simp only [Tree.height, Tree.size]; have := heights_le c; omega
theorem heights_le : ∀ l : List Tree, heights l ≤ sizes l
  | [] => by simp [heights]
  | x :: r => by simp only [heights, sizes]; have := height_le x; have := heights_le r; omega
end

theorem wfs_append (a b : List Tree) : wfs (a ++ b) = (wfs a && wfs b) := by
  induction a with
  | nil => simp [wfs]
  | cons x r ih => simp [wfs, ih, Bool.and_assoc]

theorem wfs_take {l : List Tree} {k : Nat} {x : Tree} (h : l[k]? = some x) : wfs (l.take (k + 1)) = (wfs (l.take k) && x.wf) := by
  rw [List.take_add_one, h, wfs_append]; simp [wfs]

theorem wfs_false {l : List Tree} {k : Nat} {x : Tree} (h : l[k]? = some x) (hx : x.wf = false) : wfs l = false := by
  rw [← List.take_append_drop (k + 1) l, wfs_append, wfs_take h, hx]; simp

/-! ### arenas -/

def wAt (l : List G) (i : Int) : Int := ((l[i.toNat]?).map G.w).getD 0

/-- The width of a node with this text and these children. -/
def wid (l : List G) (t : ByteArray) (c : List Int) : Int := c.foldl (fun s i => wrap64 (s + wAt l i)) (t.size : Int)

theorem wid_nil (l : List G) (t : ByteArray) : wid l t [] = t.size := rfl
theorem wid_snoc (l : List G) (t : ByteArray) (c : List Int) (i : Int) : wid l t (c ++ [i]) = wrap64 (wid l t c + wAt l i) := by
  simp [wid, List.foldl_append]
theorem wid_take (l : List G) (t : ByteArray) {c : List Int} {k : Nat} {i : Int} (h : c[k]? = some i) : wid l t (c.take (k + 1)) = wrap64 (wid l t (c.take k) + wAt l i) := by
  rw [List.take_add_one, h]; exact wid_snoc l t _ _

def InR (n : Nat) (c : List Int) : Prop := ∀ x, x ∈ c → 0 ≤ x ∧ x < n

theorem wAt_append {l r : List G} {i : Int} (h0 : 0 ≤ i) (h1 : i < l.length) : wAt (l ++ r) i = wAt l i := by
  unfold wAt
  rw [List.getElem?_append_left (by omega)]

theorem wid_append {l r : List G} {t : ByteArray} {c : List Int} (h : InR l.length c) : wid (l ++ r) t c = wid l t c := by
  unfold wid
  generalize (t.size : Int) = s
  induction c generalizing s with
  | nil => rfl
  | cons x q ih =>
    have hx := h x (by simp)
    simp only [List.foldl_cons]
    rw [wAt_append hx.1 hx.2]
    exact ih (fun y hy => h y (by simp [hy])) _

def same (x y : G) : Prop := x.k = y.k ∧ x.t = y.t ∧ x.c = y.c

/-- The node x at the place i of the arena l is well made. -/
def OkAt (l : List G) (i : Nat) (x : G) : Prop :=
  InR i x.c ∧ wfN x.k x.t x.c.length = true ∧ x.w = wid l x.t x.c ∧ ∀ j y, j < i → l[j]? = some y → ¬ same y x

def OkTo (l : List G) (n : Nat) : Prop := ∀ i x, i < n → l[i]? = some x → OkAt l i x

def Good (l : List G) : Prop := ∀ i x, l[i]? = some x → InR i x.c ∧ x.w = wid l x.t x.c ∧ ∀ j y, j < i → l[j]? = some y → ¬ same y x

theorem OkTo.good {l : List G} (h : OkTo l l.length) : Good l := fun i x hx =>
  have hi : i < l.length := (List.getElem?_eq_some_iff.1 hx).1
  have := h i x hi hx
  ⟨this.1, this.2.2.1, this.2.2.2⟩

theorem OkTo.zero (l : List G) : OkTo l 0 := fun i x hi => absurd hi (by omega)
theorem OkTo.step {l : List G} {k : Nat} {x : G} (h : OkTo l k) (hx : l[k]? = some x) (hok : OkAt l k x) : OkTo l (k + 1) := by
  intro i y hi hy
  by_cases e : i = k
  · subst e
    rw [hx] at hy
    cases hy
    exact hok
  · exact h i y (by omega) hy

theorem Good.nil : Good [] := fun i x h => by simp at h

theorem InR.mono {n m : Nat} {c : List Int} (h : InR n c) (hm : n ≤ m) : InR m c := fun x hx => ⟨(h x hx).1, by have := (h x hx).2; omega⟩

theorem good_push {l : List G} (h : Good l) {k : Int} {t : ByteArray} {c : List Int} (hc : InR l.length c) (hn : ∀ (j : Nat) (y : G), l[j]? = some y → ¬ (y.k = k ∧ y.t = t ∧ y.c = c)) :
    Good (l ++ [⟨k, wid l t c, t, c⟩]) := by
  intro i x hx
  by_cases hi : i < l.length
  · rw [List.getElem?_append_left hi] at hx
    obtain ⟨h1, h2, h3⟩ := h i x hx
    refine ⟨h1, by rw [wid_append (h1.mono (by omega))]; exact h2, fun j y hj hy => ?_⟩
    rw [List.getElem?_append_left (by omega)] at hy
    exact h3 j y hj hy
  · have hi2 : i = l.length := by
      have := (List.getElem?_eq_some_iff.1 hx).1
      simp at this
      omega
    subst hi2
    rw [List.getElem?_append_right (Nat.le_refl _), Nat.sub_self] at hx
    simp at hx
    subst hx
    refine ⟨hc, (wid_append hc).symm, fun j y hj hy => ?_⟩
    rw [List.getElem?_append_left hj] at hy
    exact hn j y hy

/-- Where a node with this content lies. -/
def place (l : List G) (k : Int) (t : ByteArray) (c : List Int) : Option Nat := l.findIdx? (fun y => decide (y.k = k) && decide (y.t = t) && decide (y.c = c))

theorem place_some {l : List G} {k : Int} {t : ByteArray} {c : List Int} {j : Nat} (h : place l k t c = some j) :
    ∃ y, l[j]? = some y ∧ y.k = k ∧ y.t = t ∧ y.c = c ∧ ∀ i z, i < j → l[i]? = some z → ¬ (z.k = k ∧ z.t = t ∧ z.c = c) := by
  unfold place at h
  obtain ⟨hj, hp, hlt⟩ := List.findIdx?_eq_some_iff_getElem.1 h
  refine ⟨l[j], List.getElem?_eq_getElem hj, ?_⟩
  simp only [Bool.and_eq_true, decide_eq_true_eq] at hp
  refine ⟨hp.1.1, hp.1.2, hp.2, fun i z hi hz hn => ?_⟩
  have := hlt i hi
  obtain ⟨hi2, rfl⟩ := List.getElem?_eq_some_iff.1 hz
  simp [hn] at this

theorem place_none {l : List G} {k : Int} {t : ByteArray} {c : List Int} (h : place l k t c = none) : ∀ (j : Nat) (y : G), l[j]? = some y → ¬ (y.k = k ∧ y.t = t ∧ y.c = c) := by
  unfold place at h
  intro j y hy hn
  have := List.findIdx?_eq_none_iff.1 h y (List.mem_of_getElem? hy)
  simp [hn] at this

def fin (l : List G) (k : Int) (t : ByteArray) (c : List Int) : List G × Nat :=
  match place l k t c with
  | some j => (l, j)
  | none => (l ++ [⟨k, wid l t c, t, c⟩], l.length)

mutual
def insT (l : List G) : Tree → List G × Nat
  | .node k t c => fin (insF l c).1 k t (insF l c).2
def insF (l : List G) : List Tree → List G × List Int
  | [] => (l, [])
  | x :: r => ((insF (insT l x).1 r).1, ((insT l x).2 : Int) :: (insF (insT l x).1 r).2)
end

theorem insT_eq (l : List G) (x : Tree) : insT l x = fin (insF l x.c).1 x.k x.t (insF l x.c).2 := by cases x; simp [insT, Tree.c, Tree.k, Tree.t]

theorem insF_snoc (l : List G) (a : List Tree) (x : Tree) : insF l (a ++ [x]) = ((insT (insF l a).1 x).1, (insF l a).2 ++ [((insT (insF l a).1 x).2 : Int)]) := by
  induction a generalizing l with
  | nil => simp [insF]
  | cons y r ih => simp [insF, ih]

theorem insF_take (l : List G) {a : List Tree} {k : Nat} {x : Tree} (h : a[k]? = some x) :
    insF l (a.take (k + 1)) = ((insT (insF l (a.take k)).1 x).1, (insF l (a.take k)).2 ++ [((insT (insF l (a.take k)).1 x).2 : Int)]) := by
  rw [List.take_add_one, h]; exact insF_snoc _ _ _

/-- What becomes of an arena: nodes are added at its end; well made as it was. -/
structure Grown (l l' : List G) (m : Nat) : Prop where
  pre : ∃ r, l' = l ++ r
  len : l'.length ≤ l.length + m
  good : Good l → Good l'

theorem Grown.refl (l : List G) : Grown l l 0 := ⟨⟨[], by simp⟩, by simp, id⟩
theorem Grown.trans {a b c : List G} {m n : Nat} (h : Grown a b m) (h' : Grown b c n) : Grown a c (m + n) := by
  obtain ⟨⟨r, rfl⟩, hl, hg⟩ := h
  obtain ⟨⟨r', rfl⟩, hl', hg'⟩ := h'
  exact ⟨⟨r ++ r', by simp⟩, by omega, fun q => hg' (hg q)⟩
theorem Grown.ge {l l' : List G} {m : Nat} (h : Grown l l' m) : l.length ≤ l'.length := by
  obtain ⟨⟨r, rfl⟩, _, _⟩ := h
  simp

theorem fin_grown (l : List G) (k : Int) (t : ByteArray) (c : List Int) (hc : InR l.length c) : Grown l (fin l k t c).1 1 ∧ (fin l k t c).2 < (fin l k t c).1.length := by
  unfold fin
  cases hp : place l k t c with
  | some j =>
    obtain ⟨y, hy, _⟩ := place_some hp
    exact ⟨⟨⟨[], by simp⟩, by simp, id⟩, (List.getElem?_eq_some_iff.1 hy).1⟩
  | none => exact ⟨⟨⟨_, rfl⟩, by simp, fun hg => good_push hg hc (place_none hp)⟩, by simp⟩

mutual
theorem insT_grown : ∀ (x : Tree) (l : List G), Grown l (insT l x).1 x.size ∧ (insT l x).2 < (insT l x).1.length
  | .node k t c, l => by
    obtain ⟨h1, h2⟩ := insF_grown c l
    obtain ⟨h3, h4⟩ := fin_grown (insF l c).1 k t (insF l c).2 h2
    simp only [insT, Tree.size]
    refine ⟨?_, h4⟩
    have := h1.trans h3
    rwa [Nat.add_comm 1]
theorem insF_grown : ∀ (a : List Tree) (l : List G), Grown l (insF l a).1 (sizes a) ∧ InR (insF l a).1.length (insF l a).2
  | [], l => by simp only [insF, sizes]; exact ⟨Grown.refl l, fun x hx => by simp at hx⟩
  | x :: r, l => by
    obtain ⟨h1, h2⟩ := insT_grown x l
    obtain ⟨h3, h4⟩ := insF_grown r (insT l x).1
    simp only [insF, sizes]
    refine ⟨h1.trans h3, fun z hz => ?_⟩
    rcases List.mem_cons.1 hz with rfl | hz
    · have := h3.ge
      omega
    · exact h4 z hz
end

theorem insF_len (a : List Tree) (l : List G) : (insF l a).2.length = a.length := by
  induction a generalizing l with
  | nil => simp [insF]
  | cons x r ih => simp [insF, ih]

/-! ### reading back -/

/-- The tree with an index, to the depth n. -/
def exT (l : List G) : Nat → Nat → Tree
  | 0, _ => .node 0 ⟨#[]⟩ []
  | n + 1, i => match l[i]? with
    | some x => .node x.k x.t (x.c.map fun j => exT l n j.toNat)
    | none => .node 0 ⟨#[]⟩ []

/-- The sum of f over the indices. -/
def sumC (f : Nat → Nat) (c : List Int) : Nat := (c.map fun j => f j.toNat).foldr (· + ·) 0

theorem sumC_append (f : Nat → Nat) (a b : List Int) : sumC f (a ++ b) = sumC f a + sumC f b := by
  induction a with
  | nil => simp [sumC]
  | cons x r ih => simp only [sumC, List.cons_append, List.map_cons, List.foldr_cons] at ih ⊢; omega
theorem sumC_take (f : Nat → Nat) {c : List Int} {k : Nat} {i : Int} (h : c[k]? = some i) : sumC f (c.take (k + 1)) = sumC f (c.take k) + f i.toNat := by
  rw [List.take_add_one, h, sumC_append]; simp [sumC]
theorem sumC_take_le (f : Nat → Nat) (c : List Int) (k : Nat) : sumC f (c.take k) ≤ sumC f c := by
  have h := sumC_append f (c.take k) (c.drop k)
  rw [List.take_append_drop] at h
  omega

/-- How many nodes it has. -/
def exS (l : List G) : Nat → Nat → Nat
  | 0, _ => 1
  | n + 1, i => match l[i]? with
    | some x => 1 + sumC (exS l n) x.c
    | none => 1

/-- Children lie ahead of their parents. -/
def Down (l : List G) : Prop := ∀ (i : Nat) (x : G), l[i]? = some x → InR i x.c
theorem Good.down {l : List G} (h : Good l) : Down l := fun i x hx => (h i x hx).1

theorem sumC_congr {f g : Nat → Nat} {c : List Int} (h : ∀ z, z ∈ c → f z.toNat = g z.toNat) : sumC f c = sumC g c := by
  unfold sumC
  rw [List.map_congr_left h]

theorem exS_fuel {l : List G} (hd : Down l) : ∀ (j m : Nat), j < m → exS l m j = exS l (j + 1) j := by
  intro j
  induction j using Nat.strongRecOn with
  | ind j ih =>
  intro m hm
  obtain ⟨m, rfl⟩ : ∃ q, m = q + 1 := ⟨m - 1, by omega⟩
  simp only [exS]
  cases hx : l[j]? with
  | none => rfl
  | some x =>
    simp only
    rw [sumC_congr (g := exS l j)]
    intro z hz
    have := hd j x hx z hz
    rw [ih z.toNat (by omega) m (by omega), ih z.toNat (by omega) j (by omega)]

theorem exT_fuel {l : List G} (hd : Down l) : ∀ (j m : Nat), j < m → exT l m j = exT l (j + 1) j := by
  intro j
  induction j using Nat.strongRecOn with
  | ind j ih =>
  intro m hm
  obtain ⟨m, rfl⟩ : ∃ q, m = q + 1 := ⟨m - 1, by omega⟩
  simp only [exT]
  cases hx : l[j]? with
  | none => rfl
  | some x =>
    simp only
    rw [List.map_congr_left (g := fun z => exT l j z.toNat)]
    intro z hz
    have := hd j x hx z hz
    rw [ih z.toNat (by omega) m (by omega), ih z.toNat (by omega) j (by omega)]

/-- The size of the tree with the index i; that tree. -/
def szAt (l : List G) (i : Nat) : Nat := exS l (i + 1) i
def trAt (l : List G) (i : Nat) : Tree := exT l (i + 1) i

theorem szAt_eq {l : List G} (hd : Down l) {i : Nat} {x : G} (hx : l[i]? = some x) : szAt l i = 1 + sumC (szAt l) x.c := by
  unfold szAt
  rw [exS, hx]
  simp only
  rw [sumC_congr (g := fun i => exS l (i + 1) i)]
  intro z hz
  have := hd i x hx z hz
  exact exS_fuel hd _ _ (by omega)

theorem trAt_eq {l : List G} (hd : Down l) {i : Nat} {x : G} (hx : l[i]? = some x) : trAt l i = .node x.k x.t (x.c.map fun z => trAt l z.toNat) := by
  unfold trAt
  rw [exT, hx]
  simp only
  rw [List.map_congr_left (g := fun z => exT l (z.toNat + 1) z.toNat)]
  intro z hz
  have := hd i x hx z hz
  exact exT_fuel hd _ _ (by omega)
end Go.Proofs.YtcpojagfnpajeaaGreatDoorR
