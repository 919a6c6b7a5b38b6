/-
  Slices of runes that a call has made itself; an iterator over a string beside them.
-/
import Derived.Test.YtmdfkahodbfjnaaDoorBound
import Derived.Lib.OthersKept
import Derived.Laws.RangeString
import Derived.Laws.RangeAny
namespace Go.Proofs.YtmdfkahodbfjnaaDoor
open Go.RowKit

theorem info_rune : (Tryd.prog.info? 45).map (fun i => (i.zero, i.size, i.bytes)) = some (some (.agg #[.int .i64 0, .int .i64 0, .int .i64 0]), 3, 24) := by kernel_rfl

def R.cells (r : R) : List Value := [.int .i64 r.p, .int .i64 r.l, .int .i64 r.u]
def rCells (l : List R) : List Value := l.flatMap R.cells

theorem rCells_length (l : List R) : (rCells l).length = l.length * 3 := by
  induction l with
  | nil => rfl
  | cons x r ih => simp only [rCells, List.flatMap_cons, List.length_append, List.length_cons] at ih ⊢; rw [ih]; simp [R.cells]; omega
theorem rCells_append (a b : List R) : rCells (a ++ b) = rCells a ++ rCells b := by simp [rCells]

theorem rCells_at {l : List R} : ∀ {i : Nat} {x : R}, l[i]? = some x → (rCells l)[i * 3]? = some (.int .i64 x.p) ∧ (rCells l)[i * 3 + 1]? = some (.int .i64 x.l) ∧ (rCells l)[i * 3 + 2]? = some (.int .i64 x.u) := by
  induction l with
  | nil => intro i x h; simp at h
  | cons y r ih =>
    intro i x h
    cases i with
    | zero => simp at h; subst h; simp [rCells, R.cells]
    | succ i =>
      simp at h
      obtain ⟨a, b, c⟩ := ih h
      have e : rCells (y :: r) = [.int .i64 y.p, .int .i64 y.l, .int .i64 y.u] ++ rCells r := rfl
      refine ⟨?_, ?_, ?_⟩
      · rw [e, List.getElem?_append_right (by simp; omega)]
        simp only [List.length_cons, List.length_nil]
        rw [show (i + 1) * 3 - (0 + 1 + 1 + 1) = i * 3 from by omega]; exact a
      · rw [e, List.getElem?_append_right (by simp; omega)]
        simp only [List.length_cons, List.length_nil]
        rw [show (i + 1) * 3 + 1 - (0 + 1 + 1 + 1) = i * 3 + 1 from by omega]; exact b
      · rw [e, List.getElem?_append_right (by simp; omega)]
        simp only [List.length_cons, List.length_nil]
        rw [show (i + 1) * 3 + 2 - (0 + 1 + 1 + 1) = i * 3 + 2 from by omega]; exact c

/-- The length of the last rune set anew. -/
theorem rCells_set (a : List R) (x : R) (l : Nat) : (rCells (a ++ [x])).set (a.length * 3 + 1) (.int .i64 l) = rCells (a ++ [⟨x.p, l, x.u⟩]) := by
  rw [rCells_append, rCells_append, List.set_append_right _ _ (by rw [rCells_length]; omega), rCells_length]
  congr 1
  rw [show a.length * 3 + 1 - a.length * 3 = 1 from by omega]
  rfl

/-- The value v owns the runes l, from block B on. -/
def OwnsR (w : World) (B : Nat) (v : Value) (l : List R) : Prop := w.ownsRow B 45 3 v l.length (rCells l)
theorem OwnsR.nil (w : World) (B : Nat) : OwnsR w B (.slice none 0 0) [] := World.ownsRow_nil w B 45 3

/-- The slice at a reads in w as the list l of runes. -/
def Rs (w : World) (B : Nat) (a : Option Addr) (l : List R) : Prop :=
  ∀ i x, l[i]? = some x → ∃ b o, a = some ⟨b, o, none⟩ ∧ b < B ∧ w.cell? ⟨b, o + i * 3, none⟩ = some (.int .i64 x.p) ∧ w.cell? ⟨b, o + i * 3 + 1, none⟩ = some (.int .i64 x.l) ∧ w.cell? ⟨b, o + i * 3 + 2, none⟩ = some (.int .i64 x.u)
theorem Rs.below {w w' : World} {B : Nat} {a : Option Addr} {l : List R} (h : Rs w B a l) (hb : Below B w w') : Rs w' B a l := by
  intro i x hx
  obtain ⟨b, o, ha, hlt, h0, h1, h2⟩ := h i x hx
  exact ⟨b, o, ha, hlt, (hb.cell (p := ⟨b, _, none⟩) hlt).trans h0, (hb.cell (p := ⟨b, _, none⟩) hlt).trans h1, (hb.cell (p := ⟨b, _, none⟩) hlt).trans h2⟩
theorem Rs.up {w : World} {B B' : Nat} {a : Option Addr} {l : List R} (h : Rs w B a l) (hB : B ≤ B') : Rs w B' a l := by
  intro i x hx
  obtain ⟨b, o, q1, q2, q3⟩ := h i x hx
  exact ⟨b, o, q1, Nat.lt_of_lt_of_le q2 hB, q3⟩
theorem Rs.to {w w' : World} {a : Option Addr} {l : List R} (h : Rs w w.heap.size a l) (hb : Below w.heap.size w w') : Rs w' w'.heap.size a l := (h.below hb).up hb.size

theorem OwnsR.rs {w : World} {B : Nat} {v : Value} {l : List R} (h : OwnsR w B v l) : ∃ a cap, v = .slice a l.length cap ∧ Rs w w.heap.size a l := by
  rcases h.2 with ⟨rfl, h0⟩ | ⟨g, cap, cur, rfl, hb, hg, h1, h2, h3, h4⟩
  · refine ⟨none, 0, by rw [h0], ?_⟩
    have : l = [] := List.eq_nil_of_length_eq_zero h0
    subst this
    intro i x hx
    simp at hx
  · refine ⟨some ⟨g, 0, none⟩, cap, rfl, ?_⟩
    intro i x hx
    obtain ⟨a, b, c⟩ := rCells_at hx
    have hcell : ∀ j u, (rCells l)[j]? = some u → w.cell? ⟨g, 0 + j, none⟩ = some u := by
      intro j u hu
      rw [← h4, List.getElem?_take] at hu
      split at hu
      · rw [Nat.zero_add, cell_of_row w g j cur 45 (0, 0) hg]
        simpa using hu
      · cases hu
    refine ⟨g, 0, rfl, ?_, hcell _ _ a, by have := hcell _ _ b; rwa [← Nat.add_assoc] at this, by have := hcell _ _ c; rwa [← Nat.add_assoc] at this⟩
    rcases Nat.lt_or_ge g w.heap.size with hlt | hge
    · exact hlt
    · rw [Array.getElem?_eq_none hge] at hg; cases hg

/-- The runes v of the call's own behind the iterator in block k. -/
def Step (w : World) (k : Nat) (sub : ByteArray) (i : Nat) (W : World) (v : Value) (l : List R) : Prop :=
  OwnsR W (k + 1) v l ∧ W.heap[k]? = some (.stringIter sub i) ∧ Below k w W

theorem own_not {w : World} {k e size n : Nat} {v : Value} {xs : List Value} (h : w.ownsRow (k + 1) e size v n xs) : v.ownBlock ≠ some k := fun e => by have := (h.lt _ e).1; omega

theorem Step.next {w W : World} {k i : Nat} {sub : ByteArray} {v : Value} {l : List R} (h : Step w k sub i W v l) (i' : Nat) : Step w k sub i' (W.iterAt k sub i') v l := by
  obtain ⟨h1, h2, h3⟩ := h
  refine ⟨h1.kept (row := some k) ⟨rfl, rfl, rfl, by rw [Lib.iterAt_size]; exact Nat.le_refl _, fun j _ hj => Lib.iterAt_other W k j sub i' (fun e => hj (by rw [e]))⟩ (.inr (own_not h1)), Lib.iterAt_heap W k sub i i' h2, Lib.below_iterAt h3 (Nat.le_refl _) sub i'⟩

theorem Step.set {w W : World} {k i g cap n : Nat} {sub : ByteArray} {a : List R} {x : R} {z : Int} {ll : Nat} (h : Step w k sub i W (.slice (some ⟨g, 0, none⟩) n cap) (a ++ [x])) (hn : n = (a ++ [x]).length) (hz : z = ll) :
    Step w k sub i (W.setCell ⟨g, a.length * 3 + 1, none⟩ (.int .i64 z)) (.slice (some ⟨g, 0, none⟩) n cap) (a ++ [⟨x.p, ll, x.u⟩]) := by
  subst hn; subst hz
  obtain ⟨h1, h2, h3⟩ := h
  have hg := own_not h1
  have hlt := h1.lt g rfl
  have hs := (World.ownsRow.stored h1 (a.length * 3 + 1) (.int .i64 ll)).1
  rw [rCells_set] at hs
  refine ⟨?_, ?_, h3.setCell (by show k ≤ g; omega) _⟩
  · show World.ownsRow _ _ _ _ _ _ _
    simpa using hs
  · rw [Below.heap_setCell _ _ _ _ (by show k ≠ g; omega)]; exact h2

theorem Step.app {w W W3 : World} {k i : Nat} {sub : ByteArray} {v v' : Value} {l : List R} {x : R} {o : Obj} (h : Step w k sub i W v l) (hg : (W.alloc o).grownBy W3 v.ownBlock) (hown : W3.ownsRow (k + 1) 45 3 v' (l.length + 1) (rCells l ++ x.cells)) :
    Step w k sub i W3 v' (l ++ [x]) := by
  obtain ⟨h1, h2, h3⟩ := h
  have hlt : k < W.heap.size := lt_of_block h2
  refine ⟨?_, ?_, (h3.alloc (by omega) o).grown hg (by simp; omega) (fun j hj => by have := (h1.lt j hj).1; omega)⟩
  · show World.ownsRow _ _ _ _ _ _ _
    rw [rCells_append, List.length_append]
    simpa [rCells] using hown
  · rw [hg.block k (by simp; omega) (Ne.symm (own_not h1)), Below.heap_alloc _ _ _ hlt]; exact h2

/-- How far the slice is: the runes before p, the last one still as long as the rest of the line. -/
def Far (s : ByteArray) (stop q p : Nat) (acc : List R) : Prop :=
  (acc = [] ∧ p = q) ∨ ∃ a x, acc = a ++ [⟨x.p, stop - x.p, x.u⟩] ∧ x.p + x.l = p ∧ q ≤ x.p ∧ runes s stop q = a ++ [x] ++ runes s stop p

theorem Far.end {s : ByteArray} {stop q : Nat} {acc : List R} (h : Far s stop q stop acc) : acc = runes s stop q := by
  rcases h with ⟨rfl, rfl⟩ | ⟨a, x, rfl, h1, h2, h3⟩
  · rw [runes_nil (Nat.le_refl _)]
  · rw [h3, runes_nil (Nat.le_refl _), List.append_nil]
    have : stop - x.p = x.l := by omega
    rw [this]
end Go.Proofs.YtmdfkahodbfjnaaDoor
