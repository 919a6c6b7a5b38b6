/-
  Slices of traced bytes (a byte and its origin), and textedit.canonical by its contract.
-/
import Derived.Test.YtdmmoknddkfnmaaCanon
namespace Go.Proofs.Ytdmmoknddkfnmaa
open Go.RowKit

/-- A byte and its origin. -/
structure Tb where
  v : UInt8
  o : Int

def Tb.cells (x : Tb) : List Value := [.int .u8 x.v.toNat, .int .i64 x.o]
def tbCells (l : List Tb) : List Value := l.flatMap Tb.cells

/-- The slice at a reads in w as the list l of traced bytes. -/
def Tbs (w : World) (B : Nat) (a : Option Addr) (l : List Tb) : Prop :=
  ∀ i x, l[i]? = some x → ∃ b o, a = some ⟨b, o, none⟩ ∧ b < B ∧ w.cell? ⟨b, o + i * 2, none⟩ = some (.int .u8 x.v.toNat) ∧ w.cell? ⟨b, o + i * 2 + 1, none⟩ = some (.int .i64 x.o)

theorem Tbs.below {w w' : World} {B : Nat} {a : Option Addr} {l : List Tb} (h : Tbs w B a l) (hb : Below B w w') : Tbs w' B a l := by
  intro i x hx
  obtain ⟨b, o, ha, hlt, h0, h1⟩ := h i x hx
  exact ⟨b, o, ha, hlt, (hb.cell (p := ⟨b, _, none⟩) hlt).trans h0, (hb.cell (p := ⟨b, _, none⟩) hlt).trans h1⟩

theorem Tbs.up {w : World} {B B' : Nat} {a : Option Addr} {l : List Tb} (h : Tbs w B a l) (hB : B ≤ B') : Tbs w B' a l := by
  intro i x hx
  obtain ⟨b, o, q1, q2, q3⟩ := h i x hx
  exact ⟨b, o, q1, Nat.lt_of_lt_of_le q2 hB, q3⟩

theorem tbCells_length (l : List Tb) : (tbCells l).length = l.length * 2 := by
  induction l with
  | nil => rfl
  | cons x r ih => simp only [tbCells, List.flatMap_cons, List.length_append, List.length_cons] at ih ⊢; rw [ih]; simp [Tb.cells]; omega

theorem tbCells_append (a b : List Tb) : tbCells (a ++ b) = tbCells a ++ tbCells b := by simp [tbCells]

theorem tbCells_at {l : List Tb} : ∀ {i : Nat} {x : Tb}, l[i]? = some x → (tbCells l)[i * 2]? = some (.int .u8 x.v.toNat) ∧ (tbCells l)[i * 2 + 1]? = some (.int .i64 x.o) := by
  induction l with
  | nil => intro i x h; simp at h
  | cons y r ih =>
    intro i x h
    cases i with
    | zero => simp at h; subst h; simp [tbCells, Tb.cells]
    | succ i =>
      simp at h
      obtain ⟨a, b⟩ := ih h
      have e : tbCells (y :: r) = [.int .u8 y.v.toNat, .int .i64 y.o] ++ tbCells r := rfl
      refine ⟨?_, ?_⟩
      · rw [e, List.getElem?_append_right (by simp; omega)]
        simp only [List.length_cons, List.length_nil]
        rw [show (i + 1) * 2 - (0 + 1 + 1) = i * 2 from by omega]; exact a
      · rw [e, List.getElem?_append_right (by simp; omega)]
        simp only [List.length_cons, List.length_nil]
        rw [show (i + 1) * 2 + 1 - (0 + 1 + 1) = i * 2 + 1 from by omega]; exact b

/-- The value v owns the traced bytes l (of the element type T), from block B on. -/
def OwnsT (T : TypeId) (w : World) (B : Nat) (v : Value) (l : List Tb) : Prop := w.ownsRow B T 2 v l.length (tbCells l)

theorem OwnsT.tbs {T : TypeId} {w : World} {B : Nat} {v : Value} {l : List Tb} (h : OwnsT T w B v l) : ∃ a cap, v = .slice a l.length cap ∧ l.length ≤ cap ∧ cap ≤ maxLen ∧ Tbs w w.heap.size a l := by
  rcases h.2 with ⟨rfl, h0⟩ | ⟨g, cap, cur, rfl, hb, hg, h1, h2, h3, h4⟩
  · refine ⟨none, 0, by rw [h0], by omega, by omega, ?_⟩
    have : l = [] := List.eq_nil_of_length_eq_zero h0
    subst this
    intro i x hx
    simp at hx
  · refine ⟨some ⟨g, 0, none⟩, cap, rfl, h1, h2, ?_⟩
    intro i x hx
    obtain ⟨a, b⟩ := tbCells_at hx
    have hcell : ∀ j u, (tbCells l)[j]? = some u → w.cell? ⟨g, 0 + j, none⟩ = some u := by
      intro j u hu
      rw [← h4, List.getElem?_take] at hu
      split at hu
      · rw [Nat.zero_add, cell_of_row w g j cur T (0, 0) hg]
        simpa using hu
      · cases hu
    refine ⟨g, 0, rfl, ?_, hcell _ _ a, by have := hcell _ _ b; rwa [← Nat.add_assoc] at this⟩
    rcases Nat.lt_or_ge g w.heap.size with hlt | hge
    · exact hlt
    · rw [Array.getElem?_eq_none hge] at hg; cases hg

/-- The canonical list: n: the old string's length; p: where the gap begins; g: what has been inserted into it. -/
def canonFrom (n : Int) : Int → List UInt8 → List Tb → List Ed
  | p, g, [] => addC p n g
  | p, g, x :: r => if x.o = -1 then canonFrom n p (g ++ [x.v]) r else addC p x.o g ++ canonFrom n (x.o + 1) [] r

def canonL (n : Int) (l : List Tb) : List Ed := canonFrom n 0 [] l

theorem addC_le (s e : Int) (g : List UInt8) : (addC s e g).length ≤ 1 := by
  unfold addC; split <;> simp

theorem canon_in {n p : Int} {g : List UInt8} {acc out : List Ed} {l : List Tb} {k : Nat} {x : Tb} (hx : l[k]? = some x) (h : out = acc ++ canonFrom n p g (l.drop k)) (ho : x.o = -1) :
    out = acc ++ canonFrom n p (g ++ [x.v]) (l.drop (k + 1)) := by
  rw [h, drop_at hx, canonFrom, if_pos ho]

theorem canon_out {n p : Int} {g : List UInt8} {acc out : List Ed} {l : List Tb} {k : Nat} {x : Tb} (hx : l[k]? = some x) (h : out = acc ++ canonFrom n p g (l.drop k)) (ho : ¬ x.o = -1) :
    out = (acc ++ addC p x.o g) ++ canonFrom n (x.o + 1) [] (l.drop (k + 1)) := by
  rw [h, drop_at hx, canonFrom, if_neg ho, List.append_assoc]

theorem canon_end {n p : Int} {g : List UInt8} {acc out : List Ed} {l : List Tb} {k : Nat} (hk : l.length ≤ k) (h : out = acc ++ canonFrom n p g (l.drop k)) : out = acc ++ addC p n g := by
  rw [h, List.drop_eq_nil_of_le hk, canonFrom]
end Go.Proofs.Ytdmmoknddkfnmaa
