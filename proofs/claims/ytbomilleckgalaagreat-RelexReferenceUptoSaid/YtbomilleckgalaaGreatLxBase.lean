/-
  Common words for the walks of package lexer: tokens in memory, strings as lists of bytes.
-/
import Derived.Test.YtbomilleckgalaaGreatProg
import Derived.Test.YtbomilleckgalaaGreatLxLex
import Derived.WalkKit
import Derived.KernelRfl
import Derived.Lib.Hide
import Derived.Deep.AppendLies
import Derived.Deep.QuietTactic
import Derived.BigQuiet
import Derived.Laws.StructEq
import Derived.Laws.MakeOwn
import Derived.Laws.AppendOwn
import Derived.Laws.Concat
import Derived.Lib.Builder
namespace Go.Proofs.YtbomilleckgalaaGreat.Lx
open Go.RowKit

/-- A list of bytes as a string, and back. -/
def bs (l : List UInt8) : ByteArray := ⟨l.toArray⟩
def L (s : ByteArray) : List UInt8 := s.data.toList
theorem bs_L (s : ByteArray) : bs (L s) = s := by cases s; simp [bs, L]
theorem L_bs (l : List UInt8) : L (bs l) = l := by simp [bs, L]
theorem L_len (s : ByteArray) : (L s).length = s.size := Array.length_toList
theorem bs_size (l : List UInt8) : (bs l).size = l.length := List.size_toArray
theorem bs_inj {a b : List UInt8} (h : bs a = bs b) : a = b := by rw [← L_bs a, h, L_bs]
theorem L_inj {a b : ByteArray} (h : L a = L b) : a = b := by rw [← bs_L a, h, bs_L]
theorem L_extract (s : ByteArray) (a b : Nat) : L (s.extract a b) = ((L s).drop a).take (b - a) := by
  unfold L; rw [ByteArray.data_extract, Array.toList_extract]
theorem take_is (s : ByteArray) (n : Nat) : s.extract 0 n = bs ((L s).take n) := by
  rw [← bs_L (s.extract 0 n), L_extract, List.drop_zero, Nat.sub_zero]
theorem drop_is (s : ByteArray) (n : Nat) : s.extract n s.size = bs ((L s).drop n) := by
  rw [← bs_L (s.extract n s.size), L_extract, List.take_of_length_le (by rw [List.length_drop, L_len]; omega)]
theorem L_append (a b : ByteArray) : L (a ++ b) = L a ++ L b := by simp [L]
theorem at_L (s : ByteArray) (i : Nat) (h : i < s.size) : (L s)[i]? = some (s[i]'h) := by
  unfold L
  rw [List.getElem?_eq_getElem (by simpa using h)]
  simp
  rfl
theorem byte_hi (c : UInt8) : (0 : Int) ≤ c.toNat ∧ (c.toNat : Int) ≤ 255 := by have := c.toNat_lt; omega
theorem byte_eq {c d : UInt8} (h : (c.toNat : Int) = d.toNat) : c = d := UInt8.toNat_inj.1 (by omega)

abbrev Tk := Int × List UInt8

theorem info_tok : (Tryz.prog.info? 32).map (fun i => (i.zero, i.size, i.bytes)) = some (some (.agg #[.int .i64 0, .string ⟨#[]⟩]), 2, 24) := by kernel_rfl

def tkCells (x : Tk) : List Value := [.int .i64 x.1, .string (bs x.2)]
def cellsT (l : List Tk) : List Value := l.flatMap tkCells

theorem cellsT_length (l : List Tk) : (cellsT l).length = l.length * 2 := by
  induction l with
  | nil => rfl
  | cons x r ih => simp only [cellsT, List.flatMap_cons, List.length_append, List.length_cons] at ih ⊢; rw [ih]; simp [tkCells]; omega

theorem cellsT_append (a b : List Tk) : cellsT (a ++ b) = cellsT a ++ cellsT b := by simp [cellsT]

theorem cellsT_at {l : List Tk} : ∀ {i : Nat} {x : Tk}, l[i]? = some x → (cellsT l)[i * 2]? = some (.int .i64 x.1) ∧ (cellsT l)[i * 2 + 1]? = some (.string (bs x.2)) := by
  induction l with
  | nil => intro i x h; simp at h
  | cons y r ih =>
    intro i x h
    cases i with
    | zero => simp at h; subst h; simp [cellsT, tkCells]
    | succ i =>
      simp at h
      obtain ⟨a, b⟩ := ih h
      have e : cellsT (y :: r) = [.int .i64 y.1, .string (bs y.2)] ++ cellsT r := rfl
      refine ⟨?_, ?_⟩
      · rw [e, List.getElem?_append_right (by simp; omega)]
        simp only [List.length_cons, List.length_nil]
        rw [show (i + 1) * 2 - (0 + 1 + 1) = i * 2 from by omega]; exact a
      · rw [e, List.getElem?_append_right (by simp; omega)]
        simp only [List.length_cons, List.length_nil]
        rw [show (i + 1) * 2 + 1 - (0 + 1 + 1) = i * 2 + 1 from by omega]; exact b

/-- The value v owns the tokens l, from block B on. -/
def OwnsT (w : World) (B : Nat) (v : Value) (l : List Tk) : Prop := w.ownsRow B 32 2 v l.length (cellsT l)

theorem OwnsT.nil (w : World) (B : Nat) : OwnsT w B (.slice none 0 0) [] := World.ownsRow_nil w B 32 2

/-- The slice at a reads in w as the list l of tokens. -/
def Tks (w : World) (B : Nat) (a : Option Addr) (l : List Tk) : Prop :=
  ∀ i x, l[i]? = some x → ∃ b o, a = some ⟨b, o, none⟩ ∧ b < B ∧ w.cell? ⟨b, o + i * 2, none⟩ = some (.int .i64 x.1) ∧ w.cell? ⟨b, o + i * 2 + 1, none⟩ = some (.string (bs x.2))

theorem Tks.below {w w' : World} {B B' : Nat} {a : Option Addr} {l : List Tk} (h : Tks w B a l) (hb : Below B w w') (hB : B ≤ B') : Tks w' B' a l := by
  intro i x hx
  obtain ⟨b, o, ha, hlt, h0, h1⟩ := h i x hx
  exact ⟨b, o, ha, Nat.lt_of_lt_of_le hlt hB, (hb.cell (p := ⟨b, _, none⟩) hlt).trans h0, (hb.cell (p := ⟨b, _, none⟩) hlt).trans h1⟩

theorem Tks.to {w w' : World} {a : Option Addr} {l : List Tk} (h : Tks w w.heap.size a l) (hb : Below w.heap.size w w') : Tks w' w'.heap.size a l := h.below hb hb.size

theorem Tks.drop {w : World} {B b o : Nat} {l : List Tk} (h : Tks w B (some ⟨b, o, none⟩) l) (m : Nat) : Tks w B (some ⟨b, o + m * 2, none⟩) (l.drop m) := by
  intro i x hx
  rw [List.getElem?_drop] at hx
  obtain ⟨b', o', h1, h2, h3, h4⟩ := h _ x hx
  cases h1
  refine ⟨b, o + m * 2, rfl, h2, ?_, ?_⟩
  · rw [show o + m * 2 + i * 2 = o + (m + i) * 2 from by rw [Nat.add_mul]; omega]; exact h3
  · rw [show o + m * 2 + i * 2 + 1 = o + (m + i) * 2 + 1 from by rw [Nat.add_mul]; omega]; exact h4

theorem Tks.nil {w : World} {B : Nat} {a : Option Addr} : Tks w B a [] := fun i x hx => by simp at hx

theorem OwnsT.tks {w : World} {B : Nat} {v : Value} {l : List Tk} (h : OwnsT w B v l) : ∃ a cap, v = .slice a l.length cap ∧ l.length ≤ cap ∧ Tks w w.heap.size a l ∧ (l ≠ [] → ∃ b o, a = some ⟨b, o, none⟩) := by
  rcases h.2 with ⟨rfl, h0⟩ | ⟨g, cap, cur, rfl, hb, hg, h1, h2, h3, h4⟩
  · have : l = [] := List.eq_nil_of_length_eq_zero h0
    subst this
    exact ⟨none, 0, rfl, Nat.le_refl _, Tks.nil, fun h => absurd rfl h⟩
  · refine ⟨some ⟨g, 0, none⟩, cap, rfl, h1, ?_, fun _ => ⟨_, _, rfl⟩⟩
    intro i x hx
    obtain ⟨a, b⟩ := cellsT_at hx
    have hcell : ∀ j u, (cellsT l)[j]? = some u → w.cell? ⟨g, 0 + j, none⟩ = some u := by
      intro j u hu
      rw [← h4, List.getElem?_take] at hu
      split at hu
      · rw [Nat.zero_add, cell_of_row w g j cur 32 (0, 0) hg]
        simpa using hu
      · cases hu
    refine ⟨g, 0, rfl, ?_, hcell _ _ a, by have := hcell _ _ b; rwa [← Nat.add_assoc] at this⟩
    rcases Nat.lt_or_ge g w.heap.size with hlt | hge
    · exact hlt
    · rw [Array.getElem?_eq_none hge] at hg; cases hg

theorem ownsT_below {w w' : World} {B : Nat} {v : Value} {l : List Tk} (h : OwnsT w B v l) (hb : Below w.heap.size w w') : OwnsT w' B v l :=
  World.ownsRow.kept h (row := none) ⟨hb.os, hb.tape, hb.output, hb.size, fun k hk _ => hb.block k hk⟩ (by cases hv : v.ownBlock <;> simp)

theorem Tks.new (w : World) (l : List Tk) : Tks (w.alloc (.cells (cellsT l).toArray 32)) (w.alloc (.cells (cellsT l).toArray 32)).heap.size (some ⟨w.heap.size, 0, none⟩) l := by
  intro i x hx
  have hb := heap_alloc_new w (.cells (cellsT l).toArray 32)
  obtain ⟨a, b⟩ := cellsT_at hx
  refine ⟨w.heap.size, 0, rfl, by simp, ?_, ?_⟩
  · rw [Lib.cell_of_heap hb]; simpa using a
  · rw [Lib.cell_of_heap hb]; simpa using b

/-- The slice at a reads in w as the list l of strings. -/
def Strs (w : World) (B : Nat) (a : Option Addr) (l : List (List UInt8)) : Prop :=
  ∀ i x, l[i]? = some x → ∃ b o, a = some ⟨b, o, none⟩ ∧ b < B ∧ w.cell? ⟨b, o + i, none⟩ = some (.string (bs x))

theorem Strs.below {w w' : World} {B B' : Nat} {a : Option Addr} {l : List (List UInt8)} (h : Strs w B a l) (hb : Below B w w') (hB : B ≤ B') : Strs w' B' a l := by
  intro i x hx
  obtain ⟨b, o, h1, h2, h3⟩ := h i x hx
  exact ⟨b, o, h1, Nat.lt_of_lt_of_le h2 hB, (hb.cell (p := ⟨b, _, none⟩) h2).trans h3⟩

theorem Strs.to {w w' : World} {a : Option Addr} {l : List (List UInt8)} (h : Strs w w.heap.size a l) (hb : Below w.heap.size w w') : Strs w' w'.heap.size a l := h.below hb hb.size

theorem Strs.new (w : World) (l : List (List UInt8)) : Strs (w.alloc (.cells (l.map fun x => Value.string (bs x)).toArray 9)) (w.alloc (.cells (l.map fun x => Value.string (bs x)).toArray 9)).heap.size (some ⟨w.heap.size, 0, none⟩) l := by
  intro i x hx
  have hb := heap_alloc_new w (.cells (l.map fun x => Value.string (bs x)).toArray 9)
  refine ⟨w.heap.size, 0, rfl, by simp, ?_⟩
  rw [Lib.cell_of_heap hb]
  simp [hx]

theorem below_drewN' {B : Nat} {a w : World} (h : Below B a w) (n : Nat) : Below B a (w.drewN n) := ⟨h.os, h.tape, h.output, h.size, h.block⟩
theorem below_drew' {B : Nat} {a w : World} (h : Below B a.drew w) : Below B a w := ⟨h.os, h.tape, h.output, h.size, h.block⟩
end Go.Proofs.YtbomilleckgalaaGreat.Lx