/-
  One edit: the new string, the edit in memory.
-/
import Derived.Test.YtbomilleckgalaaGreatTeApply
import Derived.Test.YtbomilleckgalaaGreatLxBase
namespace Go.Proofs.YtbomilleckgalaaGreat.Te
open Go.RowKit Go.Proofs.YtbomilleckgalaaGreat.Lx

/-- The string behind one edit. -/
def next (l : List UInt8) (x : Ed) : List UInt8 := l.take x.s.toNat ++ (L x.t ++ l.drop x.e.toNat)

theorem next_apply (s : ByteArray) (x : Ed) : applyL s.data.toList [x] = next (L s) x := by
  simp [applyL, applyFrom, next, L]

/-- The edit lies within a source, and the result is not too long. -/
def Fit (n : Nat) (x : Ed) : Prop := 0 ≤ x.s ∧ x.s ≤ x.e ∧ x.e ≤ n ∧ n ≤ 2000 ∧ (n : Int) - (x.e - x.s) + x.t.size ≤ 2000

theorem Fit.errV {n : Nat} {x : Ed} (h : Fit n x) : errV n [x] = 0 := by
  obtain ⟨h1, h2, h3, h4, h5⟩ := h
  have e1 : sepFrom (n : Int) (-1) [x] = true := by
    unfold sepFrom
    rw [if_neg (by omega)]
    rfl
  have e2 : fitsB (n : Int) [x] = true := by
    unfold fitsB
    exact decide_eq_true (by simp only [tsum, dsum]; omega)
  unfold Te.errV
  rw [e1, e2, if_neg (by simp; omega), if_neg (by simp), if_neg (by simp)]

theorem Fit.ok {n : Nat} {x : Ed} (h : Fit n x) : x.ok := by
  obtain ⟨h1, h2, h3, h4, h5⟩ := h
  exact ⟨by omega, by omega, by omega, by omega, by unfold maxLen; omega⟩

theorem Fit.len {s : ByteArray} {x : Ed} (h : Fit s.size x) : ((next (L s) x).length : Int) = s.size - (x.e - x.s) + x.t.size := by
  obtain ⟨h1, h2, h3, h4, h5⟩ := h
  unfold next
  rw [List.length_append, List.length_append, List.length_take, List.length_drop, L_len, L_len]
  omega

/-- One edit in a block of its own. -/
theorem eds_one (w : World) (x : Ed) (hok : x.ok) : Eds (w.alloc (.cells #[.int .i64 x.s, .int .i64 x.e, .string x.t] 23)) (w.alloc (.cells #[.int .i64 x.s, .int .i64 x.e, .string x.t] 23)).heap.size (some ⟨w.heap.size, 0, none⟩) [x] := by
  intro i y hy
  cases i with
  | succ i => simp at hy
  | zero =>
    simp at hy
    subst hy
    have hb := heap_alloc_new w (.cells #[.int .i64 x.s, .int .i64 x.e, .string x.t] 23)
    refine ⟨hok, w.heap.size, 0, rfl, by simp, ?_, ?_, ?_⟩
    · rw [Lib.cell_of_heap hb]; rfl
    · rw [Lib.cell_of_heap hb]; rfl
    · rw [Lib.cell_of_heap hb]; rfl

/-- The block n holds the edit x. -/
def BoxAt (w : World) (n : Nat) (x : Ed) : Prop :=
  n < w.heap.size ∧ w.cell? ⟨n, 0, none⟩ = some (.int .i64 x.s) ∧ w.cell? ⟨n, 1, none⟩ = some (.int .i64 x.e) ∧ w.cell? ⟨n, 2, none⟩ = some (.string x.t)

theorem BoxAt.to {w w' : World} {n : Nat} {x : Ed} (h : BoxAt w n x) (hb : Below w.heap.size w w') : BoxAt w' n x := by
  obtain ⟨h0, h1, h2, h3⟩ := h
  exact ⟨Nat.lt_of_lt_of_le h0 hb.size, (hb.cell (p := ⟨n, 0, none⟩) h0).trans h1, (hb.cell (p := ⟨n, 1, none⟩) h0).trans h2, (hb.cell (p := ⟨n, 2, none⟩) h0).trans h3⟩
end Go.Proofs.YtbomilleckgalaaGreat.Te
