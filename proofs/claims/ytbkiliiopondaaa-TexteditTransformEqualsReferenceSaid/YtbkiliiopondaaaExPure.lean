/-
  The examples of chapter 1, reckoned.
-/
import Derived.Test.YtbkiliiopondaaaTransform
import Derived.Test.YtbkiliiopondaaaInvert
import Derived.Test.YtbkiliiopondaaaEqual
namespace Go.Proofs.Ytbkiliiopondaaa
open Go.RowKit

def S6 : ByteArray := ⟨#[97, 98, 99, 100, 101, 102]⟩
def S3 : ByteArray := ⟨#[97, 98, 99]⟩
def X1 : List Ed := [⟨1, 2, ⟨#[120, 121]⟩⟩, ⟨4, 4, ⟨#[122]⟩⟩]
def X2 : List Ed := [⟨2, 4, ⟨#[]⟩⟩]
def X3 : List Ed := [⟨1, 1, ⟨#[49]⟩⟩]
def X4 : List Ed := [⟨0, 2, ⟨#[50]⟩⟩]
def Y1 : List Ed := [⟨1, 3, ⟨#[98]⟩⟩, ⟨5, 6, ⟨#[]⟩⟩]
def Y2 : List Ed := [⟨1, 3, ⟨#[120]⟩⟩, ⟨4, 4, ⟨#[122]⟩⟩]
def Y3 : List Ed := [⟨1, 1, ⟨#[49]⟩⟩]
def Y4 : List Ed := [⟨0, 1, ⟨#[50]⟩⟩, ⟨2, 3, ⟨#[]⟩⟩]

theorem ex_err1 : errV S6.size X1 = 0 := by kernel_rfl
theorem ex_apply : applyL S6.data.toList X1 = [97, 120, 121, 99, 100, 122, 101, 102] := by kernel_rfl
theorem ex_inv : invL S6 X1 = Y1 := by kernel_rfl
theorem ex_comp0 : compErr S6 X1 X2 = 0 := by kernel_rfl
theorem ex_comp : compR S6 X1 X2 = Y2 := by kernel_rfl
theorem ex_tr0 : trErr S3 X3 X4 = 0 := by kernel_rfl
theorem ex_trL : trL S3 X3 X4 = Y3 := by kernel_rfl
theorem ex_trR : trR S3 X3 X4 = Y4 := by kernel_rfl

theorem eds_new (w : World) (l : List Ed) (hok : ∀ x, x ∈ l → x.ok) : Eds (w.alloc (.cells (edCells l).toArray 38)) (w.alloc (.cells (edCells l).toArray 38)).heap.size (some ⟨w.heap.size, 0, none⟩) l := by
  intro i x hx
  have hb := heap_alloc_new w (.cells (edCells l).toArray 38)
  obtain ⟨a, b, c⟩ := edCells_at hx
  refine ⟨hok x (List.mem_of_getElem? hx), w.heap.size, 0, rfl, by simp, ?_, ?_, ?_⟩
  · rw [Lib.cell_of_heap hb]; simpa using a
  · rw [Lib.cell_of_heap hb]; simpa using b
  · rw [Lib.cell_of_heap hb]; simpa using c

theorem Eds.to {w w' : World} {a : Option Addr} {l : List Ed} (h : Eds w w.heap.size a l) (hb : Below w.heap.size w w') : Eds w' w'.heap.size a l := (h.below hb).up hb.size

theorem Eds.alloc {w : World} {a : Option Addr} {l : List Ed} (h : Eds w w.heap.size a l) (o : Obj) : Eds (w.alloc o) (w.alloc o).heap.size a l := h.to ((Below.refl _ _).alloc (Nat.le_refl _) _)

theorem ok_X1 : ∀ x, x ∈ X1 → x.ok := by intro x hx; simp [X1] at hx; rcases hx with rfl | rfl <;> (refine ⟨by decide, by decide, by decide, by decide, ?_⟩; unfold maxLen; decide)
theorem ok_X2 : ∀ x, x ∈ X2 → x.ok := by intro x hx; simp [X2] at hx; rcases hx with rfl; (refine ⟨by decide, by decide, by decide, by decide, ?_⟩; unfold maxLen; decide)
theorem ok_X3 : ∀ x, x ∈ X3 → x.ok := by intro x hx; simp [X3] at hx; rcases hx with rfl; (refine ⟨by decide, by decide, by decide, by decide, ?_⟩; unfold maxLen; decide)
theorem ok_X4 : ∀ x, x ∈ X4 → x.ok := by intro x hx; simp [X4] at hx; rcases hx with rfl; (refine ⟨by decide, by decide, by decide, by decide, ?_⟩; unfold maxLen; decide)
theorem ok_Y1 : ∀ x, x ∈ Y1 → x.ok := by intro x hx; simp [Y1] at hx; rcases hx with rfl | rfl <;> (refine ⟨by decide, by decide, by decide, by decide, ?_⟩; unfold maxLen; decide)
theorem ok_Y2 : ∀ x, x ∈ Y2 → x.ok := by intro x hx; simp [Y2] at hx; rcases hx with rfl | rfl <;> (refine ⟨by decide, by decide, by decide, by decide, ?_⟩; unfold maxLen; decide)
theorem ok_Y3 : ∀ x, x ∈ Y3 → x.ok := ok_X3
theorem ok_Y4 : ∀ x, x ∈ Y4 → x.ok := by intro x hx; simp [Y4] at hx; rcases hx with rfl | rfl <;> (refine ⟨by decide, by decide, by decide, by decide, ?_⟩; unfold maxLen; decide)
end Go.Proofs.Ytbkiliiopondaaa
