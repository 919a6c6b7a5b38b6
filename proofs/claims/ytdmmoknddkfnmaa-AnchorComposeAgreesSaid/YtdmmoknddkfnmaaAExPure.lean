/-
  The examples of chapter 2, reckoned.
-/
import Derived.Test.YtdmmoknddkfnmaaARange
import Derived.Test.YtdmmoknddkfnmaaAAll
import Derived.Test.YtdmmoknddkfnmaaOwn
namespace Go.Proofs.Ytdmmoknddkfnmaa
open Go.RowKit

def AX : List Ed := [⟨2, 5, ⟨#[120]⟩⟩, ⟨7, 7, ⟨#[121, 121]⟩⟩]
def AZ : List Int := [0, 6, 8]
def AY : List Int := [0, 4, 8]

theorem ax_e3 : errM AX 3 = 0 := by kernel_rfl
theorem ax_e7 : errM AX 7 = 0 := by kernel_rfl
theorem ax_v1 : mapV AX 3 false = 2 := by kernel_rfl
theorem ax_v2 : mapV AX 3 true = 3 := by kernel_rfl
theorem ax_v3 : mapV AX 7 false = 5 := by kernel_rfl
theorem ax_v4 : mapV AX 7 true = 7 := by kernel_rfl
theorem ax_r0 : errR AX 7 9 = 0 := by kernel_rfl
theorem ax_rs : rgS AX 7 9 true = 5 := by kernel_rfl
theorem ax_re : rgE AX 7 9 true = 9 := by kernel_rfl
theorem ax_l0 : errL AX AZ = 0 := by kernel_rfl
theorem ax_l : allV AX AZ false = AY := by kernel_rfl

theorem edsA_new (w : World) (l : List Ed) (hok : ∀ x, x ∈ l → x.ok) : Eds (w.alloc (.cells (edCells l).toArray 35)) (w.alloc (.cells (edCells l).toArray 35)).heap.size (some ⟨w.heap.size, 0, none⟩) l := by
  intro i x hx
  have hb := heap_alloc_new w (.cells (edCells l).toArray 35)
  obtain ⟨a, b, c⟩ := edCells_at hx
  refine ⟨hok x (List.mem_of_getElem? hx), w.heap.size, 0, rfl, by simp, ?_, ?_, ?_⟩
  · rw [Lib.cell_of_heap hb]; simpa using a
  · rw [Lib.cell_of_heap hb]; simpa using b
  · rw [Lib.cell_of_heap hb]; simpa using c

theorem ints_new (w : World) (zs : List Int) (hI : InI zs) : Ints (w.alloc (.cells (iCells zs).toArray 3)) (w.alloc (.cells (iCells zs).toArray 3)).heap.size (some ⟨w.heap.size, 0, none⟩) zs :=
  ints_of_cells hI (heap_alloc_new w _) (List.take_of_length_le (by simp [iCells]))

theorem Eds.allocA {w : World} {a : Option Addr} {l : List Ed} (h : Eds w w.heap.size a l) (o : Obj) : Eds (w.alloc o) (w.alloc o).heap.size a l := h.fwd ((Below.refl _ _).alloc (Nat.le_refl _) _)
theorem Ints.allocA {w : World} {a : Option Addr} {l : List Int} (h : Ints w w.heap.size a l) (o : Obj) : Ints (w.alloc o) (w.alloc o).heap.size a l := h.to ((Below.refl _ _).alloc (Nat.le_refl _) _)

theorem ok_AX : ∀ x, x ∈ AX → x.ok := by intro x hx; simp [AX] at hx; rcases hx with rfl | rfl <;> (refine ⟨by decide, by decide, by decide, by decide, ?_⟩; unfold maxLen; decide)
theorem ok_AZ : InI AZ := by intro z hz; simp [AZ] at hz; omega
theorem ok_AY : InI AY := by intro z hz; simp [AY] at hz; omega

theorem c_m1 (w : World) (a : Option Addr) (h : Hid (Eds w w.heap.size a AX)) : Calls Try.prog 9 #[.slice a 2 2, .int .i64 3, .bool false] w fun e w' => e = .returned (.tuple #[.int .i64 2, .int .i64 0]) ∧ Below w.heap.size w w' := by
  have := map_any a 2 AX 3 false w (by unfold maxLen; decide) (by decide) h.out
  rw [ax_e3, ax_v1] at this
  exact this
theorem c_m2 (w : World) (a : Option Addr) (h : Hid (Eds w w.heap.size a AX)) : Calls Try.prog 9 #[.slice a 2 2, .int .i64 3, .bool true] w fun e w' => e = .returned (.tuple #[.int .i64 3, .int .i64 0]) ∧ Below w.heap.size w w' := by
  have := map_any a 2 AX 3 true w (by unfold maxLen; decide) (by decide) h.out
  rw [ax_e3, ax_v2] at this
  exact this
theorem c_m3 (w : World) (a : Option Addr) (h : Hid (Eds w w.heap.size a AX)) : Calls Try.prog 9 #[.slice a 2 2, .int .i64 7, .bool false] w fun e w' => e = .returned (.tuple #[.int .i64 5, .int .i64 0]) ∧ Below w.heap.size w w' := by
  have := map_any a 2 AX 7 false w (by unfold maxLen; decide) (by decide) h.out
  rw [ax_e7, ax_v3] at this
  exact this
theorem c_m4 (w : World) (a : Option Addr) (h : Hid (Eds w w.heap.size a AX)) : Calls Try.prog 9 #[.slice a 2 2, .int .i64 7, .bool true] w fun e w' => e = .returned (.tuple #[.int .i64 7, .int .i64 0]) ∧ Below w.heap.size w w' := by
  have := map_any a 2 AX 7 true w (by unfold maxLen; decide) (by decide) h.out
  rw [ax_e7, ax_v4] at this
  exact this
theorem c_r (w : World) (a : Option Addr) (h : Hid (Eds w w.heap.size a AX)) : Calls Try.prog 15 #[.slice a 2 2, .int .i64 7, .int .i64 9, .bool true] w fun e w' => e = .returned (.tuple #[.int .i64 5, .int .i64 9, .int .i64 0]) ∧ Below w.heap.size w w' := by
  have := range_any a 2 AX 7 9 true w (by unfold maxLen; decide) (by decide) (by decide) h.out
  rw [ax_r0, ax_rs, ax_re] at this
  exact this
theorem c_l (w : World) (a a2 : Option Addr) (h : Hid (Eds w w.heap.size a AX)) (h2 : Hid (Ints w w.heap.size a2 AZ)) : Calls Try.prog 16 #[.slice a 2 2, .slice a2 3 3, .bool false] w fun e w' => ∃ b c, e = .returned (.tuple #[.slice b 3 c, .int .i64 0]) ∧ Hid (Ints w' w'.heap.size b AY) ∧ Below w.heap.size w w' := by
  refine (all_any a 2 AX a2 3 AZ false w (by unfold maxLen; decide) (by decide) h.out h2.out).mono ?_
  rintro e w' ⟨v, rfl, ho, hb⟩
  rw [ax_l] at ho
  obtain ⟨b, c, rfl, hI⟩ := ho.out.ints ok_AY
  rw [ax_l0]
  exact ⟨b, c, rfl, hI, hb⟩
theorem c_eq (w : World) (a b : Option Addr) (c : Nat) (h : Hid (Ints w w.heap.size a AY)) (h2 : Hid (Ints w w.heap.size b AY)) : Calls Try.prog 19 #[.slice a 3 c, .slice b 3 3] w fun e w' => e = .returned (.bool true) ∧ Below w.heap.size w w' :=
  equal_ints AY a c b 3 w (by unfold maxLen; decide) h.out h2.out
end Go.Proofs.Ytdmmoknddkfnmaa
