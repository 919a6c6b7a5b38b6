/-
  The four conversions of package position by their contracts.
-/
import Derived.Test.YtmdfkahodbfjnaaDoorPosof
import Derived.Test.YtmdfkahodbfjnaaDoorOffof
namespace Go.Proofs.YtmdfkahodbfjnaaDoor
open Go.RowKit

set_option maxHeartbeats 400000 in
theorem pos_true (s : ByteArray) (off : Int) (w : World) (hs : s.size ≤ 1000000) (hT : Tabs w) (ho : -9223372036854775808 ≤ off ∧ off ≤ 9223372036854775807) :
    Calls Tryd.prog 12 #[.string s, .int .i64 off] w fun e w' => e = .returned (.tuple #[.agg #[.int .i64 (posV s true off).1, .int .i64 (posV s true off).2.1], .int .i64 (posV s true off).2.2]) ∧ Below w.heap.size w w' := by
  have HK := Lib.hid (posof_true s off (w.alloc (.cells #[.int .i64 0, .int .i64 0] 23)) hs (hT.to ((Below.refl _ _).alloc (Nat.le_refl _) _)) ho)
  have HB : Hid (Below w.heap.size w (w.alloc (.cells #[.int .i64 0, .int .i64 0] 23))) := (Below.refl _ _).alloc (Nat.le_refl _) _
  have HBK := Lib.hid (heap_alloc_new w (.cells #[.int .i64 0, .int .i64 0] 23))
  have HZ : Hid ((w.alloc (.cells #[.int .i64 0, .int .i64 0] 23)).heap.size = w.heap.size + 1) := by show _ = _; simp
  clear hs hT ho
  generalize posV s true off = V at *
  obtain ⟨L, C, E⟩ := V
  go_enter Tryd.func12, Tryd.ntmps12
  go_wp2_with fail
  refine HK.out.mono ?_
  rintro e w1 ⟨rfl, hb1⟩
  clear HK
  have hz1 := hb1.size
  rw [HZ.out] at hz1
  have k1 := Lib.hid ((hb1.block _ (by rw [HZ.out]; omega)).trans HBK.out)
  have B1 := HB.out.trans (hb1.mono (by rw [HZ.out]; omega))
  clear hb1 HB HBK HZ
  have a0 : w1.cell? ⟨w.heap.size, 0, none⟩ = some (.int .i64 0) := by rw [Lib.cell_of_heap k1.out]; rfl
  have a1 : w1.cell? ⟨w.heap.size, 1, none⟩ = some (.int .i64 0) := by rw [Lib.cell_of_heap k1.out]; rfl
  have a2 : w1.frozen? ⟨w.heap.size, 0, none⟩ = false := Lib.frozen_of_heap k1.out 0
  have a3 : w1.frozen? ⟨w.heap.size, 1, none⟩ = false := Lib.frozen_of_heap k1.out 1
  have z0 : ∀ v, (w1.setCell ⟨w.heap.size, 0, none⟩ v).cell? ⟨w.heap.size, 0, none⟩ = some v := fun v => by rw [Lib.cell_of_heap (set_two0 k1.out)]; rfl
  have z1 : ∀ v u, ((w1.setCell ⟨w.heap.size, 0, none⟩ v).setCell ⟨w.heap.size, 1, none⟩ u).cell? ⟨w.heap.size, 1, none⟩ = some u := fun v u => by rw [Lib.cell_of_heap (set_two1 (set_two0 k1.out))]; rfl
  clear k1
  go_wp2_with fail
  refine bodyPost_ret (by simp [results, Tryd.results12, go_sem, z0, z1]; try rfl) rfl ?_
  exact ⟨rfl, (B1.setCell (Nat.le_refl _) _).setCell (Nat.le_refl _) _⟩

set_option maxHeartbeats 400000 in
theorem pos_false (s : ByteArray) (off : Int) (w : World) (hs : s.size ≤ 1000000) (hT : Tabs w) (ho : -9223372036854775808 ≤ off ∧ off ≤ 9223372036854775807) :
    Calls Tryd.prog 14 #[.string s, .int .i64 off] w fun e w' => e = .returned (.tuple #[.agg #[.int .i64 (posV s false off).1, .int .i64 (posV s false off).2.1], .int .i64 (posV s false off).2.2]) ∧ Below w.heap.size w w' := by
  have HK := Lib.hid (posof_false s off (w.alloc (.cells #[.int .i64 0, .int .i64 0] 23)) hs (hT.to ((Below.refl _ _).alloc (Nat.le_refl _) _)) ho)
  have HB : Hid (Below w.heap.size w (w.alloc (.cells #[.int .i64 0, .int .i64 0] 23))) := (Below.refl _ _).alloc (Nat.le_refl _) _
  have HBK := Lib.hid (heap_alloc_new w (.cells #[.int .i64 0, .int .i64 0] 23))
  have HZ : Hid ((w.alloc (.cells #[.int .i64 0, .int .i64 0] 23)).heap.size = w.heap.size + 1) := by show _ = _; simp
  clear hs hT ho
  generalize posV s false off = V at *
  obtain ⟨L, C, E⟩ := V
  go_enter Tryd.func14, Tryd.ntmps14
  go_wp2_with fail
  refine HK.out.mono ?_
  rintro e w1 ⟨rfl, hb1⟩
  clear HK
  have hz1 := hb1.size
  rw [HZ.out] at hz1
  have k1 := Lib.hid ((hb1.block _ (by rw [HZ.out]; omega)).trans HBK.out)
  have B1 := HB.out.trans (hb1.mono (by rw [HZ.out]; omega))
  clear hb1 HB HBK HZ
  have a0 : w1.cell? ⟨w.heap.size, 0, none⟩ = some (.int .i64 0) := by rw [Lib.cell_of_heap k1.out]; rfl
  have a1 : w1.cell? ⟨w.heap.size, 1, none⟩ = some (.int .i64 0) := by rw [Lib.cell_of_heap k1.out]; rfl
  have a2 : w1.frozen? ⟨w.heap.size, 0, none⟩ = false := Lib.frozen_of_heap k1.out 0
  have a3 : w1.frozen? ⟨w.heap.size, 1, none⟩ = false := Lib.frozen_of_heap k1.out 1
  have z0 : ∀ v, (w1.setCell ⟨w.heap.size, 0, none⟩ v).cell? ⟨w.heap.size, 0, none⟩ = some v := fun v => by rw [Lib.cell_of_heap (set_two0 k1.out)]; rfl
  have z1 : ∀ v u, ((w1.setCell ⟨w.heap.size, 0, none⟩ v).setCell ⟨w.heap.size, 1, none⟩ u).cell? ⟨w.heap.size, 1, none⟩ = some u := fun v u => by rw [Lib.cell_of_heap (set_two1 (set_two0 k1.out))]; rfl
  clear k1
  go_wp2_with fail
  refine bodyPost_ret (by simp [results, Tryd.results14, go_sem, z0, z1]; try rfl) rfl ?_
  exact ⟨rfl, (B1.setCell (Nat.le_refl _) _).setCell (Nat.le_refl _) _⟩

set_option maxHeartbeats 400000 in
theorem off_true (s : ByteArray) (ln col : Int) (w : World) (hs : s.size ≤ 1000000) (hT : Tabs w) (hl : -9223372036854775808 ≤ ln ∧ ln ≤ 9223372036854775807) (ho : -9223372036854775808 ≤ col ∧ col ≤ 9223372036854775807) :
    Calls Tryd.prog 15 #[.string s, .agg #[.int .i64 ln, .int .i64 col]] w fun e w' => e = .returned (.tuple #[.int .i64 (offV s true ln col).1, .int .i64 (offV s true ln col).2]) ∧ Below w.heap.size w w' := by
  have HK := Lib.hid (offof_true s ln col (w.alloc (.cells #[.int .i64 ln, .int .i64 col] 23)) hs (hT.to ((Below.refl _ _).alloc (Nat.le_refl _) _)) hl ho)
  have HB : Hid (Below w.heap.size w (w.alloc (.cells #[.int .i64 ln, .int .i64 col] 23))) := (Below.refl _ _).alloc (Nat.le_refl _) _
  clear hs hT ho hl
  generalize offV s true ln col = V at *
  obtain ⟨O, E⟩ := V
  go_enter Tryd.func15, Tryd.ntmps15
  go_wp2_with fail
  refine HK.out.mono ?_
  rintro e w1 ⟨rfl, hb1⟩
  clear HK
  have B1 := HB.out.trans (hb1.mono (by simp))
  clear hb1 HB
  go_wp2_with fail
  go_ret2
  exact ⟨rfl, B1⟩

set_option maxHeartbeats 400000 in
theorem off_false (s : ByteArray) (ln col : Int) (w : World) (hs : s.size ≤ 1000000) (hT : Tabs w) (hl : -9223372036854775808 ≤ ln ∧ ln ≤ 9223372036854775807) (ho : -9223372036854775808 ≤ col ∧ col ≤ 9223372036854775807) :
    Calls Tryd.prog 17 #[.string s, .agg #[.int .i64 ln, .int .i64 col]] w fun e w' => e = .returned (.tuple #[.int .i64 (offV s false ln col).1, .int .i64 (offV s false ln col).2]) ∧ Below w.heap.size w w' := by
  have HK := Lib.hid (offof_false s ln col (w.alloc (.cells #[.int .i64 ln, .int .i64 col] 23)) hs (hT.to ((Below.refl _ _).alloc (Nat.le_refl _) _)) hl ho)
  have HB : Hid (Below w.heap.size w (w.alloc (.cells #[.int .i64 ln, .int .i64 col] 23))) := (Below.refl _ _).alloc (Nat.le_refl _) _
  clear hs hT ho hl
  generalize offV s false ln col = V at *
  obtain ⟨O, E⟩ := V
  go_enter Tryd.func17, Tryd.ntmps17
  go_wp2_with fail
  refine HK.out.mono ?_
  rintro e w1 ⟨rfl, hb1⟩
  clear HK
  have B1 := HB.out.trans (hb1.mono (by simp))
  clear hb1 HB
  go_wp2_with fail
  go_ret2
  exact ⟨rfl, B1⟩
end Go.Proofs.YtmdfkahodbfjnaaDoor
