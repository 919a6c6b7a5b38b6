/-
  anchorExamples of the keep laws answers true.
-/
import Derived.Test.YtdmmoknddkfnmaaAExPure
namespace Go.Proofs.Ytdmmoknddkfnmaa
open Go.RowKit

set_option maxHeartbeats 1000000 in
set_option maxRecDepth 100000 in
theorem exa_keep (w : World) : Calls Try.prog 8 #[] w fun e w' => e = .returned (.bool true) ∧ Below w.heap.size w w' := by
  go_enter Try.func8, Try.ntmps8
  go_wp2_with fail
  have E0 : Hid (Eds (w.alloc (.cells (edCells AX).toArray 35)) (w.alloc (.cells (edCells AX).toArray 35)).heap.size (some ⟨w.heap.size, 0, none⟩) AX) := edsA_new w AX ok_AX
  have B0 : Below w.heap.size w (w.alloc (.cells (edCells AX).toArray 35)) := (Below.refl _ _).alloc (Nat.le_refl _) _
  change Calls _ _ _ (w.alloc (.cells (edCells AX).toArray 35)) _
  generalize w.alloc (.cells (edCells AX).toArray 35) = w0 at *
  refine (c_m1 w0 _ E0).mono ?_
  rintro e w1 ⟨rfl, hb⟩
  have E1 : Hid (Eds w1 w1.heap.size (some ⟨w.heap.size, 0, none⟩) AX) := E0.out.fwd hb
  have B1 := B0.trans (hb.mono B0.size)
  clear E0 B0 hb
  go_wp2_with fail
  refine (c_m2 w1 _ E1).mono ?_
  rintro e w2 ⟨rfl, hb⟩
  have E2 : Hid (Eds w2 w2.heap.size (some ⟨w.heap.size, 0, none⟩) AX) := E1.out.fwd hb
  have B2 := B1.trans (hb.mono B1.size)
  clear E1 B1 hb
  go_wp2_with fail
  refine (c_m3 w2 _ E2).mono ?_
  rintro e w3 ⟨rfl, hb⟩
  have E3 : Hid (Eds w3 w3.heap.size (some ⟨w.heap.size, 0, none⟩) AX) := E2.out.fwd hb
  have B3 := B2.trans (hb.mono B2.size)
  clear E2 B2 hb
  go_wp2_with fail
  refine (c_m4 w3 _ E3).mono ?_
  rintro e w4 ⟨rfl, hb⟩
  have E4 : Hid (Eds w4 w4.heap.size (some ⟨w.heap.size, 0, none⟩) AX) := E3.out.fwd hb
  have B4 := B3.trans (hb.mono B3.size)
  clear E3 B3 hb
  go_wp2_with fail
  refine (c_r w4 _ E4).mono ?_
  rintro e w5 ⟨rfl, hb⟩
  have E5 : Hid (Eds w5 w5.heap.size (some ⟨w.heap.size, 0, none⟩) AX) := E4.out.fwd hb
  have B5 := B4.trans (hb.mono B4.size)
  clear E4 B4 hb
  go_wp2_with fail
  have N6 : Hid (Ints (w5.alloc (.cells (iCells AZ).toArray 3)) (w5.alloc (.cells (iCells AZ).toArray 3)).heap.size (some ⟨w5.heap.size, 0, none⟩) AZ) := ints_new w5 AZ ok_AZ
  have E6 : Hid (Eds (w5.alloc (.cells (iCells AZ).toArray 3)) (w5.alloc (.cells (iCells AZ).toArray 3)).heap.size _ _) := E5.out.allocA (.cells (iCells AZ).toArray 3)
  have B6 := B5.alloc B5.size (.cells (iCells AZ).toArray 3)
  clear E5 B5
  change Calls _ _ _ (w5.alloc (.cells (iCells AZ).toArray 3)) _
  generalize w5.alloc (.cells (iCells AZ).toArray 3) = w6 at *
  refine (c_l w6 _ _ E6 N6).mono ?_
  rintro e w7 ⟨j1, j2, rfl, F7, hb⟩
  have B7 := B6.trans (hb.mono B6.size)
  clear E6 N6 B6 hb
  go_wp2_with fail
  have N8 : Hid (Ints (w7.alloc (.cells (iCells AY).toArray 3)) (w7.alloc (.cells (iCells AY).toArray 3)).heap.size (some ⟨w7.heap.size, 0, none⟩) AY) := ints_new w7 AY ok_AY
  have F8 : Hid (Ints (w7.alloc (.cells (iCells AY).toArray 3)) (w7.alloc (.cells (iCells AY).toArray 3)).heap.size _ _) := F7.out.allocA (.cells (iCells AY).toArray 3)
  have B8 := B7.alloc B7.size (.cells (iCells AY).toArray 3)
  clear F7 B7
  change Calls _ _ _ (w7.alloc (.cells (iCells AY).toArray 3)) _
  generalize w7.alloc (.cells (iCells AY).toArray 3) = w8 at *
  refine (c_eq w8 _ _ _ F8 N8).mono ?_
  rintro e w9 ⟨rfl, hb⟩
  have B9 := B8.trans (hb.mono B8.size)
  clear F8 N8 B8 hb
  go_wp2_with fail
  go_ret
  exact ⟨rfl, B9⟩
end Go.Proofs.Ytdmmoknddkfnmaa
