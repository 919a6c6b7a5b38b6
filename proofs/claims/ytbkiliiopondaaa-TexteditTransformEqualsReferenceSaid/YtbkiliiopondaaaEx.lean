/-
  texteditExamples answers true.
-/
import Derived.Test.YtbkiliiopondaaaExPure
namespace Go.Proofs.Ytbkiliiopondaaa
open Go.RowKit

theorem c_apply (w : World) (a : Option Addr) (h : Hid (Eds w w.heap.size a X1)) : Calls Try.prog 13 #[.string ⟨#[97, 98, 99, 100, 101, 102]⟩, .slice a 2 2] w fun e w' => e = .returned (.tuple #[.string ⟨#[97, 120, 121, 99, 100, 122, 101, 102]⟩, .int .i64 0]) ∧ Below w.heap.size w w' := by
  have := apply_ok S6 a 2 X1 w (by unfold maxLen; decide) (by unfold maxLen; decide) h.out ex_err1
  rw [ex_apply] at this
  exact this

theorem c_invert (w : World) (a : Option Addr) (h : Hid (Eds w w.heap.size a X1)) : Calls Try.prog 14 #[.string ⟨#[97, 98, 99, 100, 101, 102]⟩, .slice a 2 2] w fun e w' => ∃ b c, e = .returned (.tuple #[.slice b 2 c, .int .i64 0]) ∧ Hid (Eds w' w'.heap.size b Y1) ∧ Below w.heap.size w w' := by
  refine (invert_ok S6 a 2 X1 w (by unfold maxLen; decide) (by unfold maxLen; decide) h.out ex_err1).mono ?_
  rintro e w' ⟨v, rfl, ho, hb⟩
  rw [ex_inv] at ho
  obtain ⟨b, c, rfl, he⟩ := ho.out.eds ok_Y1
  exact ⟨b, c, rfl, he, hb⟩

theorem c_compose (w : World) (a b : Option Addr) (h : Hid (Eds w w.heap.size a X1)) (h2 : Hid (Eds w w.heap.size b X2)) : Calls Try.prog 16 #[.string ⟨#[97, 98, 99, 100, 101, 102]⟩, .slice a 2 2, .slice b 1 1] w fun e w' => ∃ b c, e = .returned (.tuple #[.slice b 2 c, .int .i64 0]) ∧ Hid (Eds w' w'.heap.size b Y2) ∧ Below w.heap.size w w' := by
  refine (compose_any S6 a 2 X1 b 1 X2 w (by unfold maxLen; decide) (by unfold maxLen; decide) (by unfold maxLen; decide) h.out h2.out).mono ?_
  rintro e w' ⟨v, rfl, ho, hb⟩
  rw [ex_comp] at ho
  obtain ⟨b, c, rfl, he⟩ := ho.out.eds ok_Y2
  exact ⟨b, c, by rw [ex_comp0]; rfl, he, hb⟩

theorem c_transform (w : World) (a b : Option Addr) (h : Hid (Eds w w.heap.size a X3)) (h2 : Hid (Eds w w.heap.size b X4)) : Calls Try.prog 17 #[.string ⟨#[97, 98, 99]⟩, .slice a 1 1, .slice b 1 1] w fun e w' => ∃ b c b' c', e = .returned (.tuple #[.slice b 1 c, .slice b' 2 c', .int .i64 0]) ∧ Hid (Eds w' w'.heap.size b Y3) ∧ Hid (Eds w' w'.heap.size b' Y4) ∧ Below w.heap.size w w' := by
  refine (transform_any S3 a 1 X3 b 1 X4 w (by unfold maxLen; decide) (by unfold maxLen; decide) (by unfold maxLen; decide) h.out h2.out).mono ?_
  rintro e w' ⟨v, v', rfl, ho, ho2, hb⟩
  rw [ex_trL] at ho
  rw [ex_trR] at ho2
  obtain ⟨b, c, rfl, he⟩ := ho.out.eds ok_Y3
  obtain ⟨b', c', rfl, he'⟩ := ho2.out.eds ok_Y4
  exact ⟨b, c, b', c', by rw [ex_tr0]; rfl, he, he', hb⟩

theorem c_eq2 {l : List Ed} (hl : l.length = 2) (w : World) (a b : Option Addr) (c : Nat) (h : Hid (Eds w w.heap.size a l)) (h2 : Hid (Eds w w.heap.size b l)) : Calls Try.prog 15 #[.slice a 2 c, .slice b 2 2] w fun e w' => e = .returned (.bool true) ∧ Below w.heap.size w w' := by
  have := equal_same l a c b 2 w (by omega) h.out h2.out
  rw [hl] at this
  exact this

theorem c_eq1 {l : List Ed} (hl : l.length = 1) (w : World) (a b : Option Addr) (c : Nat) (h : Hid (Eds w w.heap.size a l)) (h2 : Hid (Eds w w.heap.size b l)) : Calls Try.prog 15 #[.slice a 1 c, .slice b 1 1] w fun e w' => e = .returned (.bool true) ∧ Below w.heap.size w w' := by
  have := equal_same l a c b 1 w (by omega) h.out h2.out
  rw [hl] at this
  exact this

set_option maxHeartbeats 1000000 in
set_option maxRecDepth 100000 in
theorem examples_keep (w : World) : Calls Try.prog 12 #[] w fun e w' => e = .returned (.bool true) ∧ Below w.heap.size w w' := by
  go_enter Try.func12, Try.ntmps12
  go_wp2_with fail
  have E0 : Hid (Eds (w.alloc (.cells (edCells X1).toArray 38)) (w.alloc (.cells (edCells X1).toArray 38)).heap.size (some ⟨w.heap.size, 0, none⟩) X1) := eds_new w X1 ok_X1
  have B0 : Below w.heap.size w (w.alloc (.cells (edCells X1).toArray 38)) := (Below.refl _ _).alloc (Nat.le_refl _) _
  change Calls _ _ _ (w.alloc (.cells (edCells X1).toArray 38)) _
  generalize w.alloc (.cells (edCells X1).toArray 38) = w0 at *
  refine (c_apply w0 _ E0).mono ?_
  rintro e w1 ⟨rfl, hb⟩
  have E1 : Hid (Eds w1 w1.heap.size (some ⟨w.heap.size, 0, none⟩) X1) := E0.out.to hb
  have B1 := B0.trans (hb.mono B0.size)
  clear E0 B0 hb
  go_wp2_with fail
  refine (c_invert w1 _ E1).mono ?_
  rintro e w2 ⟨i1, i2, rfl, F2, hb⟩
  have E2 : Hid (Eds w2 w2.heap.size (some ⟨w.heap.size, 0, none⟩) X1) := E1.out.to hb
  have B2 := B1.trans (hb.mono B1.size)
  clear E1 B1 hb
  go_wp2_with fail
  have N3 : Hid (Eds (w2.alloc (.cells (edCells X2).toArray 38)) (w2.alloc (.cells (edCells X2).toArray 38)).heap.size (some ⟨w2.heap.size, 0, none⟩) X2) := eds_new w2 X2 ok_X2
  have E3 : Hid (Eds (w2.alloc (.cells (edCells X2).toArray 38)) (w2.alloc (.cells (edCells X2).toArray 38)).heap.size _ _) := E2.out.alloc (.cells (edCells X2).toArray 38)
  have F3 : Hid (Eds (w2.alloc (.cells (edCells X2).toArray 38)) (w2.alloc (.cells (edCells X2).toArray 38)).heap.size _ _) := F2.out.alloc (.cells (edCells X2).toArray 38)
  have B3 := B2.alloc B2.size (.cells (edCells X2).toArray 38)
  clear E2 F2 B2
  change Calls _ _ _ (w2.alloc (.cells (edCells X2).toArray 38)) _
  generalize w2.alloc (.cells (edCells X2).toArray 38) = w3 at *
  refine (c_compose w3 _ _ E3 N3).mono ?_
  rintro e w4 ⟨j1, j2, rfl, G4, hb⟩
  have F4 : Hid (Eds w4 w4.heap.size _ _) := F3.out.to hb
  have B4 := B3.trans (hb.mono B3.size)
  clear E3 N3 F3 B3 hb
  go_wp2_with fail
  have N5 : Hid (Eds (w4.alloc (.cells (edCells X3).toArray 38)) (w4.alloc (.cells (edCells X3).toArray 38)).heap.size (some ⟨w4.heap.size, 0, none⟩) X3) := eds_new w4 X3 ok_X3
  have F5 : Hid (Eds (w4.alloc (.cells (edCells X3).toArray 38)) (w4.alloc (.cells (edCells X3).toArray 38)).heap.size _ _) := F4.out.alloc (.cells (edCells X3).toArray 38)
  have G5 : Hid (Eds (w4.alloc (.cells (edCells X3).toArray 38)) (w4.alloc (.cells (edCells X3).toArray 38)).heap.size _ _) := G4.out.alloc (.cells (edCells X3).toArray 38)
  have B5 := B4.alloc B4.size (.cells (edCells X3).toArray 38)
  clear F4 G4 B4
  change Calls _ _ _ ((w4.alloc (.cells (edCells X3).toArray 38)).alloc (.cells (edCells X4).toArray 38)) _
  have hs5 : (w4.alloc (.cells (edCells X3).toArray 38)).heap.size = w4.heap.size + 1 := by simp
  generalize w4.alloc (.cells (edCells X3).toArray 38) = w5 at *
  rw [← hs5]
  clear hs5
  have P6 : Hid (Eds (w5.alloc (.cells (edCells X4).toArray 38)) (w5.alloc (.cells (edCells X4).toArray 38)).heap.size (some ⟨w5.heap.size, 0, none⟩) X4) := eds_new w5 X4 ok_X4
  have F6 : Hid (Eds (w5.alloc (.cells (edCells X4).toArray 38)) (w5.alloc (.cells (edCells X4).toArray 38)).heap.size _ _) := F5.out.alloc (.cells (edCells X4).toArray 38)
  have G6 : Hid (Eds (w5.alloc (.cells (edCells X4).toArray 38)) (w5.alloc (.cells (edCells X4).toArray 38)).heap.size _ _) := G5.out.alloc (.cells (edCells X4).toArray 38)
  have N6 : Hid (Eds (w5.alloc (.cells (edCells X4).toArray 38)) (w5.alloc (.cells (edCells X4).toArray 38)).heap.size _ _) := N5.out.alloc (.cells (edCells X4).toArray 38)
  have B6 := B5.alloc B5.size (.cells (edCells X4).toArray 38)
  clear F5 G5 N5 B5
  generalize w5.alloc (.cells (edCells X4).toArray 38) = w6 at *
  refine (c_transform w6 _ _ N6 P6).mono ?_
  rintro e w7 ⟨k1, k2, k3, k4, rfl, H7, K7, hb⟩
  have F7 : Hid (Eds w7 w7.heap.size _ _) := F6.out.to hb
  have G7 : Hid (Eds w7 w7.heap.size _ _) := G6.out.to hb
  have B7 := B6.trans (hb.mono B6.size)
  clear F6 G6 N6 P6 B6 hb
  go_wp2_with fail
  have N8 : Hid (Eds (w7.alloc (.cells (edCells Y1).toArray 38)) (w7.alloc (.cells (edCells Y1).toArray 38)).heap.size (some ⟨w7.heap.size, 0, none⟩) Y1) := eds_new w7 Y1 ok_Y1
  have F8 : Hid (Eds (w7.alloc (.cells (edCells Y1).toArray 38)) (w7.alloc (.cells (edCells Y1).toArray 38)).heap.size _ _) := F7.out.alloc (.cells (edCells Y1).toArray 38)
  have G8 : Hid (Eds (w7.alloc (.cells (edCells Y1).toArray 38)) (w7.alloc (.cells (edCells Y1).toArray 38)).heap.size _ _) := G7.out.alloc (.cells (edCells Y1).toArray 38)
  have H8 : Hid (Eds (w7.alloc (.cells (edCells Y1).toArray 38)) (w7.alloc (.cells (edCells Y1).toArray 38)).heap.size _ _) := H7.out.alloc (.cells (edCells Y1).toArray 38)
  have K8 : Hid (Eds (w7.alloc (.cells (edCells Y1).toArray 38)) (w7.alloc (.cells (edCells Y1).toArray 38)).heap.size _ _) := K7.out.alloc (.cells (edCells Y1).toArray 38)
  have B8 := B7.alloc B7.size (.cells (edCells Y1).toArray 38)
  clear F7 G7 H7 K7 B7
  change Calls _ _ _ (w7.alloc (.cells (edCells Y1).toArray 38)) _
  generalize w7.alloc (.cells (edCells Y1).toArray 38) = w8 at *
  refine (c_eq2 rfl w8 _ _ _ F8 N8).mono ?_
  rintro e w9 ⟨rfl, hb⟩
  have G9 : Hid (Eds w9 w9.heap.size _ _) := G8.out.to hb
  have H9 : Hid (Eds w9 w9.heap.size _ _) := H8.out.to hb
  have K9 : Hid (Eds w9 w9.heap.size _ _) := K8.out.to hb
  have B9 := B8.trans (hb.mono B8.size)
  clear F8 G8 H8 K8 N8 B8 hb
  go_wp2_with fail
  have N10 : Hid (Eds (w9.alloc (.cells (edCells Y2).toArray 38)) (w9.alloc (.cells (edCells Y2).toArray 38)).heap.size (some ⟨w9.heap.size, 0, none⟩) Y2) := eds_new w9 Y2 ok_Y2
  have G10 : Hid (Eds (w9.alloc (.cells (edCells Y2).toArray 38)) (w9.alloc (.cells (edCells Y2).toArray 38)).heap.size _ _) := G9.out.alloc (.cells (edCells Y2).toArray 38)
  have H10 : Hid (Eds (w9.alloc (.cells (edCells Y2).toArray 38)) (w9.alloc (.cells (edCells Y2).toArray 38)).heap.size _ _) := H9.out.alloc (.cells (edCells Y2).toArray 38)
  have K10 : Hid (Eds (w9.alloc (.cells (edCells Y2).toArray 38)) (w9.alloc (.cells (edCells Y2).toArray 38)).heap.size _ _) := K9.out.alloc (.cells (edCells Y2).toArray 38)
  have B10 := B9.alloc B9.size (.cells (edCells Y2).toArray 38)
  clear G9 H9 K9 B9
  change Calls _ _ _ (w9.alloc (.cells (edCells Y2).toArray 38)) _
  generalize w9.alloc (.cells (edCells Y2).toArray 38) = w10 at *
  refine (c_eq2 rfl w10 _ _ _ G10 N10).mono ?_
  rintro e w11 ⟨rfl, hb⟩
  have H11 : Hid (Eds w11 w11.heap.size _ _) := H10.out.to hb
  have K11 : Hid (Eds w11 w11.heap.size _ _) := K10.out.to hb
  have B11 := B10.trans (hb.mono B10.size)
  clear G10 H10 K10 N10 B10 hb
  go_wp2_with fail
  have N12 : Hid (Eds (w11.alloc (.cells (edCells Y3).toArray 38)) (w11.alloc (.cells (edCells Y3).toArray 38)).heap.size (some ⟨w11.heap.size, 0, none⟩) Y3) := eds_new w11 Y3 ok_Y3
  have H12 : Hid (Eds (w11.alloc (.cells (edCells Y3).toArray 38)) (w11.alloc (.cells (edCells Y3).toArray 38)).heap.size _ _) := H11.out.alloc (.cells (edCells Y3).toArray 38)
  have K12 : Hid (Eds (w11.alloc (.cells (edCells Y3).toArray 38)) (w11.alloc (.cells (edCells Y3).toArray 38)).heap.size _ _) := K11.out.alloc (.cells (edCells Y3).toArray 38)
  have B12 := B11.alloc B11.size (.cells (edCells Y3).toArray 38)
  clear H11 K11 B11
  change Calls _ _ _ (w11.alloc (.cells (edCells Y3).toArray 38)) _
  generalize w11.alloc (.cells (edCells Y3).toArray 38) = w12 at *
  refine (c_eq1 rfl w12 _ _ _ H12 N12).mono ?_
  rintro e w13 ⟨rfl, hb⟩
  have K13 : Hid (Eds w13 w13.heap.size _ _) := K12.out.to hb
  have B13 := B12.trans (hb.mono B12.size)
  clear H12 K12 N12 B12 hb
  go_wp2_with fail
  have N14 : Hid (Eds (w13.alloc (.cells (edCells Y4).toArray 38)) (w13.alloc (.cells (edCells Y4).toArray 38)).heap.size (some ⟨w13.heap.size, 0, none⟩) Y4) := eds_new w13 Y4 ok_Y4
  have K14 : Hid (Eds (w13.alloc (.cells (edCells Y4).toArray 38)) (w13.alloc (.cells (edCells Y4).toArray 38)).heap.size _ _) := K13.out.alloc (.cells (edCells Y4).toArray 38)
  have B14 := B13.alloc B13.size (.cells (edCells Y4).toArray 38)
  clear K13 B13
  change Calls _ _ _ (w13.alloc (.cells (edCells Y4).toArray 38)) _
  generalize w13.alloc (.cells (edCells Y4).toArray 38) = w14 at *
  refine (c_eq2 rfl w14 _ _ _ K14 N14).mono ?_
  rintro e w15 ⟨rfl, hb⟩
  have B15 := B14.trans (hb.mono B14.size)
  clear K14 N14 B14 hb
  go_wp2_with fail
  go_ret
  exact ⟨rfl, B15⟩
end Go.Proofs.Ytbkiliiopondaaa
