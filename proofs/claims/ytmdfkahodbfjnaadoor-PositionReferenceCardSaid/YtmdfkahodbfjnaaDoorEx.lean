/-
  The laws' example and their cut, by their contracts.
-/
import Derived.Test.YtmdfkahodbfjnaaDoorConv
namespace Go.Proofs.YtmdfkahodbfjnaaDoor
open Go.RowKit

def lit : ByteArray := ⟨#[97, 10, 240, 159, 152, 128, 98]⟩
theorem lit_pos : posV lit true 6 = (1, 2, 0) := by kernel_rfl
theorem lit_off : offV lit true 1 1 = (0, 3) := by kernel_rfl

/-- A source cut to 300 bytes. -/
def cut (s : ByteArray) : ByteArray := if s.size ≤ 300 then s else s.extract 0 300
theorem cut_size (s : ByteArray) : (cut s).size ≤ 300 := by
  unfold cut; split
  · assumption
  · simp; omega

set_option maxHeartbeats 400000 in
theorem example_law (w : World) (hT : Tabs w) : Calls Tryd.prog 7 #[] w fun e w' => e = .returned (.bool true) ∧ Below w.heap.size w w' := by
  have K1 := Lib.hid (pos_true lit 6 w (by decide) hT (by decide))
  rw [lit_pos] at K1
  have K2 := Lib.hid (fun W (hW : Tabs W) => off_true lit 1 1 W (by decide) hW (by decide) (by decide))
  rw [lit_off] at K2
  have HT := Lib.hid hT
  clear hT
  unfold lit at K1 K2
  go_enter Tryd.func7, Tryd.ntmps7
  go_wp2_with fail
  refine K1.out.mono ?_
  rintro e w1 ⟨rfl, hb⟩
  have B1 := hb
  have T1 := Lib.hid (HT.out.to hb)
  clear K1 HT hb
  go_wp2_with fail
  refine (K2.out _ (T1.out.to ((Below.refl _ _).alloc (Nat.le_refl _) _))).mono ?_
  rintro e w2 ⟨rfl, hb⟩
  have H := Lib.hid ((hb.block _ (by simp)).trans (heap_alloc_new w1 (.cells #[.int .i64 1, .int .i64 2] 23)))
  have e0 : w2.cell? ⟨w1.heap.size, 0, none⟩ = some (.int .i64 1) := by rw [Lib.cell_of_heap H.out]; rfl
  have e1 : w2.cell? ⟨w1.heap.size, 1, none⟩ = some (.int .i64 2) := by rw [Lib.cell_of_heap H.out]; rfl
  have B2 := (B1.alloc B1.size (.cells #[.int .i64 1, .int .i64 2] 23)).trans (hb.mono (by have := B1.size; simp; omega))
  clear K2 T1 hb H B1
  go_wp2_with fail
  go_ret
  exact ⟨rfl, B2⟩

set_option maxHeartbeats 400000 in
theorem example_keep (w : World) (hT : Tabs w) : Calls Tryd.prog 18 #[] w fun e w' => e = .returned (.bool true) ∧ Below w.heap.size w w' := by
  have K1 := Lib.hid (pos_true lit 6 w (by decide) hT (by decide))
  rw [lit_pos] at K1
  have K2 := Lib.hid (fun W (hW : Tabs W) => off_true lit 1 1 W (by decide) hW (by decide) (by decide))
  rw [lit_off] at K2
  have HT := Lib.hid hT
  clear hT
  unfold lit at K1 K2
  go_enter Tryd.func18, Tryd.ntmps18
  go_wp2_with fail
  refine K1.out.mono ?_
  rintro e w1 ⟨rfl, hb⟩
  have B1 := hb
  have T1 := Lib.hid (HT.out.to hb)
  clear K1 HT hb
  go_wp2_with fail
  refine (K2.out _ (T1.out.to ((Below.refl _ _).alloc (Nat.le_refl _) _))).mono ?_
  rintro e w2 ⟨rfl, hb⟩
  have H := Lib.hid ((hb.block _ (by simp)).trans (heap_alloc_new w1 (.cells #[.int .i64 1, .int .i64 2] 23)))
  have e0 : w2.cell? ⟨w1.heap.size, 0, none⟩ = some (.int .i64 1) := by rw [Lib.cell_of_heap H.out]; rfl
  have e1 : w2.cell? ⟨w1.heap.size, 1, none⟩ = some (.int .i64 2) := by rw [Lib.cell_of_heap H.out]; rfl
  have B2 := (B1.alloc B1.size (.cells #[.int .i64 1, .int .i64 2] 23)).trans (hb.mono (by have := B1.size; simp; omega))
  clear K2 T1 hb H B1
  go_wp2_with fail
  go_ret
  exact ⟨rfl, B2⟩

theorem short_law (s : ByteArray) (w : World) (hs : s.size ≤ maxLen) : Calls Tryd.prog 8 #[.string s, .int .i64 300] w fun e w' => e = .returned (.string (cut s)) ∧ w' = w := by
  unfold maxLen at hs
  by_cases h : s.size ≤ 300
  · have HV : Hid (cut s = s) := if_pos h
    have h1 : (s.size : Int) ≤ 300 := by omega
    have hm : min (s.size : Int) 300 = s.size := by omega
    go_enter Tryd.func8, Tryd.ntmps8
    go_wp2_with fail
    go_ret
    exact ⟨by rw [HV.out]; simp, rfl⟩
  · have HV : Hid (cut s = s.extract 0 300) := if_neg h
    have h1 : (300 : Int) < s.size := by omega
    have hm : min (s.size : Int) 300 = 300 := by omega
    go_enter Tryd.func8, Tryd.ntmps8
    go_wp2_with fail
    go_ret
    exact ⟨by rw [HV.out]; rfl, rfl⟩

theorem short_keep (s : ByteArray) (w : World) (hs : s.size ≤ maxLen) : Calls Tryd.prog 19 #[.string s, .int .i64 300] w fun e w' => e = .returned (.string (cut s)) ∧ w' = w := by
  unfold maxLen at hs
  by_cases h : s.size ≤ 300
  · have HV : Hid (cut s = s) := if_pos h
    have h1 : (s.size : Int) ≤ 300 := by omega
    have hm : min (s.size : Int) 300 = s.size := by omega
    go_enter Tryd.func19, Tryd.ntmps19
    go_wp2_with fail
    go_ret
    exact ⟨by rw [HV.out]; simp, rfl⟩
  · have HV : Hid (cut s = s.extract 0 300) := if_neg h
    have h1 : (300 : Int) < s.size := by omega
    have hm : min (s.size : Int) 300 = 300 := by omega
    go_enter Tryd.func19, Tryd.ntmps19
    go_wp2_with fail
    go_ret
    exact ⟨by rw [HV.out]; rfl, rfl⟩
end Go.Proofs.YtmdfkahodbfjnaaDoor
