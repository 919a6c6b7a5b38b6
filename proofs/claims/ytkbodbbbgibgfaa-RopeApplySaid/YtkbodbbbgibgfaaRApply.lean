/-
  Rope.Apply by its contract.
-/
import Derived.Test.YtkbodbbbgibgfaaFold
import Derived.Test.YtkbodbbbgibgfaaEx
namespace Go.Proofs.Ytkbodbbbgibgfaa
open Go.RowKit
attribute [local go_sem ↓] Go.wp_at_zero Go.wp_at_succ

set_option maxHeartbeats 1000000 in
set_option maxRecDepth 100000 in
theorem rvalid_any (p : Option Addr) (c : List UInt8) (a : Option Addr) (cap : Nat) (l : List Ed) (w : World) (R : Hid (IsRope w p c)) (hn : c.length ≤ 1099511627776) (hl : l.length ≤ maxLen) (h : Eds w w.heap.size a l) :
    Calls Try.prog 31 #[.agg #[.pointer p], .slice a l.length cap] w fun e w' => e = .returned (.int .i64 (errV c.length l)) ∧ Below w.heap.size w w' := by
  have K1 := Lib.hid (fun W (hW : Below w.heap.size w W) => upto hW (rlen_any p c W (IsRope.later R hW)))
  have K2 := Lib.hid (fun W (hW : Below w.heap.size w W) => upto hW (rstr_any p c W (IsRope.later R hW) hn))
  have es : (⟨c.toArray⟩ : ByteArray).size = c.length := size_mk c
  have K3 := Lib.hid (fun W (hW : Below w.heap.size w W) => upto hW (valid_any ⟨c.toArray⟩ a cap l W (by rw [es]; unfold maxLen; omega) hl ((h.below hW).up hW.size)))
  rw [es] at K3
  have hc : (c.length : Int) ≤ 1099511627776 := by omega
  have hz : w.heap.size < (w.alloc (.cells #[.pointer p] 27)).heap.size := by simp
  have hB : Below w.heap.size w (w.alloc (.cells #[.pointer p] 27)) := (Below.refl _ _).alloc (Nat.le_refl _) _
  have c0 : (w.alloc (.cells #[.pointer p] 27)).cell? ⟨w.heap.size, 0, none⟩ = some (.pointer p) := by go_simp
  by_cases h2 : (2000 : Int) < c.length
  · have he : errV c.length l = 2 := by unfold errV; rw [if_pos (Or.inl h2)]
    have h3 : (c.length : Int) > 2000 := h2
    rw [he]
    clear he h es
    go_enter Try.func31, Try.ntmps31
    go_wp2_with fail
    refine (K1.out _ hB).mono ?_
    rintro e w1 ⟨rfl, hb1⟩
    go_wp2_with fail
    go_ret
    exact ⟨rfl, hb1⟩
  · have h3 : ¬ (c.length : Int) > 2000 := h2
    generalize errV c.length l = v at *
    clear h es
    go_enter Try.func31, Try.ntmps31
    go_wp2_with fail
    generalize w.alloc (.cells #[.pointer p] 27) = w0 at *
    have K4 := Lib.hid (fun W (hW : Below w0.heap.size w0 W) => upto (w0 := w0) hW (v := .returned (.int .i64 (c.length : Nat))) (rlen_any p c W (IsRope.later (IsRope.later R hB) hW)))
    refine (K4.out _ (Below.refl _ _)).mono ?_
    rintro e w1 ⟨rfl, hb1⟩
    have c1 := (hb1.cell (p := ⟨w.heap.size, 0, none⟩) hz).trans c0
    have hB1 := hB.trans (hb1.mono (Nat.le_of_lt hz))
    go_wp2_with fail
    refine (K2.out _ hB1).mono ?_
    rintro e w2 ⟨rfl, hb2⟩
    go_wp2_with fail
    refine (K3.out _ hb2).mono ?_
    rintro e w3 ⟨rfl, hb3⟩
    go_wp2_with fail
    go_ret
    exact ⟨rfl, hb3⟩
end Go.Proofs.Ytkbodbbbgibgfaa
