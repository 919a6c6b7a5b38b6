/-
  joinLeaves and join by their contracts.
-/
import Derived.Test.YtkbodbbbgibgfaaBuild
import Derived.Outline
import Derived.Laws.Concat
namespace Go.Proofs.Ytkbodbbbgibgfaa
open Go.RowKit
attribute [local go_sem ↓] Go.wp_at_zero Go.wp_at_succ

theorem isleaf_yes (b : Nat) (s : ByteArray) (l r : Option Addr) (n c : Int) (w : World) (hn : NodeAt w b s l r n 0 c) :
    Calls Try.prog 35 #[.pointer (some ⟨b, 0, none⟩)] w fun e w' => e = .returned (.bool true) ∧ w' = w := by
  refine (isleaf_any b s l r n 0 c w hn).mono ?_
  rintro e w' ⟨rfl, rfl⟩
  exact ⟨rfl, rfl⟩

theorem isleaf_no (b : Nat) (s : ByteArray) (l r : Option Addr) (n h c : Int) (w : World) (hn : NodeAt w b s l r n h c) (h0 : h ≠ 0) :
    Calls Try.prog 35 #[.pointer (some ⟨b, 0, none⟩)] w fun e w' => e = .returned (.bool false) ∧ w' = w := by
  refine (isleaf_any b s l r n h c w hn).mono ?_
  rintro e w' ⟨rfl, rfl⟩
  exact ⟨by simp [h0], rfl⟩

theorem below_n {w w' : World} {n : Nat} (h : Below (w.drewN n).heap.size (w.drewN n) w') : Below w.heap.size w w' := (below_drewN _ _ n).trans h

theorem NodeAt.drawn {w : World} {b : Nat} {s : ByteArray} {l r : Option Addr} {n h c : Int} (H : NodeAt w b s l r n h c) (k : Nat) : NodeAt (w.drewN k) b s l r n h c := H

set_option maxHeartbeats 1000000 in
set_option maxRecDepth 100000 in
theorem join_small (s t : ByteArray) (b1 b2 : Nat) (w : World) (N1 : NodeAt w b1 s none none s.size 0 1) (N2 : NodeAt w b2 t none none t.size 0 1) (h1 : 0 < s.size) (h2 : 0 < t.size) (h : s.size + t.size ≤ 32) :
    Calls Try.prog 37 #[.pointer (some ⟨b1, 0, none⟩), .pointer (some ⟨b2, 0, none⟩)] w fun e w' => ∃ p, e = .returned (.pointer p) ∧ Hid (Rep w' w'.heap.size p (.leaf (s ++ t))) ∧ Below w.heap.size w w' := by
  have K := Lib.hid (fun W => leaf_some (s ++ t) W (by rw [ByteArray.size_append]; omega))
  have hw : IntKind.i64.wrap ((s.size : Int) + t.size) = s.size + t.size := IntWalk.i64_in _ (by omega)
  have z : (s.size : Int) + t.size ≤ 32 := by omega
  have hadd : ∀ W, (Op.stringOp .add s t).run Try.prog W = .ok (.string (s ++ t)) W := fun W => run_string_add W s t (by omega) (by omega)
  obtain ⟨a0, a1, a2, a3, a4, a5⟩ := N1
  obtain ⟨d0, d1, d2, d3, d4, d5⟩ := N2
  have HS : Hid (∀ W, Below w.heap.size w W → W.cell? ⟨b1, 0, none⟩ = some (.string s) ∧ W.cell? ⟨b2, 0, none⟩ = some (.string t)) :=
    fun W hW => ⟨(hW.cell (p := ⟨b1, _, none⟩) (World.block_lt_of_cell? w _ a0)).trans a0, (hW.cell (p := ⟨b2, _, none⟩) (World.block_lt_of_cell? w _ d0)).trans d0⟩
  go_enter Try.func37, Try.ntmps37
  go_wp2_with fail
  go_quiet (fail)
  go_wp2_with fail
  go_region_held3 (fun w' => w'.cell? ⟨b1, 0, none⟩ = some (.string s) ∧ w'.cell? ⟨b2, 0, none⟩ = some (.string t)) (first | go_keep | exact HS.out _ (by first | exact hb1 | exact below_n hb1))
    ((go_at_call 36; refine (K.out _).mono ?_; rintro e w1 ⟨p1, rfl, hp1, hb1⟩))
  go_wp2_with fail
  go_ret
  exact ⟨_, rfl, hp1, by first | exact hb1 | exact below_n hb1⟩

set_option maxHeartbeats 1000000 in
set_option maxRecDepth 100000 in
theorem join_big (s t : ByteArray) (p1 p2 : Option Addr) (w : World) (R1 : Hid (Rep w w.heap.size p1 (.leaf s))) (R2 : Hid (Rep w w.heap.size p2 (.leaf t))) (h1 : 0 < s.size) (h2 : 0 < t.size) (h : ¬ s.size + t.size ≤ 32) (hn : s.size + t.size ≤ 1099511627776) :
    Calls Try.prog 37 #[.pointer p1, .pointer p2] w fun e w' => ∃ p, e = .returned (.pointer p) ∧ Hid (Rep w' w'.heap.size p (.node (.leaf s) (.leaf t))) ∧ Below w.heap.size w w' := by
  have K := Lib.hid (fun W (hW : Below w.heap.size w W) => inner_at (.leaf s) (.leaf t) p1 p2 R1 R2 h1 h2 hn hW)
  obtain ⟨b1, rfl, _, N1⟩ := R1.out
  obtain ⟨b2, rfl, _, N2⟩ := R2.out
  have hw : IntKind.i64.wrap ((s.size : Int) + t.size) = s.size + t.size := IntWalk.i64_in _ (by omega)
  have z : (32 : Int) < (s.size : Int) + t.size := by omega
  have z0 : (s.size : Int) + t.size ≤ 1099511627776 := by omega
  obtain ⟨a0, a1, a2, a3, a4, a5⟩ := N1
  obtain ⟨d0, d1, d2, d3, d4, d5⟩ := N2
  clear R1 R2 hn h1 h2 h
  go_enter Try.func37, Try.ntmps37
  go_wp2_with fail
  go_quiet (fail)
  go_wp2_with fail
  refine (K.out _ (by first | exact Below.refl _ _ | exact below_drewN _ _ _)).mono ?_
  rintro e w1 ⟨p, rfl, hp, hb, _⟩
  go_wp2_with fail
  go_ret
  exact ⟨_, rfl, hp, hb⟩

theorem joinLeaves_any (s t : ByteArray) (p1 p2 : Option Addr) (w : World) (R1 : Hid (Rep w w.heap.size p1 (.leaf s))) (R2 : Hid (Rep w w.heap.size p2 (.leaf t))) (h1 : 0 < s.size) (h2 : 0 < t.size) (hn : s.size + t.size ≤ 1099511627776) :
    Calls Try.prog 37 #[.pointer p1, .pointer p2] w (Hands (.leaf s) (.leaf t) Tr.Joined w) := by
  by_cases h : s.size + t.size ≤ 32
  · obtain ⟨b1, rfl, _, N1⟩ := R1.out
    obtain ⟨b2, rfl, _, N2⟩ := R2.out
    exact (join_small s t b1 b2 w N1 N2 h1 h2 h).mono fun e w' ⟨p, h3, h4, h5⟩ => ⟨p, _, h3, h4, Tr.join_leaf h1 h2, h5⟩
  · exact (join_big s t p1 p2 w R1 R2 h1 h2 h hn).mono fun e w' ⟨p, h3, h4, h5⟩ => ⟨p, _, h3, h4, (Tr.bal_plain (l := .leaf s) (r := .leaf t) h1 h2 (by simp [Tr.ht]) (by simp [Tr.ht])).joined, h5⟩

end Go.Proofs.Ytkbodbbbgibgfaa
