/-
  lexerExample answers true: the reference's and the one of the keep laws.
-/
import Derived.Test.YtibiniokbcjjeaaLxEq
namespace Go.Proofs.Ytibiniokbcjjeaa
open Go.RowKit

def EX : List Tk := [(103, [97]), (102, [47, 47, 98])]
theorem T_ex : T [97, 47, 47, 98] = EX := by kernel_rfl
theorem id_yes : oneId [97, 95, 49] = true := by kernel_rfl
theorem id_no : oneId [117, 115, 101] = false := by kernel_rfl

theorem e_tok (w : World) : Calls Try.prog 7 #[.string ⟨#[97, 47, 47, 98]⟩] w fun e w' => ∃ a cap, e = .returned (.tuple #[.slice a 2 cap, .int .i64 0]) ∧ Hid (Tks w' w'.heap.size a EX) ∧ Below w.heap.size w w' := by
  refine (tokenize_any ⟨#[97, 47, 47, 98]⟩ w (by decide)).mono ?_
  rintro e w' ⟨v, rfl, ho, hb⟩
  rw [show T (L ⟨#[97, 47, 47, 98]⟩) = EX from T_ex] at ho
  obtain ⟨a, cap, rfl, _, ht, _⟩ := ho.out.tks
  exact ⟨a, cap, rfl, ht, hb⟩

theorem e_eq (w : World) (a1 a2 : Option Addr) (c1 c2 : Nat) (h1 : Hid (Tks w w.heap.size a1 EX)) (h2 : Hid (Tks w w.heap.size a2 EX)) : Calls Try.prog 11 #[.slice a1 2 c1, .slice a2 2 c2] w fun e w' => e = .returned (.bool true) ∧ Below w.heap.size w w' :=
  equal_toks EX a1 c1 a2 c2 w (by decide) h1.out h2.out

theorem e_yes (w : World) : Calls Try.prog 12 #[.string ⟨#[97, 95, 49]⟩] w fun e w' => e = .returned (.bool true) ∧ Below w.heap.size w w' := by
  have := ident_short ⟨#[97, 95, 49]⟩ w (by decide)
  rw [show oneId (L ⟨#[97, 95, 49]⟩) = true from id_yes] at this
  exact this

theorem e_no (w : World) : Calls Try.prog 12 #[.string ⟨#[117, 115, 101]⟩] w fun e w' => e = .returned (.bool false) ∧ Below w.heap.size w w' := by
  have := ident_short ⟨#[117, 115, 101]⟩ w (by decide)
  rw [show oneId (L ⟨#[117, 115, 101]⟩) = false from id_no] at this
  exact this

set_option maxHeartbeats 1000000 in
set_option maxRecDepth 100000 in
theorem ex_keep (w : World) : Calls Try.prog 5 #[] w fun e w' => e = .returned (.bool true) ∧ Below w.heap.size w w' := by
  go_enter Try.func5, Try.ntmps5
  go_wp2_with fail
  refine (e_tok w).mono ?_
  rintro e w1 ⟨a, cap, rfl, h1, hb1⟩
  have N2 : Hid (Tks (w1.alloc (.cells (cellsT EX).toArray 37)) (w1.alloc (.cells (cellsT EX).toArray 37)).heap.size (some ⟨w1.heap.size, 0, none⟩) EX) := Tks.new w1 EX
  have h2 : Hid (Tks (w1.alloc (.cells (cellsT EX).toArray 37)) (w1.alloc (.cells (cellsT EX).toArray 37)).heap.size a EX) := h1.out.to ((Below.refl _ _).alloc (Nat.le_refl _) _)
  have B2 := hb1.alloc hb1.size (.cells (cellsT EX).toArray 37)
  clear h1 hb1
  go_wp2_with fail
  change Calls _ _ _ (w1.alloc (.cells (cellsT EX).toArray 37)) _
  generalize w1.alloc (.cells (cellsT EX).toArray 37) = w2 at *
  refine (e_eq w2 _ _ _ _ h2 N2).mono ?_
  rintro e w3 ⟨rfl, hb3⟩
  have B3 := B2.trans (hb3.mono B2.size)
  clear h2 N2 hb3 B2
  go_wp2_with fail
  refine (e_yes w3).mono ?_
  rintro e w4 ⟨rfl, hb4⟩
  have B4 := B3.trans (hb4.mono B3.size)
  clear hb4 B3
  go_wp2_with fail
  refine (e_no w4).mono ?_
  rintro e w5 ⟨rfl, hb5⟩
  have B5 := B4.trans (hb5.mono B4.size)
  clear hb5 B4
  go_wp2_with fail
  go_ret
  exact ⟨rfl, B5⟩
end Go.Proofs.Ytibiniokbcjjeaa
