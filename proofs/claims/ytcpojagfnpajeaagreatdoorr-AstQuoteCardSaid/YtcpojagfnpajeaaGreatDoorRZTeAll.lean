/-
  Common words for the walks of package textedit: an edit, a slice that reads as a list of edits.
  A strings.Builder of the call's own: copyCheck and WriteString at this program (the shelf's String contract is laid in Shelf).
-/
import Derived.Test.YtcpojagfnpajeaaGreatDoorRProg
import Derived.WalkKit
import Derived.KernelRfl
import Derived.Lib.Hide
import Derived.Test.YtcpojagfnpajeaaGreatDoorRZShelf
import Derived.Lib.Strings
import Derived.Lib.Builder
import Derived.Lib.AppendStr
import Derived.Lib.OthersKept
import Derived.Laws.Externs
namespace Go.Proofs.YtcpojagfnpajeaaGreatDoorR.Te
open Go.RowKit

theorem info_byte : (Tryz.prog.info? 5).map (fun i => (i.zero, i.size, i.bytes)) = some (some (.int .u8 0), 1, 1) := by kernel_rfl

/-- An edit: its start, its end, its new text. -/
structure Ed where
  s : Int
  e : Int
  t : ByteArray

def Ed.cells (x : Ed) : List Value := [.int .i64 x.s, .int .i64 x.e, .string x.t]

/-- The integers fit their kind, the text is no longer than a string may be. -/
def Ed.ok (x : Ed) : Prop := -9223372036854775808 ≤ x.s ∧ x.s ≤ 9223372036854775807 ∧ -9223372036854775808 ≤ x.e ∧ x.e ≤ 9223372036854775807 ∧ x.t.size ≤ maxLen

/-- The slice value v reads in w as the list l of edits. -/
def Eds (w : World) (B : Nat) (a : Option Addr) (l : List Ed) : Prop :=
  ∀ i x, l[i]? = some x → x.ok ∧ ∃ b o, a = some ⟨b, o, none⟩ ∧ b < B ∧
    w.cell? ⟨b, o + i * 3, none⟩ = some (.int .i64 x.s) ∧ w.cell? ⟨b, o + i * 3 + 1, none⟩ = some (.int .i64 x.e) ∧ w.cell? ⟨b, o + i * 3 + 2, none⟩ = some (.string x.t)

def sepFrom (n : Int) : Int → List Ed → Bool
  | _, [] => true
  | p, x :: r => if x.s ≤ p ∨ x.e < x.s ∨ n < x.e then false else sepFrom n x.e r

def dsum : List Ed → Int
  | [] => 0
  | x :: r => (x.e - x.s) + dsum r

def tsum : List Ed → Nat
  | [] => 0
  | x :: r => x.t.size + tsum r

/-- Within a source of n bytes. -/
def Inside (n : Int) (l : List Ed) : Prop := ∀ x, x ∈ l → 0 ≤ x.s ∧ x.s ≤ x.e ∧ x.e ≤ n

/-- Does the result have room? -/
def fitsB (n : Int) (l : List Ed) : Bool := decide ((tsum l : Int) ≤ 2000 - n + dsum l)

/-- What Validate answers for a source of n bytes. -/
def errV (n : Int) (l : List Ed) : Int :=
  if 2000 < n ∨ (50 : Int) < l.length then 2 else if sepFrom n (-1) l = false then 3 else if fitsB n l = false then 2 else 0

end Go.Proofs.YtcpojagfnpajeaaGreatDoorR.Te

namespace Go.Proofs.YtcpojagfnpajeaaGreatDoorR.Te
open Go.RowKit

theorem bd_size : (Tryz.prog.info? 99).map (·.size) = some 2 := by kernel_rfl
theorem bd_lies : liesAt Tryz.prog Tryz.prog.depth 99 (2 / Tryz.prog.cellsOf 99) 0 99 1 = true := by kernel_rfl

set_option maxHeartbeats 1000000 in
set_option maxRecDepth 100000 in
theorem check_used (b : Nat) (w : World) (h0 : w.cell? ⟨b, 0, none⟩ = some (.pointer (some ⟨b, 0, none⟩))) :
    Calls Tryz.prog 102 #[.pointer (some ⟨b, 0, none⟩)] w fun e w' => e = .returned (.tuple #[]) ∧ w' = w := by
  obtain ⟨j, hj, _⟩ := Option.map_eq_some_iff.1 bd_size
  go_enter Tryz.func102, Tryz.ntmps102
  go_wp2
  rw [Lib.run_neq_ptr_same w _ Tryz.underlying96 hj]
  go_wp2
  go_end0
  exact ⟨rfl, rfl⟩

set_option maxHeartbeats 1000000 in
set_option maxRecDepth 100000 in
theorem check_fresh (b : Nat) (w : World) (h0 : w.cell? ⟨b, 0, none⟩ = some (.pointer none)) (hsh : w.shape? b = some (99, 2)) (hfz : w.frozen? ⟨b, 0, none⟩ = false) :
    Calls Tryz.prog 102 #[.pointer (some ⟨b, 0, none⟩)] w fun e w' => e = .returned (.tuple #[]) ∧ w' = w.setCell ⟨b, 0, none⟩ (.pointer (some ⟨b, 0, none⟩)) := by
  obtain ⟨j, hj, hjs⟩ := Option.map_eq_some_iff.1 bd_size
  go_enter Tryz.func102, Tryz.ntmps102
  go_wp2
  rw [Lib.run_to_unsafe w ⟨b, 0, none⟩ Tryz.underlying96 Tryz.underlying191 hj (by rw [hjs]; decide) hsh (Nat.zero_lt_succ 1)]
  simp only [Result.andThen]
  rw [Oper.upon_value]
  go_wp2
  rw [run_callFunc_extern Tryz.func166 (by kernel_rfl) (by kernel_rfl) (by kernel_rfl) (e := Extern.AbiNoEscape.same) (by kernel_rfl)]
  rw [Lib.run_noEscape]
  simp only [Result.andThen]
  rw [Oper.upon_value]
  go_wp2
  rw [Lib.run_from_unsafe w ⟨b, 0, none⟩ Tryz.underlying191 Tryz.underlying96 hj hsh bd_lies]
  simp only [Result.andThen]
  rw [Oper.upon_value]
  go_wp2
  go_end0
  exact ⟨rfl, rfl⟩

theorem check_any (B b : Nat) (bs : List Value) (w : World) (h : Lib.IsBuilder 99 5 B b bs w) :
    Calls Tryz.prog 102 #[.pointer (some ⟨b, 0, none⟩)] w fun e w' => e = .returned (.tuple #[]) ∧ (Lib.BuilderAt 99 5 B b (.pointer (some ⟨b, 0, none⟩)) bs w' ∧ Below B w w' ∧ Lib.OthersKept 5 (some b) w w') := by
  rcases h with h | h
  · refine (check_fresh b w h.cell0 h.shape h.frozen0).mono ?_
    rintro e w' ⟨rfl, rfl⟩
    exact ⟨rfl, h.used _, (Below.refl B w).setCell (p := ⟨b, 0, none⟩) h.1 _, (Lib.OthersKept.refl 5 (some b) w).setCell _ rfl _⟩
  · refine (check_used b w h.cell0).mono ?_
    rintro e w' ⟨rfl, rfl⟩
    exact ⟨rfl, h, Below.refl B _, Lib.OthersKept.refl _ _ _⟩

theorem builder_alloc {T e : TypeId} {B b : Nat} {bs : List Value} {w : World} (h : Lib.IsBuilder T e B b bs w) (o : Obj) : Lib.IsBuilder T e B b bs (w.alloc o) := by
  rcases h with h | h
  all_goals
    have hlt := h.lt
    obtain ⟨hB, v, hb, hown, hne⟩ := h
  · exact .inl ⟨hB, v, (Below.heap_alloc w o b hlt).trans hb, hown.alloc o, hne⟩
  · exact .inr ⟨hB, v, (Below.heap_alloc w o b hlt).trans hb, hown.alloc o, hne⟩

end Go.Proofs.YtcpojagfnpajeaaGreatDoorR.Te
