/-
  Common words for the walks of package position: the tables of unicode/utf8, slices of integers that a call has made itself; glossatorref1.EqualLists at integers.
-/
import Derived.Test.YtmdfkahodbfjnaaDoorPure
import Derived.Test.YtmdfkahodbfjnaaDoorShelf
import Derived.WalkKit
import Derived.KernelRfl
import Derived.Lib.Hide
import Derived.OneCell
import Derived.Deep.QuietTactic
import Derived.BigQuiet
import Derived.Outline
import Derived.WalkSpells
import Derived.Lib.Builder
import Derived.Laws.MakeOwn
import Derived.Deep.AppendLies
import Derived.Deep.RegionHeld3
import Derived.BigRegion
import Derived.Laws.StructEq
import Derived.Deep.DeepCutAuto
namespace Go.Proofs.YtmdfkahodbfjnaaDoor
open Go.RowKit

/-- The two tables of unicode/utf8 lie as their initialisers lay them. -/
def Tabs (w : World) : Prop := Lib.Utf8Tabs 1 2 w ∧ 3 ≤ w.heap.size

theorem Tabs.fwd {B : Nat} {w w' : World} (h : Tabs w) (hB : 3 ≤ B) (hb : Below B w w') : Tabs w' :=
  ⟨⟨fun c hc => (hb.cell (p := ⟨1, c, none⟩) (by show 1 < _; omega)).trans (h.1.1 c hc),
    fun i hi => ⟨(hb.cell (p := ⟨2, 2 * i, none⟩) (by show 2 < _; omega)).trans (h.1.2 i hi).1, (hb.cell (p := ⟨2, 2 * i + 1, none⟩) (by show 2 < _; omega)).trans (h.1.2 i hi).2⟩⟩, Nat.le_trans h.2 hb.size⟩
theorem Tabs.to {w w' : World} (h : Tabs w) (hb : Below w.heap.size w w') : Tabs w' := h.fwd h.2 hb

theorem info_int : (Tryd.prog.info? 3).map (fun i => (i.zero, i.size, i.bytes)) = some (some (.int .i64 0), 1, 8) := by kernel_rfl

/-- The slice at a reads in w as the list zs of integers. -/
def Ints (w : World) (B : Nat) (a : Option Addr) (zs : List Int) : Prop :=
  ∀ i z, zs[i]? = some z → (-9223372036854775808 ≤ z ∧ z ≤ 9223372036854775807) ∧ ∃ b o, a = some ⟨b, o, none⟩ ∧ b < B ∧ w.cell? ⟨b, o + i, none⟩ = some (.int .i64 z)

theorem Ints.below {w w' : World} {B : Nat} {a : Option Addr} {zs : List Int} (h : Ints w B a zs) (hb : Below B w w') : Ints w' B a zs := by
  intro i z hz
  obtain ⟨h1, b, o, ha, hlt, h0⟩ := h i z hz
  exact ⟨h1, b, o, ha, hlt, (hb.cell (p := ⟨b, _, none⟩) hlt).trans h0⟩
theorem Ints.up {w : World} {B B' : Nat} {a : Option Addr} {zs : List Int} (h : Ints w B a zs) (hB : B ≤ B') : Ints w B' a zs := by
  intro i z hz
  obtain ⟨h1, b, o, q1, q2, q3⟩ := h i z hz
  exact ⟨h1, b, o, q1, Nat.lt_of_lt_of_le q2 hB, q3⟩
theorem Ints.to {w w' : World} {a : Option Addr} {zs : List Int} (h : Ints w w.heap.size a zs) (hb : Below w.heap.size w w') : Ints w' w'.heap.size a zs := (h.below hb).up hb.size
theorem Ints.nil (w : World) (B : Nat) (a : Option Addr) : Ints w B a [] := fun i z h => by simp at h

def iCells (zs : List Int) : List Value := zs.map (fun z => .int .i64 z)
theorem iCells_append (a b : List Int) : iCells (a ++ b) = iCells a ++ iCells b := by simp [iCells]

/-- The value v owns the integers zs, from block B on. -/
def OwnsI (w : World) (B : Nat) (v : Value) (zs : List Int) : Prop := w.ownsRow B 3 1 v zs.length (iCells zs)
def InI (zs : List Int) : Prop := ∀ z, z ∈ zs → -9223372036854775808 ≤ z ∧ z ≤ 9223372036854775807

theorem ints_of_cells {w : World} {g : Nat} {cur : List Value} {zs : List Int} (hI : InI zs) (hg : w.heap[g]? = some (.cells cur.toArray 3)) (h4 : cur.take zs.length = iCells zs) : Ints w w.heap.size (some ⟨g, 0, none⟩) zs := by
  intro i z hz
  refine ⟨hI z (List.mem_of_getElem? hz), g, 0, rfl, ?_, ?_⟩
  · rcases Nat.lt_or_ge g w.heap.size with hlt | hge
    · exact hlt
    · rw [Array.getElem?_eq_none hge] at hg; cases hg
  · rw [Nat.zero_add, Lib.cell_of_heap hg]
    have h5 : (iCells zs)[i]? = some (.int .i64 z) := by simp [iCells, hz]
    rw [← h4, List.getElem?_take] at h5
    split at h5
    · simpa using h5
    · cases h5

theorem OwnsI.ints {w : World} {B : Nat} {v : Value} {zs : List Int} (h : OwnsI w B v zs) (hI : InI zs) : ∃ a cap, v = .slice a zs.length cap ∧ Ints w w.heap.size a zs := by
  rcases h.2 with ⟨rfl, h0⟩ | ⟨g, cap, cur, rfl, hb, hg, h1, h2, h3, h4⟩
  · refine ⟨none, 0, by rw [h0], ?_⟩
    have : zs = [] := List.eq_nil_of_length_eq_zero h0
    subst this
    exact Ints.nil _ _ _
  · exact ⟨some ⟨g, 0, none⟩, cap, rfl, ints_of_cells hI hg (by rw [Nat.mul_one] at h4; exact h4)⟩

theorem owns_below {w w' : World} {B e size n : Nat} {v : Value} {xs : List Value} (h : w.ownsRow B e size v n xs) (hb : Below w.heap.size w w') : w'.ownsRow B e size v n xs :=
  h.kept (row := none) ⟨hb.os, hb.tape, hb.output, hb.size, fun k hk _ => hb.block k hk⟩ (by cases hv : v.ownBlock <;> simp)
theorem OwnsI.below {w w' : World} {B : Nat} {v : Value} {zs : List Int} (h : OwnsI w B v zs) (hb : Below w.heap.size w w') : OwnsI w' B v zs := owns_below h hb

theorem below_drew {B : Nat} {a w : World} (h : Below B a w) (n : Nat) : Below B a (w.drewN n) := ⟨h.os, h.tape, h.output, h.size, h.block⟩

set_option maxHeartbeats 400000 in
theorem equal_ints (zs : List Int) (a1 : Option Addr) (c1 : Nat) (a2 : Option Addr) (c2 : Nat) (w : World) (hl : zs.length ≤ maxLen) (h1 : Ints w w.heap.size a1 zs) (h2 : Ints w w.heap.size a2 zs) :
    Calls Tryd.prog 9 #[.slice a1 zs.length c1, .slice a2 zs.length c2] w fun e w' => e = .returned (.bool true) ∧ Below w.heap.size w w' := by
  unfold maxLen at hl
  go_enter Tryd.func9, Tryd.ntmps9
  go_wp2_with fail
  go_loopw [13] (fun i wr => ∃ k : Nat, k ≤ zs.length ∧ i = .int .i64 k ∧ Below w.heap.size w wr)
    (fun i _ => zs.length - (intOf i).toNat)
  case atStart => exact ⟨0, Nat.zero_le _, rfl, Below.refl _ _⟩
  case round =>
    obtain ⟨k, hk, rfl, hb⟩ := hrel
    by_cases hlt : k < zs.length
    · have hx : zs[k]? = some zs[k] := List.getElem?_eq_getElem hlt
      obtain ⟨x, hX⟩ : ∃ x, x = zs[k] := ⟨_, rfl⟩
      rw [← hX] at hx
      clear hX
      obtain ⟨_, b, o, rfl, _, h0⟩ := (h1.below hb) k x hx
      obtain ⟨_, b', o', rfl, _, g0⟩ := (h2.below hb) k x hx
      have hk0 : (0 : Int) ≤ (k : Int) := by omega
      have hk1 : (k : Int) < (zs.length : Int) := by omega
      clear hx
      go_wp2_with fail
      go_quiet (fail)
      go_wp2_with fail
      go_roundw
      case rel => exact ⟨k + 1, by omega, by go_num, below_drew hb _⟩
      case measure => simp [intOf]; omega
    · go_wp2_with fail
      go_ret
      exact ⟨rfl, hb⟩
end Go.Proofs.YtmdfkahodbfjnaaDoor
