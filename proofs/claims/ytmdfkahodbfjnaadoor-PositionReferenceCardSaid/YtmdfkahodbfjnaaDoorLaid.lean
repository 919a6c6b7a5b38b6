/-
  What the rows list: the two tables of unicode/utf8 lie as their initialisers lay them.
-/
import Derived.Test.YtmdfkahodbfjnaaDoorRows
import Derived.Test.YtmdfkahodbfjnaaDoorTie
import Derived.Test.YtmdfkahodbfjnaaDoorCards
import Derived.Test.YtmdfkahodbfjnaaDoorBase
import Derived.ProofKit
import Derived.ShutString
import Derived.OpenShut
import Derived.ChangeOld
import Derived.Below
import Derived.LaidMore
import Derived.Lay
import Derived.SevenTiedAt
import Derived.Stop.Joined
import Derived.PinnedBridge
import Derived.Lib.LaidU8T
namespace Go.Proofs.YtmdfkahodbfjnaaDoor
open Go.ChangeShapes Go.WideShapes Go.ChangeAt Go.RowKit

theorem own : ownKnob Tryd.prog.godebug = none := by kernel_rfl
theorem laidOut : laidOutB Tryd.prog = true := by kernel_rfl

def laid2 : List (String × DataW Unit) := [("unicode/utf8.acceptRanges", Rows.laid_unicode_utf8_acceptRanges), ("unicode/utf8.first", Rows.laid_unicode_utf8_first)]

theorem tabs_of_laid {W : World} (h : laidMetH Tryd.prog laid2 W) : Tabs W := by
  rw [MakeChecks.laidMetH_plain _ _ _ (by kernel_rfl)] at h
  have hA := Lib.laidMet.reads h (n := "unicode/utf8.acceptRanges") (d := Rows.laid_unicode_utf8_acceptRanges) (.head _)
  have hF := Lib.laidMet.reads h (n := "unicode/utf8.first") (d := Rows.laid_unicode_utf8_first) (.tail _ (.head _))
  have eA : (Rows.laid_unicode_utf8_acceptRanges : DataW Unit) = Lib.acceptData := by kernel_rfl
  have eF : Rows.laid_unicode_utf8_first = Lib.firstData := Pinned.utf8First_eq
  rw [eA] at hA
  rw [eF] at hF
  have ht := utf8Tabs_of_readsT (U8Types.of260 Tryd.lays260) ⟨by kernel_rfl, by kernel_rfl, by kernel_rfl, by kernel_rfl, by kernel_rfl, by kernel_rfl, by kernel_rfl⟩ hF hA
  refine ⟨ht, ?_⟩
  have h2 := (ht.2 0 (by decide)).1
  rcases Nat.lt_or_ge 2 W.heap.size with h3 | h3
  · exact h3
  · exfalso
    have h4 : W.cell? ⟨2, 2 * 0, none⟩ = some (.int .u8 (Lib.accLo 0)) := h2
    simp [World.cell?, Array.getElem?_eq_none h3] at h4

theorem witness_laid (os : Os) (args : Array Value) : laidMetH Tryd.prog laid2 ((World.laidAll Tryd.prog os laid2).forCall (fun _ _ => 0) ⟨#[], args, []⟩).memory := by
  rw [MakeChecks.laidMetH_plain _ _ _ (by kernel_rfl)]; exact laidMet_laidAll _ (by kernel_rfl) (by kernel_rfl)
end Go.Proofs.YtmdfkahodbfjnaaDoor
