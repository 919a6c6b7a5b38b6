/-
  What the rows list: the two errors of strconv and the table of its numerals lie as their initialisers lay them.
-/
import Derived.Test.YtcpojagfnpajeaaGreatDoorRRows
import Derived.Test.YtcpojagfnpajeaaGreatDoorRTie
import Derived.Test.YtcpojagfnpajeaaGreatDoorRCards
import Derived.Test.YtcpojagfnpajeaaGreatDoorRZPrLow
import Derived.ProofKit
import Derived.ShutString
import Derived.OpenShut
import Derived.ChangeOld
import Derived.Below
import Derived.LaidMore
import Derived.Lay
import Derived.SevenTiedAt
import Derived.Stop.Joined
import Derived.Stop.LaidErr
import Derived.Lib.LaidTab
namespace Go.Proofs.YtcpojagfnpajeaaGreatDoorR
open Go.ChangeShapes Go.WideShapes Go.ChangeAt Go.RowKit

theorem own : ownKnob Tryz.prog.godebug = none := by kernel_rfl

def laid5 : List (String × DataW Unit) := [("math/bits.deBruijn32tab", Rows.laid_math_bits_deBruijn32tab), ("math/bits.deBruijn64tab", Rows.laid_math_bits_deBruijn64tab), ("internal/strconv.uint64pow10", Rows.laid_internal_strconv_uint64pow10), ("strconv.ErrRange", Rows.laid_strconv_ErrRange), ("strconv.ErrSyntax", Rows.laid_strconv_ErrSyntax)]

theorem row_err (u : TypeId) (h : Tryz.prog.typeName? 3 u = some "*errors.errorString") : u = 267 :=
  typeName_ptr_named (nm := "errors.errorString") (by kernel_rfl) (by kernel_rfl) (by decide) u h

theorem vars_of_laid {W : World} (h : laidMetH Tryz.prog laid5 W) : Ps.Vars W ∧ Ps.Tab W := by
  rw [MakeChecks.laidMetH_plain _ _ _ (by kernel_rfl)] at h
  have h3 := h.tail.tail
  have e3 : (Rows.laid_internal_strconv_uint64pow10 : DataW Unit) = Lib.tabData .u64 Lib.pow10Tab := by kernel_rfl
  have ht : Ps.Tab W := by
    have h3' : laidMet Tryz.prog (("internal/strconv.uint64pow10", Lib.tabData .u64 Lib.pow10Tab) :: [("strconv.ErrRange", Rows.laid_strconv_ErrRange), ("strconv.ErrSyntax", Rows.laid_strconv_ErrSyntax)]) W := by rw [← e3]; exact h3
    exact Lib.tabIs_of_head (g := 3) (t := 264) (e := 208) (n := 20) (by kernel_rfl) (by kernel_rfl) Tryz.underlying264 Tryz.underlying208 (by kernel_rfl) (by kernel_rfl) h3'
  have h4 := h3.tail
  obtain ⟨a0, s0, hv0, _, _, _⟩ := laid_sentinel h4 (g := 2) (ti := 121) (tp := 267) (te := 269) (ts := 9) (by kernel_rfl) (by kernel_rfl) Tryz.underlying121 row_err Tryz.underlying267 Tryz.underlying269 rfl rfl Tryz.underlying9 (by kernel_rfl) (by kernel_rfl)
  obtain ⟨a1, s1, hv1, _, _, _⟩ := laid_sentinel h4.tail (g := 1) (ti := 121) (tp := 267) (te := 269) (ts := 9) (by kernel_rfl) (by kernel_rfl) Tryz.underlying121 row_err Tryz.underlying267 Tryz.underlying269 rfl rfl Tryz.underlying9 (by kernel_rfl) (by kernel_rfl)
  have c0 : W.cell? ⟨2, 0, none⟩ = some (.iface 267 (.pointer (some a0))) := by simpa using World.var?_cell (by kernel_rfl) hv0 0
  have c1 : W.cell? ⟨1, 0, none⟩ = some (.iface 267 (.pointer (some a1))) := by simpa using World.var?_cell (by kernel_rfl) hv1 0
  exact ⟨⟨⟨_, c1, Or.inr ⟨_, _, rfl⟩⟩, _, c0, Or.inr ⟨_, _, rfl⟩⟩, ht⟩

theorem witness_laid (os : Os) (args : Array Value) : laidMetH Tryz.prog laid5 ((World.laidAll Tryz.prog os laid5).forCall (fun _ _ => 0) ⟨#[], args, []⟩).memory := by
  rw [MakeChecks.laidMetH_plain _ _ _ (by kernel_rfl)]; exact laidMet_laidAll _ (by kernel_rfl) (by kernel_rfl)
end Go.Proofs.YtcpojagfnpajeaaGreatDoorR
