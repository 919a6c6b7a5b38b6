/-
  The closed facts of the row of ParserLossless, one by one.
-/
import Derived.Test.YtcpojagfnpajeaaGreatDoorRZAsLaid
namespace Go.Proofs.YtcpojagfnpajeaaGreatDoorR.lawLoss
set_option maxRecDepth 100000
theorem fInPlace : (Rows.parserLosslessRow.inPlace == Tryz.pinned.checked.prog.inPlace 3) = true := by kernel_rfl
theorem fUnf : (Rows.parserLosslessRow.unfollowed == Tryz.pinned.checked.prog.unfollowed 3) = true := by kernel_rfl
theorem fRec : (Rows.parserLosslessRow.recurses == Tryz.pinned.checked.prog.recurses 3) = true := by kernel_rfl
theorem fNamed : (Rows.parserLosslessRow.named == Tryz.pinned.checked.prog.varsNamed 3) = true := by kernel_rfl
theorem closed : joinedFacts Tryz.pinned.checked.prog 3 Tryz.f3 Rows.parserLosslessSpec Rows.parserLosslessRow = true := by
  unfold joinedFacts
  simp only [Bool.and_eq_true]
  repeat' apply And.intro
  · kernel_rfl
  · kernel_rfl
  · kernel_rfl
  · kernel_rfl
  · kernel_rfl
  · kernel_rfl
  · kernel_rfl
  · kernel_rfl
  · kernel_rfl
  · exact fInPlace
  · exact fUnf
  · exact fRec
  · exact fNamed
  all_goals kernel_rfl
end Go.Proofs.YtcpojagfnpajeaaGreatDoorR.lawLoss
