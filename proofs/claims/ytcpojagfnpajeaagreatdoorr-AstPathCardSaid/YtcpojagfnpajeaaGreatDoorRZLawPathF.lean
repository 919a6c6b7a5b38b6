/-
  The closed facts of the row of AstPath, one by one.
-/
import Derived.Test.YtcpojagfnpajeaaGreatDoorRZAsLaid
namespace Go.Proofs.YtcpojagfnpajeaaGreatDoorR.lawPath
set_option maxRecDepth 100000
theorem fInPlace : (Rows.astPathRow.inPlace == Tryz.pinned.checked.prog.inPlace 11) = true := by kernel_rfl
theorem fUnf : (Rows.astPathRow.unfollowed == Tryz.pinned.checked.prog.unfollowed 11) = true := by kernel_rfl
theorem fRec : (Rows.astPathRow.recurses == Tryz.pinned.checked.prog.recurses 11) = true := by kernel_rfl
theorem fNamed : (Rows.astPathRow.named == Tryz.pinned.checked.prog.varsNamed 11) = true := by kernel_rfl
theorem closed : joinedFacts Tryz.pinned.checked.prog 11 Tryz.f11 Rows.astPathSpec Rows.astPathRow = true := by
  unfold joinedFacts
  simp only [Bool.and_eq_true]
  repeat' apply And.intro
  · kernel_rfl
  · kernel_rfl
  · kernel_rfl
  · kernel_rfl
  · kernel_rfl
  · kernel_rfl
  · kernel_rfl
  · kernel_rfl
  · kernel_rfl
  · exact fInPlace
  · exact fUnf
  · exact fRec
  · exact fNamed
  all_goals kernel_rfl
end Go.Proofs.YtcpojagfnpajeaaGreatDoorR.lawPath
