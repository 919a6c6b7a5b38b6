/-
  The closed facts of the row of AstQuote, one by one.
-/
import Derived.Test.YtcpojagfnpajeaaGreatDoorRZAsLaid
namespace Go.Proofs.YtcpojagfnpajeaaGreatDoorR.lawQuote
set_option maxRecDepth 100000
theorem fInPlace : (Rows.astQuoteRow.inPlace == Tryz.pinned.checked.prog.inPlace 13) = true := by kernel_rfl
theorem fUnf : (Rows.astQuoteRow.unfollowed == Tryz.pinned.checked.prog.unfollowed 13) = true := by kernel_rfl
theorem fRec : (Rows.astQuoteRow.recurses == Tryz.pinned.checked.prog.recurses 13) = true := by kernel_rfl
theorem fNamed : (Rows.astQuoteRow.named == Tryz.pinned.checked.prog.varsNamed 13) = true := by kernel_rfl
theorem closed : joinedFacts Tryz.pinned.checked.prog 13 Tryz.f13 Rows.astQuoteSpec Rows.astQuoteRow = true := by
  unfold joinedFacts
  simp only [Bool.and_eq_true]
  repeat' apply And.intro
  · kernel_rfl
  · kernel_rfl
  · kernel_rfl
  · kernel_rfl
  · kernel_rfl
  · kernel_rfl
  · kernel_rfl
  · kernel_rfl
  · kernel_rfl
  · exact fInPlace
  · exact fUnf
  · exact fRec
  · exact fNamed
  all_goals kernel_rfl
end Go.Proofs.YtcpojagfnpajeaaGreatDoorR.lawQuote
