/-
  The closed facts of the card of ParserLossless.
-/
import Derived.Test.YtcpojagfnpajeaaGreatDoorRZAsCard
namespace Go.Proofs.YtcpojagfnpajeaaGreatDoorR.lawLoss
set_option maxRecDepth 100000
theorem cWf : Rows.parserLosslessRow.wfByText (OpenSpec.ofChange Rows.parserLosslessSpec) = true := by kernel_rfl
theorem cGoes : false = Rows.parserLosslessRow.goesBy Tryz.pinned.checked.prog := by kernel_rfl
end Go.Proofs.YtcpojagfnpajeaaGreatDoorR.lawLoss
