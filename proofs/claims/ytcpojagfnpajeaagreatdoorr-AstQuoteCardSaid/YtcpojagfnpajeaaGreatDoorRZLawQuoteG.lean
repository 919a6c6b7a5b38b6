/-
  The closed facts of the card of AstQuote.
-/
import Derived.Test.YtcpojagfnpajeaaGreatDoorRZAsCard
namespace Go.Proofs.YtcpojagfnpajeaaGreatDoorR.lawQuote
set_option maxRecDepth 100000
theorem cWf : Rows.astQuoteRow.wfByText (OpenSpec.ofChange Rows.astQuoteSpec) = true := by kernel_rfl
theorem cGoes : false = Rows.astQuoteRow.goesBy Tryz.pinned.checked.prog := by kernel_rfl
end Go.Proofs.YtcpojagfnpajeaaGreatDoorR.lawQuote
