/-
  The closed facts of the card of AstPath.
-/
import Derived.Test.YtcpojagfnpajeaaGreatDoorRZAsCard
namespace Go.Proofs.YtcpojagfnpajeaaGreatDoorR.lawPath
set_option maxRecDepth 100000
theorem cWf : Rows.astPathRow.wfByText (OpenSpec.ofChange Rows.astPathSpec) = true := by kernel_rfl
theorem cGoes : false = Rows.astPathRow.goesBy Tryz.pinned.checked.prog := by kernel_rfl
end Go.Proofs.YtcpojagfnpajeaaGreatDoorR.lawPath
