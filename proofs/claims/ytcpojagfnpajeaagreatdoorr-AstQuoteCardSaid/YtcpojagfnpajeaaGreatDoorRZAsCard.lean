/-
  Closed facts of the program that every card asks.
-/
import Derived.Test.YtcpojagfnpajeaaGreatDoorRZAsLaid
namespace Go.Proofs.YtcpojagfnpajeaaGreatDoorR
set_option maxRecDepth 100000
theorem cardMain : Tryz.pinned.checked.prog.mainIs = some (true, "32a10f71be75677390facc18710b622b76e8c45b9d51252f24f39987b840179b".toList) := by kernel_rfl
theorem cardLooks : true = Tryz.pinned.checked.prog.looks [] := by kernel_rfl
end Go.Proofs.YtcpojagfnpajeaaGreatDoorR
