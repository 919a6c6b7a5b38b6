/-
  All methods of the parser, by induction.
-/
import Derived.Test.YtcpojagfnpajeaaGreatDoorRZPsWalk
import Derived.Test.YtcpojagfnpajeaaGreatDoorRZPsWalk2
import Derived.Test.YtcpojagfnpajeaaGreatDoorRZPsItem
namespace Go.Proofs.YtcpojagfnpajeaaGreatDoorR.Ps
open Go.RowKit Go.Shelf

set_option maxRecDepth 100000 in
set_option maxHeartbeats 2000000 in
/-- Each method does what the plain function of its name does. -/
theorem specs (E : Env) (n : Nat) : Specs E n := by
  induction n using Nat.strongRecOn with
  | ind n ih =>
    cases n with
    | zero => exact ⟨fun nt f _ A w0 w s s' _ hr => absurd hr (by simp [run]), fun A w0 w s s' _ hr => absurd hr (by simp [run]), fun A w0 w s s' _ hr => absurd hr (by simp [run])⟩
    | succ n =>
      have H : ∀ m, m ≤ n → Specs E m := fun m hm => ih m (by omega)
      refine ⟨fun nt f hf => ?_, step89 E n H, step118 E n H⟩
      match nt, hf with
      | .typ, hf => cases Option.some.inj hf; exact step80 E n H
      | .optTyp x, hf => cases Option.some.inj hf; exact step87 E n H x
      | .typs x, hf => cases Option.some.inj hf; exact step96 E n H x
      | .tparams, hf => cases Option.some.inj hf; exact step74 E n H
      | .tparam, hf => cases Option.some.inj hf; exact step92 E n H
      | .path g, hf => cases Option.some.inj hf; exact step101 E n H g
      | .list x e, hf => cases Option.some.inj hf; exact step75 E n H x e
      | .block, hf => cases Option.some.inj hf; exact step73 E n H
      | .letS, hf => cases Option.some.inj hf; exact step111 E n H
      | .whileS, hf => cases Option.some.inj hf; exact step112 E n H
      | .returnS, hf => cases Option.some.inj hf; exact step113 E n H
      | .pat, hf => cases Option.some.inj hf; exact step131 E n H
      | .vmatch, hf => cases Option.some.inj hf; exact step147 E n H
      | .expr, hf => cases Option.some.inj hf; exact step82 E n H
      | .oper k, hf => cases Option.some.inj hf; exact step106 E n H k
      | .unary, hf => cases Option.some.inj hf; exact step124 E n H
      | .posF, hf => cases Option.some.inj hf; exact step144 E n H
      | .args, hf => cases Option.some.inj hf; exact step150 E n H
      | .member, hf => cases Option.some.inj hf; exact step155 E n H
      | .prim, hf => cases Option.some.inj hf; exact step114 E n H
      | .pathMac, hf => cases Option.some.inj hf; exact step132 E n H
      | .paren, hf => cases Option.some.inj hf; exact step133 E n H
      | .ifE, hf => cases Option.some.inj hf; exact step134 E n H
      | .matchE, hf => cases Option.some.inj hf; exact step135 E n H
      | .arm, hf => cases Option.some.inj hf; exact step152 E n H
      | .structLit, hf => cases Option.some.inj hf; exact step136 E n H
      | .finit, hf => cases Option.some.inj hf; exact step153 E n H
      | .lambda, hf => cases Option.some.inj hf; exact step137 E n H
      | .params x, hf => cases Option.some.inj hf; exact step83 E n H x
      | .param, hf => cases Option.some.inj hf; exact step108 E n H
      | .useI, hf => cases Option.some.inj hf; exact step54 E n H
      | .funcI, hf => cases Option.some.inj hf; exact step55 E n H
      | .sigN, hf => cases Option.some.inj hf; exact step72 E n H
      | .structI, hf => cases Option.some.inj hf; exact step56 E n H
      | .field, hf => cases Option.some.inj hf; exact step77 E n H
      | .enumI, hf => cases Option.some.inj hf; exact step57 E n H
      | .variant, hf => cases Option.some.inj hf; exact step78 E n H
      | .traitI, hf => cases Option.some.inj hf; exact step58 E n H
      | .implI, hf => cases Option.some.inj hf; exact step59 E n H
      | .members, hf => cases Option.some.inj hf; exact step79 E n H
      | .assoc, hf => cases Option.some.inj hf; exact step97 E n H
      | .method, hf => cases Option.some.inj hf; exact step98 E n H
      | .constI, hf => cases Option.some.inj hf; exact step60 E n H
      | .macroI, hf => cases Option.some.inj hf; exact step61 E n H
      | .skip, hf => cases Option.some.inj hf; exact step33 E n H
      | .sg .seg, hf => cases Option.some.inj hf; exact step69 E n H
      | .sg .tseg, hf => cases Option.some.inj hf; exact step102 E n H
      | .bounds, hf => cases hf
      | .pathLoop _, hf => cases hf
      | .blockLoop, hf => cases hf
      | .stmt, hf => cases hf
      | .estmt, hf => cases hf
      | .operLoop _, hf => cases hf
      | .postLoop, hf => cases hf
      | .useLoop, hf => cases hf
      | .membersLoop, hf => cases hf
      | .skipLoop, hf => cases hf
      | .file, hf => cases hf
end Go.Proofs.YtcpojagfnpajeaaGreatDoorR.Ps
