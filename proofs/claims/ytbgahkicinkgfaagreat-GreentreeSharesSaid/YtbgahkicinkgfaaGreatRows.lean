/-
  No cell of these rows narrows 'for every input' (looked for: loops, veiled, ifaces, maps, wideKeys, modest, calm, conditions, laid).
  DERIVED. THE GIVEN ROWS OF THIS SEAT. 3 by the template 'for every input the law returns true; each argument reads behind the call as it read before'; 0 by the template 'total and deterministic' (their statements: YtbgahkicinkgfaaGreatTotals.lean).
  GIVEN WITH THE SEED: the statements are not yours to turn. If you find one false, say at which input.
  Laid BY PROGRAM, IN A SANDBOX (cutbox-rows.mjs): the forced cells as the released guide's own fill.sh prints them over the translation e9bcb8c1baac67f2… (all of the seat's roots in one cut). By AI agents, Wed Nov 11 2026. No macro, syntax, notation, axiom, sorry.
-/
import Derived.Test.YtbgahkicinkgfaaGreatChecked
import GoSem.Claim
import GoSem.ClaimJoined
import GoSem.ClaimMapViews
import Derived.JoinedTies
import Derived.KernelRfl
namespace Go.Proofs.YtbgahkicinkgfaaGreat
/- THE CELL 'sum', in the pinned program and in every row, IS THE sha256 OF THE DUMP (.gsa) THAT YtbgahkicinkgfaaGreatProg.lean LOADS. Nothing in Lean hashes anything: it is a label: what it is worth is what the hold of that sum in a sandbox is worth. -/
noncomputable def Tryz.pinned : Pinned := { name := "ytbgahkicinkgfaagreat", sum := "e9bcb8c1baac67f2599038dedca23206e31b16a1ee3c8ad08387741d2a6318b5", checked := Tryz.checked }
namespace Rows
def none {H : Type} : Left H := { results := [], args := [] }

/-- 'glossatorkeep1.GreentreeRoundTrip': WHATEVER THE INPUT: true; the input reads as it did. -/
def greentreeRoundTripSpec : ChangeSpec := { name := "greentreeRoundTrip", fn := fun _ => fun
  | [d] => { results := [.lit (.bool true)], args := [d] }
  | _ => none }
def greentreeRoundTripRow : OpenClaim := { program := "ytbgahkicinkgfaagreat", sum := "e9bcb8c1baac67f2599038dedca23206e31b16a1ee3c8ad08387741d2a6318b5", func := "glossator/glossatorkeep1.GreentreeRoundTrip", spec := "greentreeRoundTrip", inPlace := ["internal/bytealg.IndexByteString", "internal/bytealg.IndexString", "slices.overlaps[glossator/api.SyntaxTree]"], unfollowed := true, recurses := true, named := ["internal/bytealg.MaxLen"], plainKeys := false, apart := false }
def GreentreeRoundTripSaid : Prop := greentreeRoundTripRow.holds Tryz.pinned (OpenSpec.ofChange greentreeRoundTripSpec)

/-- ITS FALSE NEIGHBOUR: 'it returns false'. Refute it at one input. -/
def greentreeRoundTripWrong : ChangeSpec := { name := "greentreeRoundTrip", fn := fun _ => fun
  | [d] => { results := [.lit (.bool false)], args := [d] }
  | _ => none }
def GreentreeRoundTripWrongFalsely : Prop := greentreeRoundTripRow.holds Tryz.pinned (OpenSpec.ofChange greentreeRoundTripWrong)

/-- 'glossatorkeep1.GreentreeIdentity': WHATEVER THE INPUT: true; the input reads as it did. -/
def greentreeIdentitySpec : ChangeSpec := { name := "greentreeIdentity", fn := fun _ => fun
  | [d1, d2] => { results := [.lit (.bool true)], args := [d1, d2] }
  | _ => none }
def greentreeIdentityRow : OpenClaim := { program := "ytbgahkicinkgfaagreat", sum := "e9bcb8c1baac67f2599038dedca23206e31b16a1ee3c8ad08387741d2a6318b5", func := "glossator/glossatorkeep1.GreentreeIdentity", spec := "greentreeIdentity", inPlace := ["internal/bytealg.IndexByteString", "internal/bytealg.IndexString", "slices.overlaps[glossator/api.SyntaxTree]"], unfollowed := true, recurses := true, named := ["internal/bytealg.MaxLen"], plainKeys := false, apart := false }
def GreentreeIdentitySaid : Prop := greentreeIdentityRow.holds Tryz.pinned (OpenSpec.ofChange greentreeIdentitySpec)

/-- ITS FALSE NEIGHBOUR: 'it returns false'. Refute it at one input. -/
def greentreeIdentityWrong : ChangeSpec := { name := "greentreeIdentity", fn := fun _ => fun
  | [d1, d2] => { results := [.lit (.bool false)], args := [d1, d2] }
  | _ => none }
def GreentreeIdentityWrongFalsely : Prop := greentreeIdentityRow.holds Tryz.pinned (OpenSpec.ofChange greentreeIdentityWrong)

/-- 'glossatorkeep1.GreentreeShares': WHATEVER THE INPUT: true; the input reads as it did. -/
def greentreeSharesSpec : ChangeSpec := { name := "greentreeShares", fn := fun _ => fun
  | [d1, d2] => { results := [.lit (.bool true)], args := [d1, d2] }
  | _ => none }
def greentreeSharesRow : OpenClaim := { program := "ytbgahkicinkgfaagreat", sum := "e9bcb8c1baac67f2599038dedca23206e31b16a1ee3c8ad08387741d2a6318b5", func := "glossator/glossatorkeep1.GreentreeShares", spec := "greentreeShares", inPlace := ["internal/bytealg.IndexByteString", "internal/bytealg.IndexString", "slices.overlaps[glossator/api.SyntaxTree]"], unfollowed := true, recurses := true, named := ["internal/bytealg.MaxLen"], plainKeys := false, apart := false }
def GreentreeSharesSaid : Prop := greentreeSharesRow.holds Tryz.pinned (OpenSpec.ofChange greentreeSharesSpec)

/-- ITS FALSE NEIGHBOUR: 'it returns false'. Refute it at one input. -/
def greentreeSharesWrong : ChangeSpec := { name := "greentreeShares", fn := fun _ => fun
  | [d1, d2] => { results := [.lit (.bool false)], args := [d1, d2] }
  | _ => none }
def GreentreeSharesWrongFalsely : Prop := greentreeSharesRow.holds Tryz.pinned (OpenSpec.ofChange greentreeSharesWrong)

/- THE SECOND FORM. 'bulk': how many values and letters a reading holds, each counted each time it is reached (what is shared counts as often as it is met; a slice's spare places count too). A statement '..UptoSaid' is the law's where the arguments, and the package variables that the reading takes, are together of bulk at most 1048576: NARROWER than '..Said'. Prove '..Said' where nothing that the law and all that it calls make is longer than what came in: it says more and counts as full. Else prove '..UptoSaid'. A law counts once. -/
mutual
def uptoBulk {H : Type} : DataW H → Nat
  | .lit (.string bytes) => bytes.length + 1
  | .lit _ => 1
  | .nil => 1
  | .ptr d => uptoBulk d + 1
  | .slice elems spare => uptoBulkAll elems + uptoBulkAll spare + 1
  | .agg parts => uptoBulkAll parts + 1
  | .iface _ d => uptoBulk d + 1
  | .map entries => uptoBulkEntries entries + 1
  | .held _ => 1
def uptoBulkAll {H : Type} : List (DataW H) → Nat
  | [] => 0
  | d :: r => uptoBulk d + uptoBulkAll r
def uptoBulkEntries {H : Type} : List (Lit × DataW H) → Nat
  | [] => 0
  | x :: r => uptoBulkEntry x + uptoBulkEntries r
def uptoBulkEntry {H : Type} : Lit × DataW H → Nat
  | (.string bytes, d) => bytes.length + uptoBulk d + 1
  | (_, d) => uptoBulk d + 1
 end
def uptoSmall : (H : Type) → List (DataW H) → Bool := fun _ ds => decide (uptoBulkAll ds ≤ 1048576)
def OpenSpec.upto (s : _root_.Go.ChangeSpec) : _root_.Go.OpenSpec := { _root_.Go.OpenSpec.ofChange s with cond := some uptoSmall }

/-- 'glossatorkeep1.GreentreeRoundTrip', WHERE WHAT IT READS IS OF BULK AT MOST 1048576: true; the input reads as it did. -/
def greentreeRoundTripUptoRow : OpenClaim := { program := "ytbgahkicinkgfaagreat", sum := "e9bcb8c1baac67f2599038dedca23206e31b16a1ee3c8ad08387741d2a6318b5", func := "glossator/glossatorkeep1.GreentreeRoundTrip", spec := "greentreeRoundTrip", inPlace := ["internal/bytealg.IndexByteString", "internal/bytealg.IndexString", "slices.overlaps[glossator/api.SyntaxTree]"], unfollowed := true, recurses := true, named := ["internal/bytealg.MaxLen"], plainKeys := false, apart := false, narrowed := true }
def GreentreeRoundTripUptoSaid : Prop := greentreeRoundTripUptoRow.holds Tryz.pinned (OpenSpec.upto greentreeRoundTripSpec)

/-- 'glossatorkeep1.GreentreeIdentity', WHERE WHAT IT READS IS OF BULK AT MOST 1048576: true; the input reads as it did. -/
def greentreeIdentityUptoRow : OpenClaim := { program := "ytbgahkicinkgfaagreat", sum := "e9bcb8c1baac67f2599038dedca23206e31b16a1ee3c8ad08387741d2a6318b5", func := "glossator/glossatorkeep1.GreentreeIdentity", spec := "greentreeIdentity", inPlace := ["internal/bytealg.IndexByteString", "internal/bytealg.IndexString", "slices.overlaps[glossator/api.SyntaxTree]"], unfollowed := true, recurses := true, named := ["internal/bytealg.MaxLen"], plainKeys := false, apart := false, narrowed := true }
def GreentreeIdentityUptoSaid : Prop := greentreeIdentityUptoRow.holds Tryz.pinned (OpenSpec.upto greentreeIdentitySpec)

/-- 'glossatorkeep1.GreentreeShares', WHERE WHAT IT READS IS OF BULK AT MOST 1048576: true; the input reads as it did. -/
def greentreeSharesUptoRow : OpenClaim := { program := "ytbgahkicinkgfaagreat", sum := "e9bcb8c1baac67f2599038dedca23206e31b16a1ee3c8ad08387741d2a6318b5", func := "glossator/glossatorkeep1.GreentreeShares", spec := "greentreeShares", inPlace := ["internal/bytealg.IndexByteString", "internal/bytealg.IndexString", "slices.overlaps[glossator/api.SyntaxTree]"], unfollowed := true, recurses := true, named := ["internal/bytealg.MaxLen"], plainKeys := false, apart := false, narrowed := true }
def GreentreeSharesUptoSaid : Prop := greentreeSharesUptoRow.holds Tryz.pinned (OpenSpec.upto greentreeSharesSpec)

end Rows
end Go.Proofs.YtbgahkicinkgfaaGreat
