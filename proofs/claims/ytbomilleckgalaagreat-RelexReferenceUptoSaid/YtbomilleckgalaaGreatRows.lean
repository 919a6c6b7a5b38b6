/-
  No cell of these rows narrows 'for every input' (looked for: loops, veiled, ifaces, maps, wideKeys, modest, calm, conditions, laid).
  DERIVED. THE GIVEN ROWS OF THIS SEAT. 4 by the template 'for every input the law returns true; each argument reads behind the call as it read before'; 0 by the template 'total and deterministic' (their statements: YtbomilleckgalaaGreatTotals.lean).
  GIVEN WITH THE SEED: the statements are not yours to turn. If you find one false, say at which input.
  Laid BY PROGRAM, IN A SANDBOX (cutbox-rows.mjs): the forced cells as the released guide's own fill.sh prints them over the translation bca7e6eee8906eb6… (all of the seat's roots in one cut). By AI agents, Wed Nov 11 2026. No macro, syntax, notation, axiom, sorry.
-/
import Derived.Test.YtbomilleckgalaaGreatChecked
import GoSem.Claim
import GoSem.ClaimJoined
import GoSem.ClaimMapViews
import Derived.JoinedTies
import Derived.KernelRfl
namespace Go.Proofs.YtbomilleckgalaaGreat
/- THE CELL 'sum', in the pinned program and in every row, IS THE sha256 OF THE DUMP (.gsa) THAT YtbomilleckgalaaGreatProg.lean LOADS. Nothing in Lean hashes anything: it is a label: what it is worth is what the hold of that sum in a sandbox is worth. -/
noncomputable def Tryz.pinned : Pinned := { name := "ytbomilleckgalaagreat", sum := "bca7e6eee8906eb6197b9ac0fb68c55f16657a55bb5b627adaccab8b7d446b4b", checked := Tryz.checked }
namespace Rows
def none {H : Type} : Left H := { results := [], args := [] }

/-- 'glossatorlaw1.RelexReference': WHATEVER THE INPUT: true; the input reads as it did. -/
def relexReferenceSpec : ChangeSpec := { name := "relexReference", fn := fun _ => fun
  | [d1, d2, d3, d4] => { results := [.lit (.bool true)], args := [d1, d2, d3, d4] }
  | _ => none }
def relexReferenceRow : OpenClaim := { program := "ytbomilleckgalaagreat", sum := "bca7e6eee8906eb6197b9ac0fb68c55f16657a55bb5b627adaccab8b7d446b4b", func := "glossator/glossatorlaw1.RelexReference", spec := "relexReference", inPlace := ["internal/bytealg.IndexByteString", "internal/bytealg.IndexString", "slices.overlaps[glossator/api.SyntaxTree]", "internal/abi.NoEscape", "internal/bytealg.MakeNoZero"], unfollowed := true, recurses := true, named := ["internal/bytealg.MaxLen"], apart := false }
def RelexReferenceSaid : Prop := relexReferenceRow.holds Tryz.pinned (OpenSpec.ofChange relexReferenceSpec)

/-- ITS FALSE NEIGHBOUR: 'it returns false'. Refute it at one input. -/
def relexReferenceWrong : ChangeSpec := { name := "relexReference", fn := fun _ => fun
  | [d1, d2, d3, d4] => { results := [.lit (.bool false)], args := [d1, d2, d3, d4] }
  | _ => none }
def RelexReferenceWrongFalsely : Prop := relexReferenceRow.holds Tryz.pinned (OpenSpec.ofChange relexReferenceWrong)

/-- 'glossatorkeep1.ReparseEqualsParse': WHATEVER THE INPUT: true; the input reads as it did. -/
def reparseEqualsParseSpec : ChangeSpec := { name := "reparseEqualsParse", fn := fun _ => fun
  | [d1, d2] => { results := [.lit (.bool true)], args := [d1, d2] }
  | _ => none }
def reparseEqualsParseRow : OpenClaim := { program := "ytbomilleckgalaagreat", sum := "bca7e6eee8906eb6197b9ac0fb68c55f16657a55bb5b627adaccab8b7d446b4b", func := "glossator/glossatorkeep1.ReparseEqualsParse", spec := "reparseEqualsParse", inPlace := ["internal/bytealg.IndexByteString", "internal/bytealg.IndexString", "slices.overlaps[glossator/api.SyntaxTree]", "internal/abi.NoEscape", "internal/bytealg.MakeNoZero"], unfollowed := true, recurses := true, named := ["internal/bytealg.MaxLen"], apart := false }
def ReparseEqualsParseSaid : Prop := reparseEqualsParseRow.holds Tryz.pinned (OpenSpec.ofChange reparseEqualsParseSpec)

/-- ITS FALSE NEIGHBOUR: 'it returns false'. Refute it at one input. -/
def reparseEqualsParseWrong : ChangeSpec := { name := "reparseEqualsParse", fn := fun _ => fun
  | [d1, d2] => { results := [.lit (.bool false)], args := [d1, d2] }
  | _ => none }
def ReparseEqualsParseWrongFalsely : Prop := reparseEqualsParseRow.holds Tryz.pinned (OpenSpec.ofChange reparseEqualsParseWrong)

/-- 'glossatorkeep1.ReparseReuses': WHATEVER THE INPUT: true; the input reads as it did. -/
def reparseReusesSpec : ChangeSpec := { name := "reparseReuses", fn := fun _ => fun
  | [d1, d2] => { results := [.lit (.bool true)], args := [d1, d2] }
  | _ => none }
def reparseReusesRow : OpenClaim := { program := "ytbomilleckgalaagreat", sum := "bca7e6eee8906eb6197b9ac0fb68c55f16657a55bb5b627adaccab8b7d446b4b", func := "glossator/glossatorkeep1.ReparseReuses", spec := "reparseReuses", inPlace := ["internal/bytealg.IndexByteString", "internal/bytealg.IndexString", "slices.overlaps[glossator/api.SyntaxTree]", "internal/abi.NoEscape", "internal/bytealg.MakeNoZero"], unfollowed := true, recurses := true, named := ["internal/bytealg.MaxLen"], apart := false }
def ReparseReusesSaid : Prop := reparseReusesRow.holds Tryz.pinned (OpenSpec.ofChange reparseReusesSpec)

/-- ITS FALSE NEIGHBOUR: 'it returns false'. Refute it at one input. -/
def reparseReusesWrong : ChangeSpec := { name := "reparseReuses", fn := fun _ => fun
  | [d1, d2] => { results := [.lit (.bool false)], args := [d1, d2] }
  | _ => none }
def ReparseReusesWrongFalsely : Prop := reparseReusesRow.holds Tryz.pinned (OpenSpec.ofChange reparseReusesWrong)

/-- 'glossatorkeep1.ReparseErrors': WHATEVER THE INPUT: true; the input reads as it did. -/
def reparseErrorsSpec : ChangeSpec := { name := "reparseErrors", fn := fun _ => fun
  | [d1, d2, d3] => { results := [.lit (.bool true)], args := [d1, d2, d3] }
  | _ => none }
def reparseErrorsRow : OpenClaim := { program := "ytbomilleckgalaagreat", sum := "bca7e6eee8906eb6197b9ac0fb68c55f16657a55bb5b627adaccab8b7d446b4b", func := "glossator/glossatorkeep1.ReparseErrors", spec := "reparseErrors", inPlace := ["internal/bytealg.IndexByteString", "internal/bytealg.IndexString", "slices.overlaps[glossator/api.SyntaxTree]", "internal/abi.NoEscape", "internal/bytealg.MakeNoZero"], unfollowed := true, recurses := true, named := ["internal/bytealg.MaxLen"], apart := false }
def ReparseErrorsSaid : Prop := reparseErrorsRow.holds Tryz.pinned (OpenSpec.ofChange reparseErrorsSpec)

/-- ITS FALSE NEIGHBOUR: 'it returns false'. Refute it at one input. -/
def reparseErrorsWrong : ChangeSpec := { name := "reparseErrors", fn := fun _ => fun
  | [d1, d2, d3] => { results := [.lit (.bool false)], args := [d1, d2, d3] }
  | _ => none }
def ReparseErrorsWrongFalsely : Prop := reparseErrorsRow.holds Tryz.pinned (OpenSpec.ofChange reparseErrorsWrong)

/- THE SECOND FORM. 'bulk': how many values and letters a reading holds, each counted each time it is reached (what is shared counts as often as it is met; a slice's spare places count too). A statement '..UptoSaid' is the law's where the arguments, and the package variables that the reading takes, are together of bulk at most 1048576: NARROWER than '..Said'. Prove '..Said' where nothing that the law and all that it calls make is longer than what came in: it says more and counts as full. Else prove '..UptoSaid'. A law counts once. -/
mutual
def uptoBulk {H : Type} : DataW H → Nat
  | .lit (.string bytes) => bytes.length + 1
  | .lit _ => 1
  | .nil => 1
  | .ptr d => uptoBulk d + 1
  | .slice elems spare => uptoBulkAll elems + uptoBulkAll spare + 1
  | .agg parts => uptoBulkAll parts + 1
  | .iface _ d => uptoBulk d + 1
  | .map entries => uptoBulkEntries entries + 1
  | .held _ => 1
def uptoBulkAll {H : Type} : List (DataW H) → Nat
  | [] => 0
  | d :: r => uptoBulk d + uptoBulkAll r
def uptoBulkEntries {H : Type} : List (Lit × DataW H) → Nat
  | [] => 0
  | x :: r => uptoBulkEntry x + uptoBulkEntries r
def uptoBulkEntry {H : Type} : Lit × DataW H → Nat
  | (.string bytes, d) => bytes.length + uptoBulk d + 1
  | (_, d) => uptoBulk d + 1
 end
def uptoSmall : (H : Type) → List (DataW H) → Bool := fun _ ds => decide (uptoBulkAll ds ≤ 1048576)
def OpenSpec.upto (s : _root_.Go.ChangeSpec) : _root_.Go.OpenSpec := { _root_.Go.OpenSpec.ofChange s with cond := some uptoSmall }

/-- 'glossatorlaw1.RelexReference', WHERE WHAT IT READS IS OF BULK AT MOST 1048576: true; the input reads as it did. -/
def relexReferenceUptoRow : OpenClaim := { program := "ytbomilleckgalaagreat", sum := "bca7e6eee8906eb6197b9ac0fb68c55f16657a55bb5b627adaccab8b7d446b4b", func := "glossator/glossatorlaw1.RelexReference", spec := "relexReference", inPlace := ["internal/bytealg.IndexByteString", "internal/bytealg.IndexString", "slices.overlaps[glossator/api.SyntaxTree]", "internal/abi.NoEscape", "internal/bytealg.MakeNoZero"], unfollowed := true, recurses := true, named := ["internal/bytealg.MaxLen"], apart := false, narrowed := true }
def RelexReferenceUptoSaid : Prop := relexReferenceUptoRow.holds Tryz.pinned (OpenSpec.upto relexReferenceSpec)

/-- 'glossatorkeep1.ReparseEqualsParse', WHERE WHAT IT READS IS OF BULK AT MOST 1048576: true; the input reads as it did. -/
def reparseEqualsParseUptoRow : OpenClaim := { program := "ytbomilleckgalaagreat", sum := "bca7e6eee8906eb6197b9ac0fb68c55f16657a55bb5b627adaccab8b7d446b4b", func := "glossator/glossatorkeep1.ReparseEqualsParse", spec := "reparseEqualsParse", inPlace := ["internal/bytealg.IndexByteString", "internal/bytealg.IndexString", "slices.overlaps[glossator/api.SyntaxTree]", "internal/abi.NoEscape", "internal/bytealg.MakeNoZero"], unfollowed := true, recurses := true, named := ["internal/bytealg.MaxLen"], apart := false, narrowed := true }
def ReparseEqualsParseUptoSaid : Prop := reparseEqualsParseUptoRow.holds Tryz.pinned (OpenSpec.upto reparseEqualsParseSpec)

/-- 'glossatorkeep1.ReparseReuses', WHERE WHAT IT READS IS OF BULK AT MOST 1048576: true; the input reads as it did. -/
def reparseReusesUptoRow : OpenClaim := { program := "ytbomilleckgalaagreat", sum := "bca7e6eee8906eb6197b9ac0fb68c55f16657a55bb5b627adaccab8b7d446b4b", func := "glossator/glossatorkeep1.ReparseReuses", spec := "reparseReuses", inPlace := ["internal/bytealg.IndexByteString", "internal/bytealg.IndexString", "slices.overlaps[glossator/api.SyntaxTree]", "internal/abi.NoEscape", "internal/bytealg.MakeNoZero"], unfollowed := true, recurses := true, named := ["internal/bytealg.MaxLen"], apart := false, narrowed := true }
def ReparseReusesUptoSaid : Prop := reparseReusesUptoRow.holds Tryz.pinned (OpenSpec.upto reparseReusesSpec)

/-- 'glossatorkeep1.ReparseErrors', WHERE WHAT IT READS IS OF BULK AT MOST 1048576: true; the input reads as it did. -/
def reparseErrorsUptoRow : OpenClaim := { program := "ytbomilleckgalaagreat", sum := "bca7e6eee8906eb6197b9ac0fb68c55f16657a55bb5b627adaccab8b7d446b4b", func := "glossator/glossatorkeep1.ReparseErrors", spec := "reparseErrors", inPlace := ["internal/bytealg.IndexByteString", "internal/bytealg.IndexString", "slices.overlaps[glossator/api.SyntaxTree]", "internal/abi.NoEscape", "internal/bytealg.MakeNoZero"], unfollowed := true, recurses := true, named := ["internal/bytealg.MaxLen"], apart := false, narrowed := true }
def ReparseErrorsUptoSaid : Prop := reparseErrorsUptoRow.holds Tryz.pinned (OpenSpec.upto reparseErrorsSpec)

end Rows
end Go.Proofs.YtbomilleckgalaaGreat
