/-
  No cell of these rows narrows 'for every input' (looked for: loops, veiled, ifaces, maps, wideKeys, modest, calm, conditions, laid).
  DERIVED. THE GIVEN ROWS OF THIS SEAT. 5 by the template 'for every input the law returns true; each argument reads behind the call as it read before'; 0 by the template 'total and deterministic' (their statements: YtdmmoknddkfnmaaTotals.lean).
  GIVEN WITH THE SEED: the statements are not yours to turn. If you find one false, say at which input.
  Laid BY PROGRAM, IN A SANDBOX (cutbox-rows.mjs): the forced cells as the released guide's own fill.sh prints them over the translation d1253f10808e7360… (all of the seat's roots in one cut). By AI agents, Wed Nov 11 2026. No macro, syntax, notation, axiom, sorry.
-/
import Derived.Test.YtdmmoknddkfnmaaChecked
import GoSem.Claim
import GoSem.ClaimJoined
import GoSem.ClaimMapViews
import Derived.JoinedTies
import Derived.KernelRfl
namespace Go.Proofs.Ytdmmoknddkfnmaa
/- THE CELL 'sum', in the pinned program and in every row, IS THE sha256 OF THE DUMP (.gsa) THAT YtdmmoknddkfnmaaProg.lean LOADS. Nothing in Lean hashes anything: it is a label: what it is worth is what the hold of that sum in a sandbox is worth. -/
noncomputable def Try.pinned : Pinned := { name := "ytdmmoknddkfnmaa", sum := "d1253f10808e7360651ab7bf4672f31422c7d8dfa80f901fb8b816244f0e8775", checked := Try.checked }
namespace Rows
def none {H : Type} : Left H := { results := [], args := [] }

/-- 'glossatorkeep4.AnchorMapMonotonic': WHATEVER THE INPUT: true; the input reads as it did. -/
def anchorMapMonotonicSpec : ChangeSpec := { name := "anchorMapMonotonic", fn := fun _ => fun
  | [d1, d2, d3, d4] => { results := [.lit (.bool true)], args := [d1, d2, d3, d4] }
  | _ => none }
def anchorMapMonotonicRow : OpenClaim := { program := "ytdmmoknddkfnmaa", sum := "d1253f10808e7360651ab7bf4672f31422c7d8dfa80f901fb8b816244f0e8775", func := "glossator/glossatorkeep4.AnchorMapMonotonic", spec := "anchorMapMonotonic", apart := false }
def AnchorMapMonotonicSaid : Prop := anchorMapMonotonicRow.holds Try.pinned (OpenSpec.ofChange anchorMapMonotonicSpec)

/-- ITS FALSE NEIGHBOUR: 'it returns false'. Refute it at one input. -/
def anchorMapMonotonicWrong : ChangeSpec := { name := "anchorMapMonotonic", fn := fun _ => fun
  | [d1, d2, d3, d4] => { results := [.lit (.bool false)], args := [d1, d2, d3, d4] }
  | _ => none }
def AnchorMapMonotonicWrongFalsely : Prop := anchorMapMonotonicRow.holds Try.pinned (OpenSpec.ofChange anchorMapMonotonicWrong)

/-- 'glossatorkeep4.AnchorRetainedByte': WHATEVER THE INPUT: true; the input reads as it did. -/
def anchorRetainedByteSpec : ChangeSpec := { name := "anchorRetainedByte", fn := fun _ => fun
  | [d1, d2, d3] => { results := [.lit (.bool true)], args := [d1, d2, d3] }
  | _ => none }
def anchorRetainedByteRow : OpenClaim := { program := "ytdmmoknddkfnmaa", sum := "d1253f10808e7360651ab7bf4672f31422c7d8dfa80f901fb8b816244f0e8775", func := "glossator/glossatorkeep4.AnchorRetainedByte", spec := "anchorRetainedByte", inPlace := ["internal/abi.NoEscape"], apart := false }
def AnchorRetainedByteSaid : Prop := anchorRetainedByteRow.holds Try.pinned (OpenSpec.ofChange anchorRetainedByteSpec)

/-- ITS FALSE NEIGHBOUR: 'it returns false'. Refute it at one input. -/
def anchorRetainedByteWrong : ChangeSpec := { name := "anchorRetainedByte", fn := fun _ => fun
  | [d1, d2, d3] => { results := [.lit (.bool false)], args := [d1, d2, d3] }
  | _ => none }
def AnchorRetainedByteWrongFalsely : Prop := anchorRetainedByteRow.holds Try.pinned (OpenSpec.ofChange anchorRetainedByteWrong)

/-- 'glossatorkeep4.AnchorInvertRoundTrip': WHATEVER THE INPUT: true; the input reads as it did. -/
def anchorInvertRoundTripSpec : ChangeSpec := { name := "anchorInvertRoundTrip", fn := fun _ => fun
  | [d1, d2, d3, d4] => { results := [.lit (.bool true)], args := [d1, d2, d3, d4] }
  | _ => none }
def anchorInvertRoundTripRow : OpenClaim := { program := "ytdmmoknddkfnmaa", sum := "d1253f10808e7360651ab7bf4672f31422c7d8dfa80f901fb8b816244f0e8775", func := "glossator/glossatorkeep4.AnchorInvertRoundTrip", spec := "anchorInvertRoundTrip", apart := false }
def AnchorInvertRoundTripSaid : Prop := anchorInvertRoundTripRow.holds Try.pinned (OpenSpec.ofChange anchorInvertRoundTripSpec)

/-- ITS FALSE NEIGHBOUR: 'it returns false'. Refute it at one input. -/
def anchorInvertRoundTripWrong : ChangeSpec := { name := "anchorInvertRoundTrip", fn := fun _ => fun
  | [d1, d2, d3, d4] => { results := [.lit (.bool false)], args := [d1, d2, d3, d4] }
  | _ => none }
def AnchorInvertRoundTripWrongFalsely : Prop := anchorInvertRoundTripRow.holds Try.pinned (OpenSpec.ofChange anchorInvertRoundTripWrong)

/-- 'glossatorkeep4.AnchorComposeAgrees': WHATEVER THE INPUT: true; the input reads as it did. -/
def anchorComposeAgreesSpec : ChangeSpec := { name := "anchorComposeAgrees", fn := fun _ => fun
  | [d1, d2, d3, d4] => { results := [.lit (.bool true)], args := [d1, d2, d3, d4] }
  | _ => none }
def anchorComposeAgreesRow : OpenClaim := { program := "ytdmmoknddkfnmaa", sum := "d1253f10808e7360651ab7bf4672f31422c7d8dfa80f901fb8b816244f0e8775", func := "glossator/glossatorkeep4.AnchorComposeAgrees", spec := "anchorComposeAgrees", inPlace := ["internal/abi.NoEscape"], apart := false }
def AnchorComposeAgreesSaid : Prop := anchorComposeAgreesRow.holds Try.pinned (OpenSpec.ofChange anchorComposeAgreesSpec)

/-- ITS FALSE NEIGHBOUR: 'it returns false'. Refute it at one input. -/
def anchorComposeAgreesWrong : ChangeSpec := { name := "anchorComposeAgrees", fn := fun _ => fun
  | [d1, d2, d3, d4] => { results := [.lit (.bool false)], args := [d1, d2, d3, d4] }
  | _ => none }
def AnchorComposeAgreesWrongFalsely : Prop := anchorComposeAgreesRow.holds Try.pinned (OpenSpec.ofChange anchorComposeAgreesWrong)

/-- 'glossatorlaw4.AnchorMapEqualsReference': WHATEVER THE INPUT: true; the input reads as it did. -/
def anchorMapEqualsReferenceSpec : ChangeSpec := { name := "anchorMapEqualsReference", fn := fun _ => fun
  | [d1, d2, d3, d4, d5] => { results := [.lit (.bool true)], args := [d1, d2, d3, d4, d5] }
  | _ => none }
def anchorMapEqualsReferenceRow : OpenClaim := { program := "ytdmmoknddkfnmaa", sum := "d1253f10808e7360651ab7bf4672f31422c7d8dfa80f901fb8b816244f0e8775", func := "glossator/glossatorlaw4.AnchorMapEqualsReference", spec := "anchorMapEqualsReference", apart := false }
def AnchorMapEqualsReferenceSaid : Prop := anchorMapEqualsReferenceRow.holds Try.pinned (OpenSpec.ofChange anchorMapEqualsReferenceSpec)

/-- ITS FALSE NEIGHBOUR: 'it returns false'. Refute it at one input. -/
def anchorMapEqualsReferenceWrong : ChangeSpec := { name := "anchorMapEqualsReference", fn := fun _ => fun
  | [d1, d2, d3, d4, d5] => { results := [.lit (.bool false)], args := [d1, d2, d3, d4, d5] }
  | _ => none }
def AnchorMapEqualsReferenceWrongFalsely : Prop := anchorMapEqualsReferenceRow.holds Try.pinned (OpenSpec.ofChange anchorMapEqualsReferenceWrong)

/- THE SECOND FORM. 'bulk': how many values and letters a reading holds, each counted each time it is reached (what is shared counts as often as it is met; a slice's spare places count too). A statement '..UptoSaid' is the law's where the arguments, and the package variables that the reading takes, are together of bulk at most 1048576: NARROWER than '..Said'. Prove '..Said' where nothing that the law and all that it calls make is longer than what came in: it says more and counts as full. Else prove '..UptoSaid'. A law counts once. -/
mutual
def uptoBulk {H : Type} : DataW H → Nat
  | .lit (.string bytes) => bytes.length + 1
  | .lit _ => 1
  | .nil => 1
  | .ptr d => uptoBulk d + 1
  | .slice elems spare => uptoBulkAll elems + uptoBulkAll spare + 1
  | .agg parts => uptoBulkAll parts + 1
  | .iface _ d => uptoBulk d + 1
  | .map entries => uptoBulkEntries entries + 1
  | .held _ => 1
def uptoBulkAll {H : Type} : List (DataW H) → Nat
  | [] => 0
  | d :: r => uptoBulk d + uptoBulkAll r
def uptoBulkEntries {H : Type} : List (Lit × DataW H) → Nat
  | [] => 0
  | x :: r => uptoBulkEntry x + uptoBulkEntries r
def uptoBulkEntry {H : Type} : Lit × DataW H → Nat
  | (.string bytes, d) => bytes.length + uptoBulk d + 1
  | (_, d) => uptoBulk d + 1
 end
def uptoSmall : (H : Type) → List (DataW H) → Bool := fun _ ds => decide (uptoBulkAll ds ≤ 1048576)
def OpenSpec.upto (s : _root_.Go.ChangeSpec) : _root_.Go.OpenSpec := { _root_.Go.OpenSpec.ofChange s with cond := some uptoSmall }

/-- 'glossatorkeep4.AnchorMapMonotonic', WHERE WHAT IT READS IS OF BULK AT MOST 1048576: true; the input reads as it did. -/
def anchorMapMonotonicUptoRow : OpenClaim := { program := "ytdmmoknddkfnmaa", sum := "d1253f10808e7360651ab7bf4672f31422c7d8dfa80f901fb8b816244f0e8775", func := "glossator/glossatorkeep4.AnchorMapMonotonic", spec := "anchorMapMonotonic", apart := false, narrowed := true }
def AnchorMapMonotonicUptoSaid : Prop := anchorMapMonotonicUptoRow.holds Try.pinned (OpenSpec.upto anchorMapMonotonicSpec)

/-- 'glossatorkeep4.AnchorRetainedByte', WHERE WHAT IT READS IS OF BULK AT MOST 1048576: true; the input reads as it did. -/
def anchorRetainedByteUptoRow : OpenClaim := { program := "ytdmmoknddkfnmaa", sum := "d1253f10808e7360651ab7bf4672f31422c7d8dfa80f901fb8b816244f0e8775", func := "glossator/glossatorkeep4.AnchorRetainedByte", spec := "anchorRetainedByte", inPlace := ["internal/abi.NoEscape"], apart := false, narrowed := true }
def AnchorRetainedByteUptoSaid : Prop := anchorRetainedByteUptoRow.holds Try.pinned (OpenSpec.upto anchorRetainedByteSpec)

/-- 'glossatorkeep4.AnchorInvertRoundTrip', WHERE WHAT IT READS IS OF BULK AT MOST 1048576: true; the input reads as it did. -/
def anchorInvertRoundTripUptoRow : OpenClaim := { program := "ytdmmoknddkfnmaa", sum := "d1253f10808e7360651ab7bf4672f31422c7d8dfa80f901fb8b816244f0e8775", func := "glossator/glossatorkeep4.AnchorInvertRoundTrip", spec := "anchorInvertRoundTrip", apart := false, narrowed := true }
def AnchorInvertRoundTripUptoSaid : Prop := anchorInvertRoundTripUptoRow.holds Try.pinned (OpenSpec.upto anchorInvertRoundTripSpec)

/-- 'glossatorkeep4.AnchorComposeAgrees', WHERE WHAT IT READS IS OF BULK AT MOST 1048576: true; the input reads as it did. -/
def anchorComposeAgreesUptoRow : OpenClaim := { program := "ytdmmoknddkfnmaa", sum := "d1253f10808e7360651ab7bf4672f31422c7d8dfa80f901fb8b816244f0e8775", func := "glossator/glossatorkeep4.AnchorComposeAgrees", spec := "anchorComposeAgrees", inPlace := ["internal/abi.NoEscape"], apart := false, narrowed := true }
def AnchorComposeAgreesUptoSaid : Prop := anchorComposeAgreesUptoRow.holds Try.pinned (OpenSpec.upto anchorComposeAgreesSpec)

/-- 'glossatorlaw4.AnchorMapEqualsReference', WHERE WHAT IT READS IS OF BULK AT MOST 1048576: true; the input reads as it did. -/
def anchorMapEqualsReferenceUptoRow : OpenClaim := { program := "ytdmmoknddkfnmaa", sum := "d1253f10808e7360651ab7bf4672f31422c7d8dfa80f901fb8b816244f0e8775", func := "glossator/glossatorlaw4.AnchorMapEqualsReference", spec := "anchorMapEqualsReference", apart := false, narrowed := true }
def AnchorMapEqualsReferenceUptoSaid : Prop := anchorMapEqualsReferenceUptoRow.holds Try.pinned (OpenSpec.upto anchorMapEqualsReferenceSpec)

end Rows
end Go.Proofs.Ytdmmoknddkfnmaa
