/-
  NARROWER THAN 'FOR EVERY INPUT', by the rows' own cells (each row's printed sentence says how): PositionReference: laid · PositionRoundTrip: laid · PositionMonotone: laid · PositionLines: laid.
  DERIVED. THE GIVEN ROWS OF THIS SEAT. 4 by the template 'for every input the law returns true; each argument reads behind the call as it read before'; 0 by the template 'total and deterministic' (their statements: YtmdfkahodbfjnaaDoorTotals.lean).
  GIVEN WITH THE SEED: the statements are not yours to turn. If you find one false, say at which input.
  Laid BY PROGRAM, IN A SANDBOX (cutbox-rows.mjs): the forced cells as the released guide's own fill.sh prints them over the translation 811cce0164de3af4… (all of the seat's roots in one cut). By AI agents, Wed Nov 11 2026. No macro, syntax, notation, axiom, sorry.
-/
import Derived.Test.YtmdfkahodbfjnaaDoorChecked
import GoSem.PinnedTables
import GoSem.Claim
import GoSem.ClaimJoined
import GoSem.ClaimMapViews
import Derived.JoinedTies
import Derived.KernelRfl
namespace Go.Proofs.YtmdfkahodbfjnaaDoor
/- THE CELL 'sum', in the pinned program and in every row, IS THE sha256 OF THE DUMP (.gsa) THAT YtmdfkahodbfjnaaDoorProg.lean LOADS. Nothing in Lean hashes anything: it is a label: what it is worth is what the hold of that sum in a sandbox is worth. -/
noncomputable def Tryd.pinned : Pinned := { name := "ytmdfkahodbfjnaadoor", sum := "811cce0164de3af4ea0928ffa220fb99e00edb1f6d0c5bdebae05063b861e776", checked := Tryd.checked }
namespace Rows
def none {H : Type} : Left H := { results := [], args := [] }

/- WHAT THE LISTED PACKAGE-LEVEL VARIABLES READ AS WHEN THE CALL BEGINS. Each datum BY PROGRAM (the guide's laid-datum.mjs) off the statement by which the dump's own 'gosem.cut.vars' lays the variable. In a bare row this is a premise. The card (YtmdfkahodbfjnaaDoorCards.lean) ties it to the program's text. -/
def laid_unicode_utf8_acceptRanges {H : Type} : DataW H := .agg [.agg [.lit (.int .u8 128), .lit (.int .u8 191)], .agg [.lit (.int .u8 160), .lit (.int .u8 191)], .agg [.lit (.int .u8 128), .lit (.int .u8 159)], .agg [.lit (.int .u8 144), .lit (.int .u8 191)], .agg [.lit (.int .u8 128), .lit (.int .u8 143)], .agg [.lit (.int .u8 0), .lit (.int .u8 0)], .agg [.lit (.int .u8 0), .lit (.int .u8 0)], .agg [.lit (.int .u8 0), .lit (.int .u8 0)], .agg [.lit (.int .u8 0), .lit (.int .u8 0)], .agg [.lit (.int .u8 0), .lit (.int .u8 0)], .agg [.lit (.int .u8 0), .lit (.int .u8 0)], .agg [.lit (.int .u8 0), .lit (.int .u8 0)], .agg [.lit (.int .u8 0), .lit (.int .u8 0)], .agg [.lit (.int .u8 0), .lit (.int .u8 0)], .agg [.lit (.int .u8 0), .lit (.int .u8 0)], .agg [.lit (.int .u8 0), .lit (.int .u8 0)]]
/-- One of Go's own tables, pinned by name: the form's constant. -/
def laid_unicode_utf8_first : DataW Unit := Go.Pinned.utf8First

/-- 'glossatorlaw1.PositionReference': WHATEVER THE INPUT: true; the input reads as it did. -/
def positionReferenceSpec : ChangeSpec := { name := "positionReference", fn := fun _ => fun
  | [d1, d2, d3] => { results := [.lit (.bool true)], args := [d1, d2, d3] }
  | _ => none }
def positionReferenceRow : OpenClaim := { program := "ytmdfkahodbfjnaadoor", sum := "811cce0164de3af4ea0928ffa220fb99e00edb1f6d0c5bdebae05063b861e776", func := "glossator/glossatorlaw1.PositionReference", spec := "positionReference", inPlace := ["internal/bytealg.CountString", "internal/bytealg.IndexByteString", "internal/bytealg.IndexString"], unfollowed := true, recurses := true, named := ["internal/bytealg.MaxLen", "unicode/utf8.first", "unicode/utf8.acceptRanges"], apart := false, laid := [("unicode/utf8.acceptRanges", laid_unicode_utf8_acceptRanges), ("unicode/utf8.first", laid_unicode_utf8_first)] }
def PositionReferenceSaid : Prop := positionReferenceRow.holds Tryd.pinned (OpenSpec.ofChange positionReferenceSpec)

/-- ITS FALSE NEIGHBOUR: 'it returns false'. Refute it at one input. -/
def positionReferenceWrong : ChangeSpec := { name := "positionReference", fn := fun _ => fun
  | [d1, d2, d3] => { results := [.lit (.bool false)], args := [d1, d2, d3] }
  | _ => none }
def PositionReferenceWrongFalsely : Prop := positionReferenceRow.holds Tryd.pinned (OpenSpec.ofChange positionReferenceWrong)

/-- 'glossatorkeep1.PositionRoundTrip': WHATEVER THE INPUT: true; the input reads as it did. -/
def positionRoundTripSpec : ChangeSpec := { name := "positionRoundTrip", fn := fun _ => fun
  | [d1, d2] => { results := [.lit (.bool true)], args := [d1, d2] }
  | _ => none }
def positionRoundTripRow : OpenClaim := { program := "ytmdfkahodbfjnaadoor", sum := "811cce0164de3af4ea0928ffa220fb99e00edb1f6d0c5bdebae05063b861e776", func := "glossator/glossatorkeep1.PositionRoundTrip", spec := "positionRoundTrip", inPlace := ["internal/bytealg.CountString", "internal/bytealg.IndexByteString", "internal/bytealg.IndexString"], unfollowed := true, recurses := true, named := ["internal/bytealg.MaxLen", "unicode/utf8.first", "unicode/utf8.acceptRanges"], apart := false, laid := [("unicode/utf8.acceptRanges", laid_unicode_utf8_acceptRanges), ("unicode/utf8.first", laid_unicode_utf8_first)] }
def PositionRoundTripSaid : Prop := positionRoundTripRow.holds Tryd.pinned (OpenSpec.ofChange positionRoundTripSpec)

/-- ITS FALSE NEIGHBOUR: 'it returns false'. Refute it at one input. -/
def positionRoundTripWrong : ChangeSpec := { name := "positionRoundTrip", fn := fun _ => fun
  | [d1, d2] => { results := [.lit (.bool false)], args := [d1, d2] }
  | _ => none }
def PositionRoundTripWrongFalsely : Prop := positionRoundTripRow.holds Tryd.pinned (OpenSpec.ofChange positionRoundTripWrong)

/-- 'glossatorkeep1.PositionMonotone': WHATEVER THE INPUT: true; the input reads as it did. -/
def positionMonotoneSpec : ChangeSpec := { name := "positionMonotone", fn := fun _ => fun
  | [d1, d2, d3] => { results := [.lit (.bool true)], args := [d1, d2, d3] }
  | _ => none }
def positionMonotoneRow : OpenClaim := { program := "ytmdfkahodbfjnaadoor", sum := "811cce0164de3af4ea0928ffa220fb99e00edb1f6d0c5bdebae05063b861e776", func := "glossator/glossatorkeep1.PositionMonotone", spec := "positionMonotone", inPlace := ["internal/bytealg.CountString", "internal/bytealg.IndexByteString", "internal/bytealg.IndexString"], unfollowed := true, recurses := true, named := ["internal/bytealg.MaxLen", "unicode/utf8.first", "unicode/utf8.acceptRanges"], apart := false, laid := [("unicode/utf8.acceptRanges", laid_unicode_utf8_acceptRanges), ("unicode/utf8.first", laid_unicode_utf8_first)] }
def PositionMonotoneSaid : Prop := positionMonotoneRow.holds Tryd.pinned (OpenSpec.ofChange positionMonotoneSpec)

/-- ITS FALSE NEIGHBOUR: 'it returns false'. Refute it at one input. -/
def positionMonotoneWrong : ChangeSpec := { name := "positionMonotone", fn := fun _ => fun
  | [d1, d2, d3] => { results := [.lit (.bool false)], args := [d1, d2, d3] }
  | _ => none }
def PositionMonotoneWrongFalsely : Prop := positionMonotoneRow.holds Tryd.pinned (OpenSpec.ofChange positionMonotoneWrong)

/-- 'glossatorkeep1.PositionLines': WHATEVER THE INPUT: true; the input reads as it did. -/
def positionLinesSpec : ChangeSpec := { name := "positionLines", fn := fun _ => fun
  | [d1, d2] => { results := [.lit (.bool true)], args := [d1, d2] }
  | _ => none }
def positionLinesRow : OpenClaim := { program := "ytmdfkahodbfjnaadoor", sum := "811cce0164de3af4ea0928ffa220fb99e00edb1f6d0c5bdebae05063b861e776", func := "glossator/glossatorkeep1.PositionLines", spec := "positionLines", inPlace := ["internal/bytealg.CountString", "internal/bytealg.IndexByteString", "internal/bytealg.IndexString"], unfollowed := true, recurses := true, named := ["internal/bytealg.MaxLen", "unicode/utf8.first", "unicode/utf8.acceptRanges"], apart := false, laid := [("unicode/utf8.acceptRanges", laid_unicode_utf8_acceptRanges), ("unicode/utf8.first", laid_unicode_utf8_first)] }
def PositionLinesSaid : Prop := positionLinesRow.holds Tryd.pinned (OpenSpec.ofChange positionLinesSpec)

/-- ITS FALSE NEIGHBOUR: 'it returns false'. Refute it at one input. -/
def positionLinesWrong : ChangeSpec := { name := "positionLines", fn := fun _ => fun
  | [d1, d2] => { results := [.lit (.bool false)], args := [d1, d2] }
  | _ => none }
def PositionLinesWrongFalsely : Prop := positionLinesRow.holds Tryd.pinned (OpenSpec.ofChange positionLinesWrong)

/- THE SECOND FORM. 'bulk': how many values and letters a reading holds, each counted each time it is reached (what is shared counts as often as it is met; a slice's spare places count too). A statement '..UptoSaid' is the law's where the arguments, and the package variables that the reading takes, are together of bulk at most 1048576: NARROWER than '..Said'. Prove '..Said' where nothing that the law and all that it calls make is longer than what came in: it says more and counts as full. Else prove '..UptoSaid'. A law counts once. -/
mutual
def uptoBulk {H : Type} : DataW H → Nat
  | .lit (.string bytes) => bytes.length + 1
  | .lit _ => 1
  | .nil => 1
  | .ptr d => uptoBulk d + 1
  | .slice elems spare => uptoBulkAll elems + uptoBulkAll spare + 1
  | .agg parts => uptoBulkAll parts + 1
  | .iface _ d => uptoBulk d + 1
  | .map entries => uptoBulkEntries entries + 1
  | .held _ => 1
def uptoBulkAll {H : Type} : List (DataW H) → Nat
  | [] => 0
  | d :: r => uptoBulk d + uptoBulkAll r
def uptoBulkEntries {H : Type} : List (Lit × DataW H) → Nat
  | [] => 0
  | x :: r => uptoBulkEntry x + uptoBulkEntries r
def uptoBulkEntry {H : Type} : Lit × DataW H → Nat
  | (.string bytes, d) => bytes.length + uptoBulk d + 1
  | (_, d) => uptoBulk d + 1
 end
def uptoSmall : (H : Type) → List (DataW H) → Bool := fun _ ds => decide (uptoBulkAll ds ≤ 1048576)
def OpenSpec.upto (s : _root_.Go.ChangeSpec) : _root_.Go.OpenSpec := { _root_.Go.OpenSpec.ofChange s with cond := some uptoSmall }

/-- 'glossatorlaw1.PositionReference', WHERE WHAT IT READS IS OF BULK AT MOST 1048576: true; the input reads as it did. -/
def positionReferenceUptoRow : OpenClaim := { program := "ytmdfkahodbfjnaadoor", sum := "811cce0164de3af4ea0928ffa220fb99e00edb1f6d0c5bdebae05063b861e776", func := "glossator/glossatorlaw1.PositionReference", spec := "positionReference", inPlace := ["internal/bytealg.CountString", "internal/bytealg.IndexByteString", "internal/bytealg.IndexString"], unfollowed := true, recurses := true, named := ["internal/bytealg.MaxLen", "unicode/utf8.first", "unicode/utf8.acceptRanges"], apart := false, laid := [("unicode/utf8.acceptRanges", laid_unicode_utf8_acceptRanges), ("unicode/utf8.first", laid_unicode_utf8_first)], narrowed := true }
def PositionReferenceUptoSaid : Prop := positionReferenceUptoRow.holds Tryd.pinned (OpenSpec.upto positionReferenceSpec)

/-- 'glossatorkeep1.PositionRoundTrip', WHERE WHAT IT READS IS OF BULK AT MOST 1048576: true; the input reads as it did. -/
def positionRoundTripUptoRow : OpenClaim := { program := "ytmdfkahodbfjnaadoor", sum := "811cce0164de3af4ea0928ffa220fb99e00edb1f6d0c5bdebae05063b861e776", func := "glossator/glossatorkeep1.PositionRoundTrip", spec := "positionRoundTrip", inPlace := ["internal/bytealg.CountString", "internal/bytealg.IndexByteString", "internal/bytealg.IndexString"], unfollowed := true, recurses := true, named := ["internal/bytealg.MaxLen", "unicode/utf8.first", "unicode/utf8.acceptRanges"], apart := false, laid := [("unicode/utf8.acceptRanges", laid_unicode_utf8_acceptRanges), ("unicode/utf8.first", laid_unicode_utf8_first)], narrowed := true }
def PositionRoundTripUptoSaid : Prop := positionRoundTripUptoRow.holds Tryd.pinned (OpenSpec.upto positionRoundTripSpec)

/-- 'glossatorkeep1.PositionMonotone', WHERE WHAT IT READS IS OF BULK AT MOST 1048576: true; the input reads as it did. -/
def positionMonotoneUptoRow : OpenClaim := { program := "ytmdfkahodbfjnaadoor", sum := "811cce0164de3af4ea0928ffa220fb99e00edb1f6d0c5bdebae05063b861e776", func := "glossator/glossatorkeep1.PositionMonotone", spec := "positionMonotone", inPlace := ["internal/bytealg.CountString", "internal/bytealg.IndexByteString", "internal/bytealg.IndexString"], unfollowed := true, recurses := true, named := ["internal/bytealg.MaxLen", "unicode/utf8.first", "unicode/utf8.acceptRanges"], apart := false, laid := [("unicode/utf8.acceptRanges", laid_unicode_utf8_acceptRanges), ("unicode/utf8.first", laid_unicode_utf8_first)], narrowed := true }
def PositionMonotoneUptoSaid : Prop := positionMonotoneUptoRow.holds Tryd.pinned (OpenSpec.upto positionMonotoneSpec)

/-- 'glossatorkeep1.PositionLines', WHERE WHAT IT READS IS OF BULK AT MOST 1048576: true; the input reads as it did. -/
def positionLinesUptoRow : OpenClaim := { program := "ytmdfkahodbfjnaadoor", sum := "811cce0164de3af4ea0928ffa220fb99e00edb1f6d0c5bdebae05063b861e776", func := "glossator/glossatorkeep1.PositionLines", spec := "positionLines", inPlace := ["internal/bytealg.CountString", "internal/bytealg.IndexByteString", "internal/bytealg.IndexString"], unfollowed := true, recurses := true, named := ["internal/bytealg.MaxLen", "unicode/utf8.first", "unicode/utf8.acceptRanges"], apart := false, laid := [("unicode/utf8.acceptRanges", laid_unicode_utf8_acceptRanges), ("unicode/utf8.first", laid_unicode_utf8_first)], narrowed := true }
def PositionLinesUptoSaid : Prop := positionLinesUptoRow.holds Tryd.pinned (OpenSpec.upto positionLinesSpec)

end Rows
end Go.Proofs.YtmdfkahodbfjnaaDoor
