/-
  NARROWER THAN 'FOR EVERY INPUT', by the rows' own cells (each row's printed sentence says how): ParserLossless: laid · ParserResynchronizes: laid · ParserTrivia: laid · TopIncremental: laid · AstReference: laid · AstPrintRoundTrip: loops, laid · AstParsePrint: laid · AstRanges: laid · AstPath: laid · AstStrip: loops, laid · AstQuote: laid.
  DERIVED. THE GIVEN ROWS OF THIS SEAT. 11 by the template 'for every input the law returns true; each argument reads behind the call as it read before'; 0 by the template 'total and deterministic' (their statements: YtcpojagfnpajeaaGreatDoorRTotals.lean).
  GIVEN WITH THE SEED: the statements are not yours to turn. If you find one false, say at which input.
  Laid BY PROGRAM, IN A SANDBOX (cutbox-rows.mjs): the forced cells as the released guide's own fill.sh prints them over the translation f34f7f504a8b4145… (all of the seat's roots in one cut). By AI agents, Wed Nov 11 2026. No macro, syntax, notation, axiom, sorry.
-/
import Derived.Test.YtcpojagfnpajeaaGreatDoorRChecked
import GoSem.Claim
import GoSem.ClaimJoined
import GoSem.ClaimMapViews
import Derived.JoinedTies
import Derived.KernelRfl
namespace Go.Proofs.YtcpojagfnpajeaaGreatDoorR
/- THE CELL 'sum', in the pinned program and in every row, IS THE sha256 OF THE DUMP (.gsa) THAT YtcpojagfnpajeaaGreatDoorRProg.lean LOADS. Nothing in Lean hashes anything: it is a label: what it is worth is what the hold of that sum in a sandbox is worth. -/
noncomputable def Tryz.pinned : Pinned := { name := "ytcpojagfnpajeaagreatdoorr", sum := "f34f7f504a8b41454fae4d9e66226f8f97bbd587e38289d0b33d7b18406d73dd", checked := Tryz.checked }
namespace Rows
def none {H : Type} : Left H := { results := [], args := [] }

/- WHAT THE LISTED PACKAGE-LEVEL VARIABLES READ AS WHEN THE CALL BEGINS. Each datum BY PROGRAM (the guide's laid-datum.mjs) off the statement by which the dump's own 'gosem.cut.vars' lays the variable. In a bare row this is a premise. The card (YtcpojagfnpajeaaGreatDoorRCards.lean) ties it to the program's text. -/
def laid_math_bits_deBruijn32tab {H : Type} : DataW H := .agg [.lit (.int .u8 0), .lit (.int .u8 1), .lit (.int .u8 28), .lit (.int .u8 2), .lit (.int .u8 29), .lit (.int .u8 14), .lit (.int .u8 24), .lit (.int .u8 3), .lit (.int .u8 30), .lit (.int .u8 22), .lit (.int .u8 20), .lit (.int .u8 15), .lit (.int .u8 25), .lit (.int .u8 17), .lit (.int .u8 4), .lit (.int .u8 8), .lit (.int .u8 31), .lit (.int .u8 27), .lit (.int .u8 13), .lit (.int .u8 23), .lit (.int .u8 21), .lit (.int .u8 19), .lit (.int .u8 16), .lit (.int .u8 7), .lit (.int .u8 26), .lit (.int .u8 12), .lit (.int .u8 18), .lit (.int .u8 6), .lit (.int .u8 11), .lit (.int .u8 5), .lit (.int .u8 10), .lit (.int .u8 9)]
def laid_math_bits_deBruijn64tab {H : Type} : DataW H := .agg [.lit (.int .u8 0), .lit (.int .u8 1), .lit (.int .u8 56), .lit (.int .u8 2), .lit (.int .u8 57), .lit (.int .u8 49), .lit (.int .u8 28), .lit (.int .u8 3), .lit (.int .u8 61), .lit (.int .u8 58), .lit (.int .u8 42), .lit (.int .u8 50), .lit (.int .u8 38), .lit (.int .u8 29), .lit (.int .u8 17), .lit (.int .u8 4), .lit (.int .u8 62), .lit (.int .u8 47), .lit (.int .u8 59), .lit (.int .u8 36), .lit (.int .u8 45), .lit (.int .u8 43), .lit (.int .u8 51), .lit (.int .u8 22), .lit (.int .u8 53), .lit (.int .u8 39), .lit (.int .u8 33), .lit (.int .u8 30), .lit (.int .u8 24), .lit (.int .u8 18), .lit (.int .u8 12), .lit (.int .u8 5), .lit (.int .u8 63), .lit (.int .u8 55), .lit (.int .u8 48), .lit (.int .u8 27), .lit (.int .u8 60), .lit (.int .u8 41), .lit (.int .u8 37), .lit (.int .u8 16), .lit (.int .u8 46), .lit (.int .u8 35), .lit (.int .u8 44), .lit (.int .u8 21), .lit (.int .u8 52), .lit (.int .u8 32), .lit (.int .u8 23), .lit (.int .u8 11), .lit (.int .u8 54), .lit (.int .u8 26), .lit (.int .u8 40), .lit (.int .u8 15), .lit (.int .u8 34), .lit (.int .u8 20), .lit (.int .u8 31), .lit (.int .u8 10), .lit (.int .u8 25), .lit (.int .u8 14), .lit (.int .u8 19), .lit (.int .u8 9), .lit (.int .u8 13), .lit (.int .u8 8), .lit (.int .u8 7), .lit (.int .u8 6)]
def laid_internal_strconv_uint64pow10 {H : Type} : DataW H := .agg [.lit (.int .u64 1), .lit (.int .u64 10), .lit (.int .u64 100), .lit (.int .u64 1000), .lit (.int .u64 10000), .lit (.int .u64 100000), .lit (.int .u64 1000000), .lit (.int .u64 10000000), .lit (.int .u64 100000000), .lit (.int .u64 1000000000), .lit (.int .u64 10000000000), .lit (.int .u64 100000000000), .lit (.int .u64 1000000000000), .lit (.int .u64 10000000000000), .lit (.int .u64 100000000000000), .lit (.int .u64 1000000000000000), .lit (.int .u64 10000000000000000), .lit (.int .u64 100000000000000000), .lit (.int .u64 1000000000000000000), .lit (.int .u64 10000000000000000000)]
def laid_strconv_ErrRange {H : Type} : DataW H := .iface "*errors.errorString" (.ptr (.agg [.lit (.string [118, 97, 108, 117, 101, 32, 111, 117, 116, 32, 111, 102, 32, 114, 97, 110, 103, 101])]))
def laid_strconv_ErrSyntax {H : Type} : DataW H := .iface "*errors.errorString" (.ptr (.agg [.lit (.string [105, 110, 118, 97, 108, 105, 100, 32, 115, 121, 110, 116, 97, 120])]))

/-- 'glossatorkeep1.ParserLossless': WHATEVER THE INPUT: true; the input reads as it did. -/
def parserLosslessSpec : ChangeSpec := { name := "parserLossless", fn := fun _ => fun
  | [d] => { results := [.lit (.bool true)], args := [d] }
  | _ => none }
def parserLosslessRow : OpenClaim := { program := "ytcpojagfnpajeaagreatdoorr", sum := "f34f7f504a8b41454fae4d9e66226f8f97bbd587e38289d0b33d7b18406d73dd", func := "glossator/glossatorkeep1.ParserLossless", spec := "parserLossless", inPlace := ["internal/bytealg.IndexByteString", "internal/bytealg.IndexString", "slices.overlaps[glossator/api.SyntaxTree]", "internal/abi.NoEscape", "internal/bytealg.MakeNoZero"], unfollowed := true, recurses := true, named := ["internal/bytealg.MaxLen", "strconv.ErrSyntax", "strconv.ErrRange", "internal/strconv.uint64pow10", "math/bits.deBruijn32tab", "math/bits.deBruijn64tab"], plainKeys := false, apart := false, laid := [("math/bits.deBruijn32tab", laid_math_bits_deBruijn32tab), ("math/bits.deBruijn64tab", laid_math_bits_deBruijn64tab), ("internal/strconv.uint64pow10", laid_internal_strconv_uint64pow10), ("strconv.ErrRange", laid_strconv_ErrRange), ("strconv.ErrSyntax", laid_strconv_ErrSyntax)] }
def ParserLosslessSaid : Prop := parserLosslessRow.holds Tryz.pinned (OpenSpec.ofChange parserLosslessSpec)

/-- ITS FALSE NEIGHBOUR: 'it returns false'. Refute it at one input. -/
def parserLosslessWrong : ChangeSpec := { name := "parserLossless", fn := fun _ => fun
  | [d] => { results := [.lit (.bool false)], args := [d] }
  | _ => none }
def ParserLosslessWrongFalsely : Prop := parserLosslessRow.holds Tryz.pinned (OpenSpec.ofChange parserLosslessWrong)

/-- 'glossatorkeep1.ParserResynchronizes': WHATEVER THE INPUT: true; the input reads as it did. -/
def parserResynchronizesSpec : ChangeSpec := { name := "parserResynchronizes", fn := fun _ => fun
  | [d1, d2] => { results := [.lit (.bool true)], args := [d1, d2] }
  | _ => none }
def parserResynchronizesRow : OpenClaim := { program := "ytcpojagfnpajeaagreatdoorr", sum := "f34f7f504a8b41454fae4d9e66226f8f97bbd587e38289d0b33d7b18406d73dd", func := "glossator/glossatorkeep1.ParserResynchronizes", spec := "parserResynchronizes", inPlace := ["internal/bytealg.IndexByteString", "internal/bytealg.IndexString", "slices.overlaps[glossator/api.SyntaxTree]", "internal/abi.NoEscape"], unfollowed := true, recurses := true, named := ["internal/bytealg.MaxLen", "strconv.ErrSyntax", "strconv.ErrRange", "internal/strconv.uint64pow10", "math/bits.deBruijn32tab", "math/bits.deBruijn64tab"], plainKeys := false, apart := false, laid := [("math/bits.deBruijn32tab", laid_math_bits_deBruijn32tab), ("math/bits.deBruijn64tab", laid_math_bits_deBruijn64tab), ("internal/strconv.uint64pow10", laid_internal_strconv_uint64pow10), ("strconv.ErrRange", laid_strconv_ErrRange), ("strconv.ErrSyntax", laid_strconv_ErrSyntax)] }
def ParserResynchronizesSaid : Prop := parserResynchronizesRow.holds Tryz.pinned (OpenSpec.ofChange parserResynchronizesSpec)

/-- ITS FALSE NEIGHBOUR: 'it returns false'. Refute it at one input. -/
def parserResynchronizesWrong : ChangeSpec := { name := "parserResynchronizes", fn := fun _ => fun
  | [d1, d2] => { results := [.lit (.bool false)], args := [d1, d2] }
  | _ => none }
def ParserResynchronizesWrongFalsely : Prop := parserResynchronizesRow.holds Tryz.pinned (OpenSpec.ofChange parserResynchronizesWrong)

/-- 'glossatorkeep1.ParserTrivia': WHATEVER THE INPUT: true; the input reads as it did. -/
def parserTriviaSpec : ChangeSpec := { name := "parserTrivia", fn := fun _ => fun
  | [d1, d2, d3] => { results := [.lit (.bool true)], args := [d1, d2, d3] }
  | _ => none }
def parserTriviaRow : OpenClaim := { program := "ytcpojagfnpajeaagreatdoorr", sum := "f34f7f504a8b41454fae4d9e66226f8f97bbd587e38289d0b33d7b18406d73dd", func := "glossator/glossatorkeep1.ParserTrivia", spec := "parserTrivia", inPlace := ["internal/bytealg.IndexByteString", "internal/bytealg.IndexString", "slices.overlaps[glossator/api.SyntaxTree]", "internal/abi.NoEscape"], unfollowed := true, recurses := true, named := ["internal/bytealg.MaxLen", "strconv.ErrSyntax", "strconv.ErrRange", "internal/strconv.uint64pow10", "math/bits.deBruijn32tab", "math/bits.deBruijn64tab"], plainKeys := false, apart := false, laid := [("math/bits.deBruijn32tab", laid_math_bits_deBruijn32tab), ("math/bits.deBruijn64tab", laid_math_bits_deBruijn64tab), ("internal/strconv.uint64pow10", laid_internal_strconv_uint64pow10), ("strconv.ErrRange", laid_strconv_ErrRange), ("strconv.ErrSyntax", laid_strconv_ErrSyntax)] }
def ParserTriviaSaid : Prop := parserTriviaRow.holds Tryz.pinned (OpenSpec.ofChange parserTriviaSpec)

/-- ITS FALSE NEIGHBOUR: 'it returns false'. Refute it at one input. -/
def parserTriviaWrong : ChangeSpec := { name := "parserTrivia", fn := fun _ => fun
  | [d1, d2, d3] => { results := [.lit (.bool false)], args := [d1, d2, d3] }
  | _ => none }
def ParserTriviaWrongFalsely : Prop := parserTriviaRow.holds Tryz.pinned (OpenSpec.ofChange parserTriviaWrong)

/-- 'glossatortop.TopIncremental': WHATEVER THE INPUT: true; the input reads as it did. -/
def topIncrementalSpec : ChangeSpec := { name := "topIncremental", fn := fun _ => fun
  | [d1, d2] => { results := [.lit (.bool true)], args := [d1, d2] }
  | _ => none }
def topIncrementalRow : OpenClaim := { program := "ytcpojagfnpajeaagreatdoorr", sum := "f34f7f504a8b41454fae4d9e66226f8f97bbd587e38289d0b33d7b18406d73dd", func := "glossator/glossatortop.TopIncremental", spec := "topIncremental", inPlace := ["internal/abi.NoEscape", "internal/bytealg.MakeNoZero", "internal/bytealg.IndexByteString", "internal/bytealg.IndexString", "slices.overlaps[glossator/api.SyntaxTree]"], unfollowed := true, recurses := true, named := ["internal/bytealg.MaxLen", "strconv.ErrSyntax", "strconv.ErrRange", "internal/strconv.uint64pow10", "math/bits.deBruijn32tab", "math/bits.deBruijn64tab"], plainKeys := false, apart := false, laid := [("math/bits.deBruijn32tab", laid_math_bits_deBruijn32tab), ("math/bits.deBruijn64tab", laid_math_bits_deBruijn64tab), ("internal/strconv.uint64pow10", laid_internal_strconv_uint64pow10), ("strconv.ErrRange", laid_strconv_ErrRange), ("strconv.ErrSyntax", laid_strconv_ErrSyntax)] }
def TopIncrementalSaid : Prop := topIncrementalRow.holds Tryz.pinned (OpenSpec.ofChange topIncrementalSpec)

/-- ITS FALSE NEIGHBOUR: 'it returns false'. Refute it at one input. -/
def topIncrementalWrong : ChangeSpec := { name := "topIncremental", fn := fun _ => fun
  | [d1, d2] => { results := [.lit (.bool false)], args := [d1, d2] }
  | _ => none }
def TopIncrementalWrongFalsely : Prop := topIncrementalRow.holds Tryz.pinned (OpenSpec.ofChange topIncrementalWrong)

/-- 'glossatorlaw1.AstReference': WHATEVER THE INPUT: true; the input reads as it did. -/
def astReferenceSpec : ChangeSpec := { name := "astReference", fn := fun _ => fun
  | [d] => { results := [.lit (.bool true)], args := [d] }
  | _ => none }
def astReferenceRow : OpenClaim := { program := "ytcpojagfnpajeaagreatdoorr", sum := "f34f7f504a8b41454fae4d9e66226f8f97bbd587e38289d0b33d7b18406d73dd", func := "glossator/glossatorlaw1.AstReference", spec := "astReference", inPlace := ["internal/bytealg.IndexByteString", "internal/bytealg.IndexString", "slices.overlaps[glossator/api.SyntaxTree]", "internal/abi.NoEscape", "internal/bytealg.MakeNoZero"], unfollowed := true, recurses := true, named := ["internal/bytealg.MaxLen", "strconv.ErrSyntax", "strconv.ErrRange", "internal/strconv.uint64pow10", "math/bits.deBruijn32tab", "math/bits.deBruijn64tab"], plainKeys := false, apart := false, laid := [("math/bits.deBruijn32tab", laid_math_bits_deBruijn32tab), ("math/bits.deBruijn64tab", laid_math_bits_deBruijn64tab), ("internal/strconv.uint64pow10", laid_internal_strconv_uint64pow10), ("strconv.ErrRange", laid_strconv_ErrRange), ("strconv.ErrSyntax", laid_strconv_ErrSyntax)] }
def AstReferenceSaid : Prop := astReferenceRow.holds Tryz.pinned (OpenSpec.ofChange astReferenceSpec)

/-- ITS FALSE NEIGHBOUR: 'it returns false'. Refute it at one input. -/
def astReferenceWrong : ChangeSpec := { name := "astReference", fn := fun _ => fun
  | [d] => { results := [.lit (.bool false)], args := [d] }
  | _ => none }
def AstReferenceWrongFalsely : Prop := astReferenceRow.holds Tryz.pinned (OpenSpec.ofChange astReferenceWrong)

/-- 'glossatorkeep1.AstPrintRoundTrip': WHATEVER THE INPUT: true; the input reads as it did. -/
def astPrintRoundTripSpec : ChangeSpec := { name := "astPrintRoundTrip", fn := fun _ => fun
  | [d] => { results := [.lit (.bool true)], args := [d] }
  | _ => none }
def astPrintRoundTripRow : OpenClaim := { program := "ytcpojagfnpajeaagreatdoorr", sum := "f34f7f504a8b41454fae4d9e66226f8f97bbd587e38289d0b33d7b18406d73dd", func := "glossator/glossatorkeep1.AstPrintRoundTrip", spec := "astPrintRoundTrip", inPlace := ["internal/bytealg.IndexByteString", "internal/bytealg.IndexString", "slices.overlaps[glossator/api.SyntaxTree]", "internal/abi.NoEscape"], unfollowed := true, recurses := true, named := ["internal/bytealg.MaxLen", "strconv.ErrSyntax", "strconv.ErrRange", "internal/strconv.uint64pow10", "math/bits.deBruijn32tab", "math/bits.deBruijn64tab"], loops := true, plainKeys := false, apart := false, laid := [("math/bits.deBruijn32tab", laid_math_bits_deBruijn32tab), ("math/bits.deBruijn64tab", laid_math_bits_deBruijn64tab), ("internal/strconv.uint64pow10", laid_internal_strconv_uint64pow10), ("strconv.ErrRange", laid_strconv_ErrRange), ("strconv.ErrSyntax", laid_strconv_ErrSyntax)] }
def AstPrintRoundTripSaid : Prop := astPrintRoundTripRow.holds Tryz.pinned (OpenSpec.ofChange astPrintRoundTripSpec)

/-- ITS FALSE NEIGHBOUR: 'it returns false'. Refute it at one input. -/
def astPrintRoundTripWrong : ChangeSpec := { name := "astPrintRoundTrip", fn := fun _ => fun
  | [d] => { results := [.lit (.bool false)], args := [d] }
  | _ => none }
def AstPrintRoundTripWrongFalsely : Prop := astPrintRoundTripRow.holds Tryz.pinned (OpenSpec.ofChange astPrintRoundTripWrong)

/-- 'glossatorkeep1.AstParsePrint': WHATEVER THE INPUT: true; the input reads as it did. -/
def astParsePrintSpec : ChangeSpec := { name := "astParsePrint", fn := fun _ => fun
  | [d] => { results := [.lit (.bool true)], args := [d] }
  | _ => none }
def astParsePrintRow : OpenClaim := { program := "ytcpojagfnpajeaagreatdoorr", sum := "f34f7f504a8b41454fae4d9e66226f8f97bbd587e38289d0b33d7b18406d73dd", func := "glossator/glossatorkeep1.AstParsePrint", spec := "astParsePrint", inPlace := ["internal/bytealg.IndexByteString", "internal/bytealg.IndexString", "slices.overlaps[glossator/api.SyntaxTree]", "internal/abi.NoEscape"], unfollowed := true, recurses := true, named := ["internal/bytealg.MaxLen", "strconv.ErrSyntax", "strconv.ErrRange", "internal/strconv.uint64pow10", "math/bits.deBruijn32tab", "math/bits.deBruijn64tab"], plainKeys := false, apart := false, laid := [("math/bits.deBruijn32tab", laid_math_bits_deBruijn32tab), ("math/bits.deBruijn64tab", laid_math_bits_deBruijn64tab), ("internal/strconv.uint64pow10", laid_internal_strconv_uint64pow10), ("strconv.ErrRange", laid_strconv_ErrRange), ("strconv.ErrSyntax", laid_strconv_ErrSyntax)] }
def AstParsePrintSaid : Prop := astParsePrintRow.holds Tryz.pinned (OpenSpec.ofChange astParsePrintSpec)

/-- ITS FALSE NEIGHBOUR: 'it returns false'. Refute it at one input. -/
def astParsePrintWrong : ChangeSpec := { name := "astParsePrint", fn := fun _ => fun
  | [d] => { results := [.lit (.bool false)], args := [d] }
  | _ => none }
def AstParsePrintWrongFalsely : Prop := astParsePrintRow.holds Tryz.pinned (OpenSpec.ofChange astParsePrintWrong)

/-- 'glossatorkeep1.AstRanges': WHATEVER THE INPUT: true; the input reads as it did. -/
def astRangesSpec : ChangeSpec := { name := "astRanges", fn := fun _ => fun
  | [d] => { results := [.lit (.bool true)], args := [d] }
  | _ => none }
def astRangesRow : OpenClaim := { program := "ytcpojagfnpajeaagreatdoorr", sum := "f34f7f504a8b41454fae4d9e66226f8f97bbd587e38289d0b33d7b18406d73dd", func := "glossator/glossatorkeep1.AstRanges", spec := "astRanges", inPlace := ["internal/bytealg.IndexByteString", "internal/bytealg.IndexString", "slices.overlaps[glossator/api.SyntaxTree]", "internal/abi.NoEscape"], unfollowed := true, recurses := true, named := ["internal/bytealg.MaxLen", "strconv.ErrSyntax", "strconv.ErrRange", "internal/strconv.uint64pow10", "math/bits.deBruijn32tab", "math/bits.deBruijn64tab"], plainKeys := false, apart := false, laid := [("math/bits.deBruijn32tab", laid_math_bits_deBruijn32tab), ("math/bits.deBruijn64tab", laid_math_bits_deBruijn64tab), ("internal/strconv.uint64pow10", laid_internal_strconv_uint64pow10), ("strconv.ErrRange", laid_strconv_ErrRange), ("strconv.ErrSyntax", laid_strconv_ErrSyntax)] }
def AstRangesSaid : Prop := astRangesRow.holds Tryz.pinned (OpenSpec.ofChange astRangesSpec)

/-- ITS FALSE NEIGHBOUR: 'it returns false'. Refute it at one input. -/
def astRangesWrong : ChangeSpec := { name := "astRanges", fn := fun _ => fun
  | [d] => { results := [.lit (.bool false)], args := [d] }
  | _ => none }
def AstRangesWrongFalsely : Prop := astRangesRow.holds Tryz.pinned (OpenSpec.ofChange astRangesWrong)

/-- 'glossatorkeep1.AstPath': WHATEVER THE INPUT: true; the input reads as it did. -/
def astPathSpec : ChangeSpec := { name := "astPath", fn := fun _ => fun
  | [d1, d2] => { results := [.lit (.bool true)], args := [d1, d2] }
  | _ => none }
def astPathRow : OpenClaim := { program := "ytcpojagfnpajeaagreatdoorr", sum := "f34f7f504a8b41454fae4d9e66226f8f97bbd587e38289d0b33d7b18406d73dd", func := "glossator/glossatorkeep1.AstPath", spec := "astPath", inPlace := ["internal/bytealg.IndexByteString", "internal/bytealg.IndexString", "slices.overlaps[glossator/api.SyntaxTree]", "internal/abi.NoEscape"], unfollowed := true, recurses := true, named := ["internal/bytealg.MaxLen", "strconv.ErrSyntax", "strconv.ErrRange", "internal/strconv.uint64pow10", "math/bits.deBruijn32tab", "math/bits.deBruijn64tab"], plainKeys := false, apart := false, laid := [("math/bits.deBruijn32tab", laid_math_bits_deBruijn32tab), ("math/bits.deBruijn64tab", laid_math_bits_deBruijn64tab), ("internal/strconv.uint64pow10", laid_internal_strconv_uint64pow10), ("strconv.ErrRange", laid_strconv_ErrRange), ("strconv.ErrSyntax", laid_strconv_ErrSyntax)] }
def AstPathSaid : Prop := astPathRow.holds Tryz.pinned (OpenSpec.ofChange astPathSpec)

/-- ITS FALSE NEIGHBOUR: 'it returns false'. Refute it at one input. -/
def astPathWrong : ChangeSpec := { name := "astPath", fn := fun _ => fun
  | [d1, d2] => { results := [.lit (.bool false)], args := [d1, d2] }
  | _ => none }
def AstPathWrongFalsely : Prop := astPathRow.holds Tryz.pinned (OpenSpec.ofChange astPathWrong)

/-- 'glossatorkeep1.AstStrip': WHATEVER THE INPUT: true; the input reads as it did. -/
def astStripSpec : ChangeSpec := { name := "astStrip", fn := fun _ => fun
  | [d1, d2] => { results := [.lit (.bool true)], args := [d1, d2] }
  | _ => none }
def astStripRow : OpenClaim := { program := "ytcpojagfnpajeaagreatdoorr", sum := "f34f7f504a8b41454fae4d9e66226f8f97bbd587e38289d0b33d7b18406d73dd", func := "glossator/glossatorkeep1.AstStrip", spec := "astStrip", inPlace := ["internal/bytealg.IndexByteString", "internal/bytealg.IndexString", "slices.overlaps[glossator/api.SyntaxTree]", "internal/abi.NoEscape"], unfollowed := true, recurses := true, named := ["internal/bytealg.MaxLen", "strconv.ErrSyntax", "strconv.ErrRange", "internal/strconv.uint64pow10", "math/bits.deBruijn32tab", "math/bits.deBruijn64tab"], loops := true, plainKeys := false, apart := false, laid := [("math/bits.deBruijn32tab", laid_math_bits_deBruijn32tab), ("math/bits.deBruijn64tab", laid_math_bits_deBruijn64tab), ("internal/strconv.uint64pow10", laid_internal_strconv_uint64pow10), ("strconv.ErrRange", laid_strconv_ErrRange), ("strconv.ErrSyntax", laid_strconv_ErrSyntax)] }
def AstStripSaid : Prop := astStripRow.holds Tryz.pinned (OpenSpec.ofChange astStripSpec)

/-- ITS FALSE NEIGHBOUR: 'it returns false'. Refute it at one input. -/
def astStripWrong : ChangeSpec := { name := "astStrip", fn := fun _ => fun
  | [d1, d2] => { results := [.lit (.bool false)], args := [d1, d2] }
  | _ => none }
def AstStripWrongFalsely : Prop := astStripRow.holds Tryz.pinned (OpenSpec.ofChange astStripWrong)

/-- 'glossatorkeep1.AstQuote': WHATEVER THE INPUT: true; the input reads as it did. -/
def astQuoteSpec : ChangeSpec := { name := "astQuote", fn := fun _ => fun
  | [d] => { results := [.lit (.bool true)], args := [d] }
  | _ => none }
def astQuoteRow : OpenClaim := { program := "ytcpojagfnpajeaagreatdoorr", sum := "f34f7f504a8b41454fae4d9e66226f8f97bbd587e38289d0b33d7b18406d73dd", func := "glossator/glossatorkeep1.AstQuote", spec := "astQuote", inPlace := ["internal/bytealg.IndexByteString", "internal/bytealg.IndexString", "slices.overlaps[glossator/api.SyntaxTree]", "internal/abi.NoEscape"], unfollowed := true, recurses := true, named := ["internal/bytealg.MaxLen", "strconv.ErrSyntax", "strconv.ErrRange", "internal/strconv.uint64pow10", "math/bits.deBruijn32tab", "math/bits.deBruijn64tab"], plainKeys := false, apart := false, laid := [("math/bits.deBruijn32tab", laid_math_bits_deBruijn32tab), ("math/bits.deBruijn64tab", laid_math_bits_deBruijn64tab), ("internal/strconv.uint64pow10", laid_internal_strconv_uint64pow10), ("strconv.ErrRange", laid_strconv_ErrRange), ("strconv.ErrSyntax", laid_strconv_ErrSyntax)] }
def AstQuoteSaid : Prop := astQuoteRow.holds Tryz.pinned (OpenSpec.ofChange astQuoteSpec)

/-- ITS FALSE NEIGHBOUR: 'it returns false'. Refute it at one input. -/
def astQuoteWrong : ChangeSpec := { name := "astQuote", fn := fun _ => fun
  | [d] => { results := [.lit (.bool false)], args := [d] }
  | _ => none }
def AstQuoteWrongFalsely : Prop := astQuoteRow.holds Tryz.pinned (OpenSpec.ofChange astQuoteWrong)

/- THE SECOND FORM. 'bulk': how many values and letters a reading holds, each counted each time it is reached (what is shared counts as often as it is met; a slice's spare places count too). A statement '..UptoSaid' is the law's where the arguments, and the package variables that the reading takes, are together of bulk at most 1048576: NARROWER than '..Said'. Prove '..Said' where nothing that the law and all that it calls make is longer than what came in: it says more and counts as full. Else prove '..UptoSaid'. A law counts once. -/
mutual
def uptoBulk {H : Type} : DataW H → Nat
  | .lit (.string bytes) => bytes.length + 1
  | .lit _ => 1
  | .nil => 1
  | .ptr d => uptoBulk d + 1
  | .slice elems spare => uptoBulkAll elems + uptoBulkAll spare + 1
  | .agg parts => uptoBulkAll parts + 1
  | .iface _ d => uptoBulk d + 1
  | .map entries => uptoBulkEntries entries + 1
  | .held _ => 1
def uptoBulkAll {H : Type} : List (DataW H) → Nat
  | [] => 0
  | d :: r => uptoBulk d + uptoBulkAll r
def uptoBulkEntries {H : Type} : List (Lit × DataW H) → Nat
  | [] => 0
  | x :: r => uptoBulkEntry x + uptoBulkEntries r
def uptoBulkEntry {H : Type} : Lit × DataW H → Nat
  | (.string bytes, d) => bytes.length + uptoBulk d + 1
  | (_, d) => uptoBulk d + 1
 end
def uptoSmall : (H : Type) → List (DataW H) → Bool := fun _ ds => decide (uptoBulkAll ds ≤ 1048576)
def OpenSpec.upto (s : _root_.Go.ChangeSpec) : _root_.Go.OpenSpec := { _root_.Go.OpenSpec.ofChange s with cond := some uptoSmall }

/-- 'glossatorkeep1.ParserLossless', WHERE WHAT IT READS IS OF BULK AT MOST 1048576: true; the input reads as it did. -/
def parserLosslessUptoRow : OpenClaim := { program := "ytcpojagfnpajeaagreatdoorr", sum := "f34f7f504a8b41454fae4d9e66226f8f97bbd587e38289d0b33d7b18406d73dd", func := "glossator/glossatorkeep1.ParserLossless", spec := "parserLossless", inPlace := ["internal/bytealg.IndexByteString", "internal/bytealg.IndexString", "slices.overlaps[glossator/api.SyntaxTree]", "internal/abi.NoEscape", "internal/bytealg.MakeNoZero"], unfollowed := true, recurses := true, named := ["internal/bytealg.MaxLen", "strconv.ErrSyntax", "strconv.ErrRange", "internal/strconv.uint64pow10", "math/bits.deBruijn32tab", "math/bits.deBruijn64tab"], plainKeys := false, apart := false, laid := [("math/bits.deBruijn32tab", laid_math_bits_deBruijn32tab), ("math/bits.deBruijn64tab", laid_math_bits_deBruijn64tab), ("internal/strconv.uint64pow10", laid_internal_strconv_uint64pow10), ("strconv.ErrRange", laid_strconv_ErrRange), ("strconv.ErrSyntax", laid_strconv_ErrSyntax)], narrowed := true }
def ParserLosslessUptoSaid : Prop := parserLosslessUptoRow.holds Tryz.pinned (OpenSpec.upto parserLosslessSpec)

/-- 'glossatorkeep1.ParserResynchronizes', WHERE WHAT IT READS IS OF BULK AT MOST 1048576: true; the input reads as it did. -/
def parserResynchronizesUptoRow : OpenClaim := { program := "ytcpojagfnpajeaagreatdoorr", sum := "f34f7f504a8b41454fae4d9e66226f8f97bbd587e38289d0b33d7b18406d73dd", func := "glossator/glossatorkeep1.ParserResynchronizes", spec := "parserResynchronizes", inPlace := ["internal/bytealg.IndexByteString", "internal/bytealg.IndexString", "slices.overlaps[glossator/api.SyntaxTree]", "internal/abi.NoEscape"], unfollowed := true, recurses := true, named := ["internal/bytealg.MaxLen", "strconv.ErrSyntax", "strconv.ErrRange", "internal/strconv.uint64pow10", "math/bits.deBruijn32tab", "math/bits.deBruijn64tab"], plainKeys := false, apart := false, laid := [("math/bits.deBruijn32tab", laid_math_bits_deBruijn32tab), ("math/bits.deBruijn64tab", laid_math_bits_deBruijn64tab), ("internal/strconv.uint64pow10", laid_internal_strconv_uint64pow10), ("strconv.ErrRange", laid_strconv_ErrRange), ("strconv.ErrSyntax", laid_strconv_ErrSyntax)], narrowed := true }
def ParserResynchronizesUptoSaid : Prop := parserResynchronizesUptoRow.holds Tryz.pinned (OpenSpec.upto parserResynchronizesSpec)

/-- 'glossatorkeep1.ParserTrivia', WHERE WHAT IT READS IS OF BULK AT MOST 1048576: true; the input reads as it did. -/
def parserTriviaUptoRow : OpenClaim := { program := "ytcpojagfnpajeaagreatdoorr", sum := "f34f7f504a8b41454fae4d9e66226f8f97bbd587e38289d0b33d7b18406d73dd", func := "glossator/glossatorkeep1.ParserTrivia", spec := "parserTrivia", inPlace := ["internal/bytealg.IndexByteString", "internal/bytealg.IndexString", "slices.overlaps[glossator/api.SyntaxTree]", "internal/abi.NoEscape"], unfollowed := true, recurses := true, named := ["internal/bytealg.MaxLen", "strconv.ErrSyntax", "strconv.ErrRange", "internal/strconv.uint64pow10", "math/bits.deBruijn32tab", "math/bits.deBruijn64tab"], plainKeys := false, apart := false, laid := [("math/bits.deBruijn32tab", laid_math_bits_deBruijn32tab), ("math/bits.deBruijn64tab", laid_math_bits_deBruijn64tab), ("internal/strconv.uint64pow10", laid_internal_strconv_uint64pow10), ("strconv.ErrRange", laid_strconv_ErrRange), ("strconv.ErrSyntax", laid_strconv_ErrSyntax)], narrowed := true }
def ParserTriviaUptoSaid : Prop := parserTriviaUptoRow.holds Tryz.pinned (OpenSpec.upto parserTriviaSpec)

/-- 'glossatortop.TopIncremental', WHERE WHAT IT READS IS OF BULK AT MOST 1048576: true; the input reads as it did. -/
def topIncrementalUptoRow : OpenClaim := { program := "ytcpojagfnpajeaagreatdoorr", sum := "f34f7f504a8b41454fae4d9e66226f8f97bbd587e38289d0b33d7b18406d73dd", func := "glossator/glossatortop.TopIncremental", spec := "topIncremental", inPlace := ["internal/abi.NoEscape", "internal/bytealg.MakeNoZero", "internal/bytealg.IndexByteString", "internal/bytealg.IndexString", "slices.overlaps[glossator/api.SyntaxTree]"], unfollowed := true, recurses := true, named := ["internal/bytealg.MaxLen", "strconv.ErrSyntax", "strconv.ErrRange", "internal/strconv.uint64pow10", "math/bits.deBruijn32tab", "math/bits.deBruijn64tab"], plainKeys := false, apart := false, laid := [("math/bits.deBruijn32tab", laid_math_bits_deBruijn32tab), ("math/bits.deBruijn64tab", laid_math_bits_deBruijn64tab), ("internal/strconv.uint64pow10", laid_internal_strconv_uint64pow10), ("strconv.ErrRange", laid_strconv_ErrRange), ("strconv.ErrSyntax", laid_strconv_ErrSyntax)], narrowed := true }
def TopIncrementalUptoSaid : Prop := topIncrementalUptoRow.holds Tryz.pinned (OpenSpec.upto topIncrementalSpec)

/-- 'glossatorlaw1.AstReference', WHERE WHAT IT READS IS OF BULK AT MOST 1048576: true; the input reads as it did. -/
def astReferenceUptoRow : OpenClaim := { program := "ytcpojagfnpajeaagreatdoorr", sum := "f34f7f504a8b41454fae4d9e66226f8f97bbd587e38289d0b33d7b18406d73dd", func := "glossator/glossatorlaw1.AstReference", spec := "astReference", inPlace := ["internal/bytealg.IndexByteString", "internal/bytealg.IndexString", "slices.overlaps[glossator/api.SyntaxTree]", "internal/abi.NoEscape", "internal/bytealg.MakeNoZero"], unfollowed := true, recurses := true, named := ["internal/bytealg.MaxLen", "strconv.ErrSyntax", "strconv.ErrRange", "internal/strconv.uint64pow10", "math/bits.deBruijn32tab", "math/bits.deBruijn64tab"], plainKeys := false, apart := false, laid := [("math/bits.deBruijn32tab", laid_math_bits_deBruijn32tab), ("math/bits.deBruijn64tab", laid_math_bits_deBruijn64tab), ("internal/strconv.uint64pow10", laid_internal_strconv_uint64pow10), ("strconv.ErrRange", laid_strconv_ErrRange), ("strconv.ErrSyntax", laid_strconv_ErrSyntax)], narrowed := true }
def AstReferenceUptoSaid : Prop := astReferenceUptoRow.holds Tryz.pinned (OpenSpec.upto astReferenceSpec)

/-- 'glossatorkeep1.AstPrintRoundTrip', WHERE WHAT IT READS IS OF BULK AT MOST 1048576: true; the input reads as it did. -/
def astPrintRoundTripUptoRow : OpenClaim := { program := "ytcpojagfnpajeaagreatdoorr", sum := "f34f7f504a8b41454fae4d9e66226f8f97bbd587e38289d0b33d7b18406d73dd", func := "glossator/glossatorkeep1.AstPrintRoundTrip", spec := "astPrintRoundTrip", inPlace := ["internal/bytealg.IndexByteString", "internal/bytealg.IndexString", "slices.overlaps[glossator/api.SyntaxTree]", "internal/abi.NoEscape"], unfollowed := true, recurses := true, named := ["internal/bytealg.MaxLen", "strconv.ErrSyntax", "strconv.ErrRange", "internal/strconv.uint64pow10", "math/bits.deBruijn32tab", "math/bits.deBruijn64tab"], loops := true, plainKeys := false, apart := false, laid := [("math/bits.deBruijn32tab", laid_math_bits_deBruijn32tab), ("math/bits.deBruijn64tab", laid_math_bits_deBruijn64tab), ("internal/strconv.uint64pow10", laid_internal_strconv_uint64pow10), ("strconv.ErrRange", laid_strconv_ErrRange), ("strconv.ErrSyntax", laid_strconv_ErrSyntax)], narrowed := true }
def AstPrintRoundTripUptoSaid : Prop := astPrintRoundTripUptoRow.holds Tryz.pinned (OpenSpec.upto astPrintRoundTripSpec)

/-- 'glossatorkeep1.AstParsePrint', WHERE WHAT IT READS IS OF BULK AT MOST 1048576: true; the input reads as it did. -/
def astParsePrintUptoRow : OpenClaim := { program := "ytcpojagfnpajeaagreatdoorr", sum := "f34f7f504a8b41454fae4d9e66226f8f97bbd587e38289d0b33d7b18406d73dd", func := "glossator/glossatorkeep1.AstParsePrint", spec := "astParsePrint", inPlace := ["internal/bytealg.IndexByteString", "internal/bytealg.IndexString", "slices.overlaps[glossator/api.SyntaxTree]", "internal/abi.NoEscape"], unfollowed := true, recurses := true, named := ["internal/bytealg.MaxLen", "strconv.ErrSyntax", "strconv.ErrRange", "internal/strconv.uint64pow10", "math/bits.deBruijn32tab", "math/bits.deBruijn64tab"], plainKeys := false, apart := false, laid := [("math/bits.deBruijn32tab", laid_math_bits_deBruijn32tab), ("math/bits.deBruijn64tab", laid_math_bits_deBruijn64tab), ("internal/strconv.uint64pow10", laid_internal_strconv_uint64pow10), ("strconv.ErrRange", laid_strconv_ErrRange), ("strconv.ErrSyntax", laid_strconv_ErrSyntax)], narrowed := true }
def AstParsePrintUptoSaid : Prop := astParsePrintUptoRow.holds Tryz.pinned (OpenSpec.upto astParsePrintSpec)

/-- 'glossatorkeep1.AstRanges', WHERE WHAT IT READS IS OF BULK AT MOST 1048576: true; the input reads as it did. -/
def astRangesUptoRow : OpenClaim := { program := "ytcpojagfnpajeaagreatdoorr", sum := "f34f7f504a8b41454fae4d9e66226f8f97bbd587e38289d0b33d7b18406d73dd", func := "glossator/glossatorkeep1.AstRanges", spec := "astRanges", inPlace := ["internal/bytealg.IndexByteString", "internal/bytealg.IndexString", "slices.overlaps[glossator/api.SyntaxTree]", "internal/abi.NoEscape"], unfollowed := true, recurses := true, named := ["internal/bytealg.MaxLen", "strconv.ErrSyntax", "strconv.ErrRange", "internal/strconv.uint64pow10", "math/bits.deBruijn32tab", "math/bits.deBruijn64tab"], plainKeys := false, apart := false, laid := [("math/bits.deBruijn32tab", laid_math_bits_deBruijn32tab), ("math/bits.deBruijn64tab", laid_math_bits_deBruijn64tab), ("internal/strconv.uint64pow10", laid_internal_strconv_uint64pow10), ("strconv.ErrRange", laid_strconv_ErrRange), ("strconv.ErrSyntax", laid_strconv_ErrSyntax)], narrowed := true }
def AstRangesUptoSaid : Prop := astRangesUptoRow.holds Tryz.pinned (OpenSpec.upto astRangesSpec)

/-- 'glossatorkeep1.AstPath', WHERE WHAT IT READS IS OF BULK AT MOST 1048576: true; the input reads as it did. -/
def astPathUptoRow : OpenClaim := { program := "ytcpojagfnpajeaagreatdoorr", sum := "f34f7f504a8b41454fae4d9e66226f8f97bbd587e38289d0b33d7b18406d73dd", func := "glossator/glossatorkeep1.AstPath", spec := "astPath", inPlace := ["internal/bytealg.IndexByteString", "internal/bytealg.IndexString", "slices.overlaps[glossator/api.SyntaxTree]", "internal/abi.NoEscape"], unfollowed := true, recurses := true, named := ["internal/bytealg.MaxLen", "strconv.ErrSyntax", "strconv.ErrRange", "internal/strconv.uint64pow10", "math/bits.deBruijn32tab", "math/bits.deBruijn64tab"], plainKeys := false, apart := false, laid := [("math/bits.deBruijn32tab", laid_math_bits_deBruijn32tab), ("math/bits.deBruijn64tab", laid_math_bits_deBruijn64tab), ("internal/strconv.uint64pow10", laid_internal_strconv_uint64pow10), ("strconv.ErrRange", laid_strconv_ErrRange), ("strconv.ErrSyntax", laid_strconv_ErrSyntax)], narrowed := true }
def AstPathUptoSaid : Prop := astPathUptoRow.holds Tryz.pinned (OpenSpec.upto astPathSpec)

/-- 'glossatorkeep1.AstStrip', WHERE WHAT IT READS IS OF BULK AT MOST 1048576: true; the input reads as it did. -/
def astStripUptoRow : OpenClaim := { program := "ytcpojagfnpajeaagreatdoorr", sum := "f34f7f504a8b41454fae4d9e66226f8f97bbd587e38289d0b33d7b18406d73dd", func := "glossator/glossatorkeep1.AstStrip", spec := "astStrip", inPlace := ["internal/bytealg.IndexByteString", "internal/bytealg.IndexString", "slices.overlaps[glossator/api.SyntaxTree]", "internal/abi.NoEscape"], unfollowed := true, recurses := true, named := ["internal/bytealg.MaxLen", "strconv.ErrSyntax", "strconv.ErrRange", "internal/strconv.uint64pow10", "math/bits.deBruijn32tab", "math/bits.deBruijn64tab"], loops := true, plainKeys := false, apart := false, laid := [("math/bits.deBruijn32tab", laid_math_bits_deBruijn32tab), ("math/bits.deBruijn64tab", laid_math_bits_deBruijn64tab), ("internal/strconv.uint64pow10", laid_internal_strconv_uint64pow10), ("strconv.ErrRange", laid_strconv_ErrRange), ("strconv.ErrSyntax", laid_strconv_ErrSyntax)], narrowed := true }
def AstStripUptoSaid : Prop := astStripUptoRow.holds Tryz.pinned (OpenSpec.upto astStripSpec)

/-- 'glossatorkeep1.AstQuote', WHERE WHAT IT READS IS OF BULK AT MOST 1048576: true; the input reads as it did. -/
def astQuoteUptoRow : OpenClaim := { program := "ytcpojagfnpajeaagreatdoorr", sum := "f34f7f504a8b41454fae4d9e66226f8f97bbd587e38289d0b33d7b18406d73dd", func := "glossator/glossatorkeep1.AstQuote", spec := "astQuote", inPlace := ["internal/bytealg.IndexByteString", "internal/bytealg.IndexString", "slices.overlaps[glossator/api.SyntaxTree]", "internal/abi.NoEscape"], unfollowed := true, recurses := true, named := ["internal/bytealg.MaxLen", "strconv.ErrSyntax", "strconv.ErrRange", "internal/strconv.uint64pow10", "math/bits.deBruijn32tab", "math/bits.deBruijn64tab"], plainKeys := false, apart := false, laid := [("math/bits.deBruijn32tab", laid_math_bits_deBruijn32tab), ("math/bits.deBruijn64tab", laid_math_bits_deBruijn64tab), ("internal/strconv.uint64pow10", laid_internal_strconv_uint64pow10), ("strconv.ErrRange", laid_strconv_ErrRange), ("strconv.ErrSyntax", laid_strconv_ErrSyntax)], narrowed := true }
def AstQuoteUptoSaid : Prop := astQuoteUptoRow.holds Tryz.pinned (OpenSpec.upto astQuoteSpec)

end Rows
end Go.Proofs.YtcpojagfnpajeaaGreatDoorR
