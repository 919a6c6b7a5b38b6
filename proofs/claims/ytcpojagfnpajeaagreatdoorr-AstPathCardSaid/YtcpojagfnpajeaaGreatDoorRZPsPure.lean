/-
  The parser as plain functions (no program): what each of its methods does with the children of the innermost node and the tokens that are left.
-/
import Derived.Test.YtcpojagfnpajeaaGreatDoorRZGtPure
import Derived.Test.YtcpojagfnpajeaaGreatDoorRZLxLow
namespace Go.Proofs.YtcpojagfnpajeaaGreatDoorR.Ps
open Go.RowKit

abbrev Tk := Lx.Tk

/-- Neither white space nor a comment. -/
def sigB (t : Tk) : Bool := t.1 != 101 && t.1 != 102
def sigs (ρ : List Tk) : List Tk := ρ.filter sigB
/-- The significant token that n others precede. -/
def pk (ρ : List Tk) (n : Nat) : Tk := ((sigs ρ)[n]?).getD (100, [])

/-- The state: the children of the innermost node, the tokens that are left, whether the last statement was a value. -/
structure S where
  ch : List Tree
  rest : List Tk
  val : Bool

abbrev PA := S → Option S

def LIM : Nat := 1000000

def atB (x : List UInt8) (s : S) : Bool := (pk s.rest 0).2 == x
def atEnd (s : S) : Bool := (sigs s.rest).isEmpty
def atName (s : S) : Bool := (pk s.rest 0).1 == 103

def startsI (x : List UInt8) : Bool := x == [112, 117, 98] || x == [117, 115, 101] || x == [102, 110] || x == [115, 116, 114, 117, 99, 116] || x == [101, 110, 117, 109] || x == [116, 114, 97, 105, 116] || x == [105, 109, 112, 108] || x == [99, 111, 110, 115, 116] || x == [109, 97, 99, 114, 111]
def prec (x : List UInt8) : Nat :=
  if x == [124, 124] then 1 else if x == [38, 38] then 2 else if x == [61, 61] || x == [60] then 3 else if x == [43] || x == [45] then 4 else if x == [42] || x == [47] then 5 else 0

def exprKind (k : Int) : Bool := k == 103 || k == 105 || k == 106
def exprText (x : List UInt8) : Bool :=
  x == [116, 114, 117, 101] || x == [102, 97, 108, 115, 101] || x == [105, 102] || x == [109, 97, 116, 99, 104] || x == [110, 101, 119] || x == [40] || x == [123] || x == [124] || x == [33] || x == [38] || x == [46]
def atExpr (s : S) : Bool := exprKind (pk s.rest 0).1 || exprText (pk s.rest 0).2 || decide (0 < prec (pk s.rest 0).2)
def atType (s : S) : Bool := atB [38] s || atB [102, 110] s || atName s
def atLit (s : S) : Bool := (pk s.rest 0).1 == 105 || atB [116, 114, 117, 101] s || atB [102, 97, 108, 115, 101] s
def atPat (s : S) : Bool := atName s || atB [109, 117, 116] s || atLit s
def atItem (s : S) : Bool := startsI (pk s.rest 0).2

def tokTree (t : Tk) : Tree := .node t.1 (Lx.bs t.2) []
def leaf (k : Int) : Tree := .node k ⟨#[]⟩ []
def inner (k : Int) (c : List Tree) : Tree := .node k ⟨#[]⟩ c

/-- The tokens up to the first significant one, and those behind it. -/
def split : List Tk → Option (List Tk × List Tk)
  | [] => none
  | t :: r => if sigB t then some ([t], r) else (split r).map fun x => (t :: x.1, x.2)

def add (x : Tree) : PA := fun s => if s.ch.length < LIM then some { s with ch := s.ch ++ [x] } else none
def take : PA := fun s => (split s.rest).bind fun x => if s.ch.length + x.1.length < LIM then some { s with ch := s.ch ++ x.1.map tokTree, rest := x.2 } else none
def takeAll : PA := fun s => if s.ch.length + s.rest.length < LIM then some { s with ch := s.ch ++ s.rest.map tokTree, rest := [] } else none
def setVal (b : Bool) : PA := fun s => some { s with val := b }
def missTok : PA := add (leaf 108)
def missing : PA := add (leaf 46)
def addNone : PA := add (leaf 0)
def accept (x : List UInt8) : PA := fun s => if atB x s then take s else some s
def expect (x : List UInt8) : PA := fun s => if atB x s then take s else missTok s
def expName : PA := fun s => if atName s then take s else missTok s

def seq : List PA → PA
  | [] => some
  | a :: l => fun s => (a s).bind (seq l)

theorem seq_some {a : PA} {l : List PA} {s s' : S} (h : seq (a :: l) s = some s') : ∃ m, a s = some m ∧ seq l m = some s' := by
  cases ha : a s with
  | none => simp [seq, ha] at h
  | some m => exact ⟨m, rfl, by simpa [seq, ha] using h⟩
theorem seq_nil {s s' : S} (h : seq [] s = some s') : s' = s := (Option.some.inj h).symm

/-- A node with the children that the action adds. -/
def node (k : Int) (a : PA) : PA := fun s => (a { s with ch := [] }).bind fun s' => if s.ch.length < LIM then some { s' with ch := s.ch ++ [inner k s'.ch] } else none
/-- The last child is replaced by a node with that child and those that the action adds. -/
def wrap (k : Int) (a : PA) : PA := fun s => (s.ch.getLast?).bind fun x => node k (seq [add x, a]) { s with ch := s.ch.dropLast }
/-- Where the next token is x: it and the first action, else the second. -/
def onAcc (x : List UInt8) (a b : PA) : PA := fun s => if atB x s then (take s).bind a else b s
def cond (c : S → Bool) (a b : PA) : PA := fun s => if c s then a s else b s

def memK (s : S) : Int := if (pk s.rest 1).1 == 103 then (if (pk s.rest 2).2 == [40] then 31 else 32) else (if (pk s.rest 1).2 == [40] then 31 else 32)
def insNone (i : Nat) : PA := fun s => if i < s.ch.length ∧ s.ch.length < LIM then some { s with ch := s.ch.take i ++ leaf 0 :: s.ch.drop i } else none

/-- The segments of a path: with type arguments or without. -/
inductive Sg where | seg | tseg
/-- The elements of lists. -/
inductive El where | typ | tparam | field | variant | param | pat | expr | arm | finit

inductive NT where
  | typ | optTyp (x : List UInt8) | typs (cl : List UInt8) | tparams | tparam | bounds | path (g : Sg) | pathLoop (g : Sg) | sg (g : Sg) | list (cl : List UInt8) (e : El)
  | block | blockLoop | stmt | estmt | letS | whileS | returnS | pat | vmatch
  | expr | oper (k : Nat) | operLoop (k : Nat) | unary | posF | postLoop | args | member | prim | pathMac | paren | ifE | matchE | arm | structLit | finit | lambda
  | params (cl : List UInt8) | param
  | useI | useLoop | funcI | sigN | structI | field | enumI | variant | traitI | implI | members | membersLoop | assoc | method | constI | macroI
  | skip | skipLoop | file

def starts : El → S → Bool
  | .typ => atType | .tparam => atName | .field => atName | .variant => atName | .param => atName | .pat => atPat | .expr => atExpr | .arm => atPat | .finit => atName
def elN : El → NT
  | .typ => .typ | .tparam => .tparam | .field => .field | .variant => .variant | .param => .param | .pat => .pat | .expr => .expr | .arm => .arm | .finit => .finit

def goOn (cl : List UInt8) (s : S) : Bool := !atB cl s && !atEnd s && (atB [102, 110] s || !atItem s)
def unexpected : PA := node 46 take
def stmtOn (s : S) : Bool := !atB [125] s && !atEnd s && !atItem s

def itemOf (x : List UInt8) : Option (Int × NT) :=
  if x == [117, 115, 101] then some (2, .useI) else if x == [102, 110] then some (3, .funcI) else if x == [115, 116, 114, 117, 99, 116] then some (4, .structI) else if x == [101, 110, 117, 109] then some (5, .enumI) else
  if x == [116, 114, 97, 105, 116] then some (6, .traitI) else if x == [105, 109, 112, 108] then some (7, .implI) else if x == [99, 111, 110, 115, 116] then some (8, .constI) else if x == [109, 97, 99, 114, 111] then some (9, .macroI) else none
def keyword (s : S) : List UInt8 := if (pk s.rest 0).2 == [112, 117, 98] then (pk s.rest 1).2 else (pk s.rest 0).2

/-- What each method does; r: what the methods that it calls do. -/
def body (r : NT → PA) : NT → PA
  | .typ => cond (atB [38]) (node 19 (seq [take, accept [109, 117, 116], r .typ])) (cond (atB [102, 110]) (node 20 (seq [take, expect [40], r (.typs [41]), r (.optTyp [45, 62])])) (cond atName (r (.path .tseg)) missing))
  | .optTyp x => onAcc x (r .typ) addNone
  | .typs cl => r (.list cl .typ)
  | .tparams => node 10 (onAcc [60] (r (.list [62] .tparam)) some)
  | .tparam => node 11 (seq [expName, onAcc [58] (seq [r (.path .tseg), r .bounds]) some])
  | .bounds => onAcc [43] (seq [r (.path .tseg), r .bounds]) some
  | .path g => node 17 (seq [r (.sg g), r (.pathLoop g)])
  | .pathLoop g => onAcc [58, 58] (seq [r (.sg g), r (.pathLoop g)]) some
  | .sg .seg => node 18 expName
  | .sg .tseg => node 18 (seq [expName, onAcc [60] (r (.typs [62])) some])
  | .list cl e => cond (goOn cl) (seq [cond (starts e) (r (elN e)) unexpected, cond (atB cl) some (expect [44]), r (.list cl e)]) (expect cl)
  | .block => node 21 (seq [expect [123], setVal false, r .blockLoop, cond S.val some addNone, expect [125]])
  | .blockLoop => cond stmtOn (seq [r .stmt, r .blockLoop]) some
  | .stmt => cond (atB [108, 101, 116]) (seq [node 22 (r .letS), setVal false]) (cond (atB [119, 104, 105, 108, 101]) (seq [node 24 (r .whileS), setVal false]) (cond (atB [114, 101, 116, 117, 114, 110]) (seq [node 25 (r .returnS), setVal false])
      (cond (fun s => atB [105, 102] s || atB [109, 97, 116, 99, 104] s || atB [123] s) (seq [r .prim, cond (atB [125]) (setVal true) (seq [wrap 26 (accept [59]), setVal false])])
      (cond atExpr (r .estmt) (seq [unexpected, setVal false])))))
  | .estmt => seq [r .expr, cond (atB [125]) (setVal true) (cond (atB [61]) (seq [wrap 23 (seq [take, r .expr, expect [59]]), setVal false]) (seq [wrap 26 (expect [59]), setVal false]))]
  | .letS => seq [take, r .pat, r (.optTyp [58]), expect [61], r .expr, expect [59]]
  | .whileS => seq [take, r .expr, r .block]
  | .returnS => seq [take, cond atExpr (r .expr) addNone, expect [59]]
  | .pat => cond (atB [95]) (node 43 take) (cond (atB [109, 117, 116]) (node 44 (seq [take, expName])) (cond (fun s => atName s && ((pk s.rest 1).2 == [40] || (pk s.rest 1).2 == [58, 58])) (node 45 (r .vmatch))
      (cond atName (node 44 take) (cond atLit (r .prim) missing))))
  | .vmatch => seq [r (.path .seg), onAcc [40] (r (.list [41] .pat)) some]
  | .expr => r (.oper 1)
  | .oper k => if 5 < k then r .unary else seq [r (.oper (k + 1)), r (.operLoop k)]
  | .operLoop k => cond (fun s => prec (pk s.rest 0).2 == k) (seq [wrap 39 (seq [take, r (.oper (k + 1))]), if k = 3 then some else r (.operLoop k)]) some
  | .unary => cond (fun s => atB [45] s || atB [33] s || atB [42] s) (node 40 (seq [take, r .unary])) (cond (atB [38]) (node 41 (seq [take, accept [109, 117, 116], r .unary])) (r .posF))
  | .posF => seq [r .prim, r .postLoop]
  | .postLoop => cond (atB [40]) (seq [wrap 30 (r .args), r .postLoop]) (cond (atB [46]) (seq [fun s => wrap (memK s) (r .member) s, r .postLoop]) some)
  | .args => seq [take, r (.list [41] .expr)]
  | .member => seq [take, expName, cond (atB [40]) (r .args) some]
  | .prim => cond (fun s => (pk s.rest 0).1 == 103) (r .pathMac) (cond (fun s => (pk s.rest 0).1 == 105) (node 27 take) (cond (fun s => (pk s.rest 0).1 == 106) (node 29 take)
      (cond (fun s => atB [116, 114, 117, 101] s || atB [102, 97, 108, 115, 101] s) (node 28 take) (cond (atB [40]) (node 60 (r .paren)) (cond (atB [123]) (r .block) (cond (atB [105, 102]) (node 37 (r .ifE))
      (cond (atB [109, 97, 116, 99, 104]) (node 35 (r .matchE)) (cond (atB [110, 101, 119]) (node 33 (r .structLit)) (cond (fun s => atB [124] s || atB [124, 124] s) (node 38 (r .lambda)) missing)))))))))
  | .pathMac => seq [r (.path .seg), cond (fun s => atB [33] s && (pk s.rest 1).2 == [40]) (wrap 42 (seq [take, r .args])) some]
  | .paren => seq [take, r .expr, expect [41]]
  | .ifE => seq [take, r .expr, r .block, onAcc [101, 108, 115, 101] (cond (atB [105, 102]) (node 37 (r .ifE)) (r .block)) addNone]
  | .matchE => seq [take, r .expr, expect [123], r (.list [125] .arm)]
  | .arm => node 36 (seq [r .pat, expect [61, 62], r .expr])
  | .structLit => seq [take, r (.path .seg), expect [123], r (.list [125] .finit)]
  | .finit => node 34 (seq [expName, expect [58], r .expr])
  | .lambda => seq [onAcc [124, 124] (add (leaf 12)) (seq [take, r (.params [124])]), r .expr]
  | .params cl => node 12 (r (.list cl .param))
  | .param => node 13 (seq [expName, r (.optTyp [58])])
  | .useI => seq [node 17 (seq [r (.sg .seg), r .useLoop]), onAcc [58, 58] take (onAcc [97, 115] expName some), expect [59]]
  | .useLoop => cond (fun s => atB [58, 58] s && (pk s.rest 1).2 != [42]) (seq [take, r (.sg .seg), r .useLoop]) some
  | .funcI => seq [r .sigN, r .block]
  | .sigN => seq [expName, r .tparams, expect [40], r (.params [41]), r (.optTyp [45, 62])]
  | .structI => seq [expName, r .tparams, expect [123], r (.list [125] .field)]
  | .field => node 14 (seq [expName, expect [58], r .typ])
  | .enumI => seq [expName, r .tparams, expect [123], r (.list [125] .variant)]
  | .variant => node 15 (seq [expName, onAcc [40] (r (.typs [41])) some])
  | .traitI => seq [expName, r .members]
  | .implI => fun s => (r .tparams s).bind fun m => seq [r .typ, onAcc [102, 111, 114] (r .typ) (insNone m.ch.length), r .members] m
  | .members => seq [expect [123], r .membersLoop]
  | .membersLoop => cond (atB [116, 121, 112, 101]) (seq [node 16 (r .assoc), r .membersLoop]) (cond (atB [102, 110]) (seq [node 3 (r .method), r .membersLoop]) (expect [125]))
  | .assoc => seq [take, expName, r (.optTyp [61]), expect [59]]
  | .method => seq [take, r .sigN, onAcc [59] addNone (r .block)]
  | .constI => seq [expName, expect [58], r .typ, expect [61], r .expr, expect [59]]
  | .macroI => seq [expName, expect [40], r (.params [41]), expect [61], r .expr, expect [59]]
  | .skip => seq [take, r .skipLoop]
  | .skipLoop => cond (fun s => !atEnd s && !atItem s) (seq [take, r .skipLoop]) some
  | .file => cond atEnd takeAll (seq [fun s => match itemOf (keyword s) with | none => node 46 (r .skip) s | some x => node x.1 (seq [accept [112, 117, 98], take, r x.2]) s, r .file])

def run : Nat → NT → PA
  | 0, _ => fun _ => none
  | n + 1, nt => body (run n) nt
end Go.Proofs.YtcpojagfnpajeaaGreatDoorR.Ps
