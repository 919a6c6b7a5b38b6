/-
  Printing as a plain function (no program): the tokens that a node is written with.
-/
import Derived.Test.YtcpojagfnpajeaaGreatDoorRZAsPure
import Derived.Lib.ItoaNum
namespace Go.Proofs.YtcpojagfnpajeaaGreatDoorR.Ps
open Go.RowKit

abbrev Tok := List UInt8

def kAt (c : List Nd) (i : Nat) : Int := match c[i]? with | some x => x.k | none => 0
/-- The tokens of a child: none where it is absent. -/
def partT (c : List Nd) (cs : List (List Tok)) (i : Nat) : List Tok := if kAt c i = 0 then [] else (cs[i]?).getD []
def optT (before : Tok) (c : List Nd) (cs : List (List Tok)) (i : Nat) : List Tok := if kAt c i = 0 then [] else before :: partT c cs i
def groupT (c : List Nd) (cs : List (List Tok)) (i : Nat) (bare : Bool) : List Tok := if bare then partT c cs i else [40] :: (partT c cs i ++ [[41]])
def listT (sep : Tok) : List (List Tok) → List Tok
  | [] => []
  | [x] => x
  | x :: y :: r => x ++ sep :: listT sep (y :: r)
def brackT (op : Tok) (cs : List (List Tok)) (cl : Tok) : List Tok := op :: (listT [44] cs ++ [cl])
def nonT (op : Tok) (cs : List (List Tok)) (cl : Tok) : List Tok := if cs.isEmpty then [] else brackT op cs cl
def mutT (v : Int) : List Tok := if v % 2 = 1 then [[109, 117, 116]] else []
def bareB (k : Int) : Bool := k == 27 || k == 28 || k == 29 || k == 17 || k == 30 || k == 31 || k == 32 || k == 42
def operT (c : List Nd) (cs : List (List Tok)) (i : Nat) : List Tok := groupT c cs i (bareB (kAt c i))
def stmtB (k : Int) : Bool := k == 37 || k == 35 || k == 21
def defT (c : List Nd) (cs : List (List Tok)) : List Tok := [61] :: (partT c cs 1 ++ [[59]])
def memT (cs : List (List Tok)) : List Tok := [123] :: (cs.flatten ++ [[125]])

def quoteL : List UInt8 → List UInt8
  | [] => [34]
  | c :: r => if c == 10 then 92 :: 110 :: quoteL r else if c == 34 || c == 92 then 92 :: c :: quoteL r else c :: quoteL r
def quoteS (l : List UInt8) : Tok := 34 :: quoteL l

def itemT (k v : Int) (t : Tok) (c : List Nd) (cs : List (List Tok)) : List Tok :=
  (if v % 2 = 1 then [[112, 117, 98]] else []) ++
  (if k = 1 then cs.flatten
  else if k = 2 then [117, 115, 101] :: (partT c cs 0 ++ (if (v / 2) % 2 = 1 then [[58, 58], [42]] else []) ++ (if t ≠ [] then [[97, 115], t] else []) ++ [[59]])
  else if k = 3 then [102, 110] :: t :: (partT c cs 0 ++ [40] :: (partT c cs 1 ++ [41] :: (optT [45, 62] c cs 2 ++ (if kAt c 3 = 0 then [[59]] else partT c cs 3))))
  else if k = 4 then [115, 116, 114, 117, 99, 116] :: t :: (partT c cs 0 ++ brackT [123] (cs.drop 1) [125])
  else if k = 5 then [101, 110, 117, 109] :: t :: (partT c cs 0 ++ brackT [123] (cs.drop 1) [125])
  else if k = 6 then [116, 114, 97, 105, 116] :: t :: memT cs
  else if k = 7 then [105, 109, 112, 108] :: (partT c cs 0 ++ (if kAt c 1 = 0 then [] else partT c cs 1 ++ [[102, 111, 114]]) ++ partT c cs 2 ++ memT (cs.drop 3))
  else if k = 8 then [99, 111, 110, 115, 116] :: t :: [58] :: (partT c cs 0 ++ defT c cs)
  else if k = 9 then [109, 97, 99, 114, 111] :: t :: [40] :: (partT c cs 0 ++ [41] :: defT c cs)
  else [])

def ofItemT (k : Int) (t : Tok) (c : List Nd) (cs : List (List Tok)) : List Tok :=
  if k = 10 then nonT [60] cs [62]
  else if k = 11 then t :: ((if c.isEmpty then [] else [[58]]) ++ listT [43] cs)
  else if k = 12 then listT [44] cs
  else if k = 13 then t :: optT [58] c cs 0
  else if k = 14 then t :: [58] :: partT c cs 0
  else if k = 15 then t :: nonT [40] cs [41]
  else if k = 16 then [116, 121, 112, 101] :: t :: (optT [61] c cs 0 ++ [[59]])
  else []

def typeT (k v : Int) (t : Tok) (c : List Nd) (cs : List (List Tok)) : List Tok :=
  if k = 17 then listT [58, 58] cs
  else if k = 18 then t :: nonT [60] cs [62]
  else if k = 19 then [38] :: (mutT v ++ partT c cs 0)
  else if k = 20 then [102, 110] :: (brackT [40] (cs.take (c.length - 1)) [41] ++ optT [45, 62] c cs (c.length - 1))
  else []

def stmtT (k : Int) (c : List Nd) (cs : List (List Tok)) : List Tok :=
  if k = 21 then memT cs
  else if k = 22 then [108, 101, 116] :: (partT c cs 0 ++ optT [58] c cs 1 ++ [61] :: (partT c cs 2 ++ [[59]]))
  else if k = 23 then groupT c cs 0 (!stmtB (kAt c 0)) ++ [61] :: (partT c cs 1 ++ [[59]])
  else if k = 24 then [119, 104, 105, 108, 101] :: cs.flatten
  else if k = 25 then [114, 101, 116, 117, 114, 110] :: (partT c cs 0 ++ [[59]])
  else if k = 26 then partT c cs 0 ++ [[59]]
  else []

def postT (k : Int) (t : Tok) (c : List Nd) (cs : List (List Tok)) : List Tok :=
  (if k = 30 then groupT c cs 0 (bareB (kAt c 0) && kAt c 0 != 32) else if k = 31 ∨ k = 32 then operT c cs 0 ++ [[46], t] else if k = 42 then partT c cs 0 ++ [[33]] else []) ++
  (if k = 32 then [] else brackT [40] (cs.drop 1) [41])

def exprT (k v : Int) (t : Tok) (c : List Nd) (cs : List (List Tok)) : List Tok :=
  if k = 27 then [Lib.itoa v]
  else if k = 28 then [if v = 0 then [102, 97, 108, 115, 101] else [116, 114, 117, 101]]
  else if k = 29 then [quoteS t]
  else if k = 30 ∨ k = 31 ∨ k = 32 ∨ k = 42 then postT k t c cs
  else if k = 33 then [110, 101, 119] :: (partT c cs 0 ++ brackT [123] (cs.drop 1) [125])
  else if k = 34 then t :: [58] :: partT c cs 0
  else if k = 35 then [109, 97, 116, 99, 104] :: (partT c cs 0 ++ brackT [123] (cs.drop 1) [125])
  else if k = 36 then partT c cs 0 ++ [61, 62] :: partT c cs 1
  else if k = 37 then [105, 102] :: (partT c cs 0 ++ partT c cs 1 ++ optT [101, 108, 115, 101] c cs 2)
  else if k = 38 then [124] :: (partT c cs 0 ++ [124] :: partT c cs 1)
  else if k = 39 then operT c cs 0 ++ t :: operT c cs 1
  else if k = 40 then t :: operT c cs 0
  else if k = 41 then [38] :: (mutT v ++ operT c cs 0)
  else []

def patT (k v : Int) (t : Tok) (c : List Nd) (cs : List (List Tok)) : List Tok :=
  if k = 43 then [[95]]
  else if k = 44 then mutT v ++ [t]
  else if k = 45 then partT c cs 0 ++ (if 1 < c.length then brackT [40] (cs.drop 1) [41] else match c with | [y] => (if y.c.length = 1 then [[40], [41]] else []) | _ => [])
  else []

def shapeT (k v : Int) (t : Tok) (c : List Nd) (cs : List (List Tok)) : List Tok :=
  if k ≤ 9 then itemT k v t c cs
  else if k ≤ 16 then ofItemT k t c cs
  else if k ≤ 20 then typeT k v t c cs
  else if k ≤ 26 then stmtT k c cs
  else if k ≤ 42 then exprT k v t c cs
  else patT k v t c cs
mutual
def toks : Nd → List Tok
  | .mk k v t _ _ _ c => shapeT k v t c (tokss c)
def tokss : List Nd → List (List Tok)
  | [] => []
  | x :: r => toks x :: tokss r
end
theorem tokss_map (c : List Nd) : tokss c = c.map toks := by
  induction c with
  | nil => rfl
  | cons x r ih => simp [tokss, ih]

/-- A token is written: behind a space if there is text; not at all if the text is too long already. -/
def putT (text : List UInt8) (x : Tok) : List UInt8 := if 2000 < text.length then text else (if text = [] then [] else text ++ [32]) ++ x
def putTs (text : List UInt8) (l : List Tok) : List UInt8 := l.foldl putT text
theorem putTs_append (text : List UInt8) (a b : List Tok) : putTs text (a ++ b) = putTs (putTs text a) b := List.foldl_append ..
def printed (x : Nd) : List UInt8 := putTs [] (toks x)

mutual
/-- How many nodes, and how deep. -/
def Nd.size : Nd → Nat
  | .mk _ _ _ _ _ _ c => 1 + nsizes c
def nsizes : List Nd → Nat
  | [] => 0
  | x :: r => x.size + nsizes r
end
mutual
def Nd.height : Nd → Nat
  | .mk _ _ _ _ _ _ c => 1 + nheights c
def nheights : List Nd → Nat
  | [] => 0
  | x :: r => max x.height (nheights r)
end
mutual
/-- Alike but for the positions. -/
def eqN : Nd → Nd → Bool
  | .mk k v t _ _ _ c, .mk k' v' t' _ _ _ c' => k == k' && v == v' && t == t' && eqNs c c'
def eqNs : List Nd → List Nd → Bool
  | [], [] => true
  | x :: r, y :: q => eqN x y && eqNs r q
  | _, _ => false
end
end Go.Proofs.YtcpojagfnpajeaaGreatDoorR.Ps
