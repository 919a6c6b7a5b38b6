/-
  Abstract syntax as plain functions (no program): nodes, diagnostics, what Parse makes of a syntax tree.
-/
import Derived.Test.YtcpojagfnpajeaaGreatDoorRZPsPure
import Derived.Lib.AtoiAll
namespace Go.Proofs.YtcpojagfnpajeaaGreatDoorR.Ps
open Go.RowKit

/-- A node of the abstract syntax tree. -/
inductive Nd where
  | mk (k v : Int) (t : List UInt8) (s e ns : Int) (c : List Nd)
namespace Nd
def k : Nd → Int | .mk k _ _ _ _ _ _ => k
def v : Nd → Int | .mk _ v _ _ _ _ _ => v
def t : Nd → List UInt8 | .mk _ _ t _ _ _ _ => t
def s : Nd → Int | .mk _ _ _ s _ _ _ => s
def e : Nd → Int | .mk _ _ _ _ e _ _ => e
def ns : Nd → Int | .mk _ _ _ _ _ n _ => n
def c : Nd → List Nd | .mk _ _ _ _ _ _ c => c
end Nd

/-- A diagnostic: its code and its range. -/
structure Dg where
  c : Int
  s : Int
  e : Int
deriving DecidableEq, Inhabited

/-- The value of a string literal, from its byte i on (the last byte is its end), and where its unknown escape sequences are. -/
def unqL : Nat → List UInt8 → List UInt8 × List Nat
  | _, [] => ([], [])
  | _, [_] => ([], [])
  | i, c :: d :: r =>
    if c == 92 then
      let q := unqL (i + 2) r
      if d == 110 then (10 :: q.1, q.2) else if d == 34 || d == 92 then (d :: q.1, q.2) else (d :: q.1, i :: q.2)
    else
      let q := unqL (i + 1) (d :: r)
      (c :: q.1, q.2)
def unq (l : List UInt8) : List UInt8 × List Nat := unqL 1 (l.drop 1)

/-- The number of a sequence of digits, and whether it is not too great. -/
def intV (l : List UInt8) : Int × Bool :=
  match Lib.atoiAll l with
  | .ok v => if 2147483647 < v then (2147483647, false) else (v, true)
  | _ => (2147483647, false)

/-- What is wrong with a token at o. -/
def tokD (k : Int) (t : List UInt8) (o : Nat) : List Dg :=
  if k = 108 then [⟨if t == [] then 1 else 3, o, (o : Int) + t.length⟩]
  else if k = 105 then (if (intV t).2 then [] else [⟨4, o, (o : Int) + t.length⟩])
  else if k = 103 then (if 30 < t.length then [⟨5, o, (o : Int) + t.length⟩] else [])
  else if k = 106 then (unq t).2.map fun (i : Nat) => (⟨6, (o : Int) + (i : Int), (o : Int) + (i : Int) + 2⟩ : Dg)
  else []

def sigT (k : Int) (t : List UInt8) : Bool := k != 101 && k != 102 && t != []

def named (k : Int) : Bool :=
  k == 2 || k == 3 || k == 4 || k == 5 || k == 6 || k == 8 || k == 9 || k == 11 || k == 13 || k == 14 || k == 15 || k == 16 || k == 18 || k == 31 || k == 32 || k == 34 || k == 44

/-- What the fields of a node are while it is built: value (flags), text, range, where the name is, children; whether it covers nothing so far; the offset; the diagnostics. -/
structure Acc where
  v : Int
  t : List UInt8
  s : Int
  e : Int
  ns : Int
  c : List Nd
  em : Bool
  o : Nat
  d : List Dg

def orV (v n : Int) : Int := bits .or .i64 v n
def keyV2 (t : List UInt8) : Nat := if t == [112, 117, 98] then 1 else if t == [109, 117, 116] then 1 else if t == [116, 114, 117, 101] then 1 else 0

/-- What a token at o says about its node. -/
def setF (k tk : Int) (t : List UInt8) (o : Nat) (a : Acc) : Acc :=
  if k = 46 then a
  else if k = 27 then { a with v := (intV t).1 }
  else if k = 29 then { a with t := (unq t).1 }
  else if k = 39 ∨ k = 40 then { a with t := t }
  else if tk = 103 then (if named k && decide (a.ns < 0) then { a with t := t, ns := (o : Int) } else a)
  else if tk = 104 then { a with v := orV a.v ((keyV2 t : Nat) : Int) }
  else if k = 2 ∧ t = [42] then { a with v := orV a.v 2 }
  else a

def cov (s e : Int) (a : Acc) : Acc := { a with s := if a.em then s else a.s, em := false, e := e }

/-- A token is passed. -/
def tokA (k tk : Int) (t : List UInt8) (a : Acc) : Acc :=
  let b : Acc := { a with o := a.o + t.length, d := a.d ++ tokD tk t a.o }
  if sigT tk t then setF k tk t a.o (cov a.o b.o b) else b

def acc0 (o : Nat) : Acc := ⟨0, [], o, o, -1, [], true, o, []⟩
/-- The node of what has been gathered. -/
def ndOf (k : Int) (a : Acc) : Nd :=
  if k = 60 then (match a.c with | x :: _ => .mk x.k x.v x.t a.s a.e x.ns x.c | [] => .mk 0 0 [] 0 0 0 [])
  else .mk k a.v a.t a.s a.e a.ns a.c

mutual
def bldT : Tree → Nat → Nd × Nat × List Dg
  | .node k _ c, o => let a := bldL k c (acc0 o); (ndOf k a, a.o, a.d)
def bldL : Int → List Tree → Acc → Acc
  | _, [], a => a
  | k, x :: r, a => bldL k r (if x.k < 100 then (let q := bldT x a.o; cov q.1.s q.1.e { a with c := a.c ++ [q.1], o := q.2.1, d := a.d ++ q.2.2 }) else tokA k x.k (Lx.L x.t) a)
end

/-- Every parenthesis has an operand. -/
def hasIn : List Tree → Bool
  | [] => false
  | x :: r => decide (x.k < 100) || hasIn r
mutual
def okP : Tree → Bool
  | .node k _ c => (k != 60 || hasIn c) && okPs c
def okPs : List Tree → Bool
  | [] => true
  | x :: r => (decide (100 ≤ x.k) || okP x) && okPs r
end

def cut (src : List UInt8) (a b : Int) : List UInt8 := (src.drop a.toNat).take (b.toNat - a.toNat)
mutual
/-- The texts of the errors are set. -/
def finT (src : List UInt8) : Nd → Nd
  | .mk k v t s e ns c => .mk k v (if k = 46 then cut src s e else t) s e ns (finL src c)
def finL (src : List UInt8) : List Nd → List Nd
  | [] => []
  | x :: r => finT src x :: finL src r
end
mutual
/-- .. and reported. -/
def finD (src : List UInt8) : Nd → List Dg
  | .mk k _ _ s e _ c => finDs src c ++ (if k = 46 then [⟨if cut src s e == [] then 1 else 2, s, e⟩] else [])
def finDs (src : List UInt8) : List Nd → List Dg
  | [] => []
  | x :: r => finD src x ++ finDs src r
end

def ltD (a b : Dg) : Bool := decide (a.s < b.s) || (a.s == b.s && (decide (a.e < b.e) || (a.e == b.e && decide (a.c < b.c))))
/-- Into a sorted list. -/
def insD (d : Dg) : List Dg → List Dg
  | [] => [d]
  | x :: r => if ltD x d then x :: insD d r else d :: x :: r
def isort (l : List Dg) : List Dg := l.foldr insD []
/-- Of equal neighbours one. -/
def compL : List Dg → List Dg
  | [] => []
  | [x] => [x]
  | x :: y :: r => if x = y then compL (y :: r) else x :: compL (y :: r)
def sortD (l : List Dg) : List Dg := compL (isort l)

/-- The abstract syntax tree of a source whose syntax tree is x, and what is wrong with it. -/
def rootOf (src : List UInt8) (x : Tree) : Nd :=
  let q := (bldT x 0).1
  finT src (.mk q.k q.v q.t 0 src.length q.ns q.c)
def diagsOf (src : List UInt8) (x : Tree) : List Dg :=
  let q := bldT x 0
  sortD (q.2.2 ++ finD src (.mk q.1.k q.1.v q.1.t 0 src.length q.1.ns q.1.c))

/-! ### sorting -/

theorem ltD_iff (a b : Dg) : ltD a b = true ↔ a.s < b.s ∨ (a.s = b.s ∧ (a.e < b.e ∨ (a.e = b.e ∧ a.c < b.c))) := by
  unfold ltD; simp
theorem ltD_total {a b : Dg} (h1 : ltD a b = false) (h2 : ltD b a = false) : a = b := by
  have n1 : ¬ (ltD a b = true) := by simp [h1]
  have n2 : ¬ (ltD b a = true) := by simp [h2]
  rw [ltD_iff] at n1 n2
  cases a; cases b
  simp only [Dg.mk.injEq]
  simp only at n1 n2
  omega
/-- No later one is less than an earlier one. -/
def SortedD (l : List Dg) : Prop := l.Pairwise fun a b => ltD b a = false

theorem insD_perm (d : Dg) (l : List Dg) : (insD d l).Perm (d :: l) := by
  induction l with
  | nil => exact List.Perm.refl _
  | cons x r ih =>
    unfold insD
    split
    · exact (ih.cons x).trans (List.Perm.swap d x r)
    · exact List.Perm.refl _
theorem isort_perm (l : List Dg) : (isort l).Perm l := by
  induction l with
  | nil => exact List.Perm.refl _
  | cons x r ih => exact (insD_perm x _).trans (ih.cons x)
theorem ltD_le {a b c : Dg} (h1 : ltD b a = false) (h2 : ltD c b = false) : ltD c a = false := by
  have n1 : ¬ (ltD b a = true) := by simp [h1]
  have n2 : ¬ (ltD c b = true) := by simp [h2]
  rw [ltD_iff] at n1 n2
  cases h : ltD c a with
  | false => rfl
  | true => rw [ltD_iff] at h; omega
theorem ltD_asymm {a b : Dg} (h : ltD a b = true) : ltD b a = false := by
  cases h' : ltD b a with
  | false => rfl
  | true => rw [ltD_iff] at h h'; omega
theorem insD_sorted {d : Dg} {l : List Dg} (h : SortedD l) : SortedD (insD d l) := by
  induction l with
  | nil => exact List.pairwise_singleton _ _
  | cons x r ih =>
    obtain ⟨h1, h2⟩ := List.pairwise_cons.1 h
    unfold insD
    split
    · rename_i hx
      refine List.pairwise_cons.2 ⟨fun y hy => ?_, ih h2⟩
      rcases List.mem_cons.1 ((insD_perm d r).mem_iff.1 hy) with rfl | hy
      · exact ltD_asymm hx
      · exact h1 y hy
    · rename_i hx
      have hx : ltD x d = false := by simpa using hx
      refine List.pairwise_cons.2 ⟨fun y hy => ?_, h⟩
      rcases List.mem_cons.1 hy with rfl | hy
      · exact hx
      · exact ltD_le hx (h1 y hy)
theorem isort_sorted (l : List Dg) : SortedD (isort l) := by
  induction l with
  | nil => exact List.Pairwise.nil
  | cons x r ih => exact insD_sorted ih
theorem sorted_unique : ∀ {a b : List Dg}, a.Perm b → SortedD a → SortedD b → a = b
  | [], b, h, _, _ => (List.Perm.eq_nil h.symm).symm
  | x :: r, [], h, _, _ => by have := List.Perm.eq_nil h; cases this
  | x :: r, y :: q, h, ha, hb => by
    obtain ⟨a1, a2⟩ := List.pairwise_cons.1 ha
    obtain ⟨b1, b2⟩ := List.pairwise_cons.1 hb
    have hxy : x = y := by
      have hx : x ∈ y :: q := h.mem_iff.1 List.mem_cons_self
      have hy : y ∈ x :: r := h.mem_iff.2 List.mem_cons_self
      rcases List.mem_cons.1 hx with e | hx
      · exact e
      · rcases List.mem_cons.1 hy with e | hy
        · exact e.symm
        · exact ltD_total (b1 x hx) (a1 y hy)
    subst hxy
    rw [sorted_unique (List.Perm.cons_inv h) a2 b2]
theorem isort_unique {a l : List Dg} (h : a.Perm l) (hs : SortedD a) : a = isort l := sorted_unique (h.trans (isort_perm l).symm) hs (isort_sorted l)

end Go.Proofs.YtcpojagfnpajeaaGreatDoorR.Ps
