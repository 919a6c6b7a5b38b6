/-
  The plain parser loses nothing: the source of its children and of the tokens that are left stays the same (no program).
-/
import Derived.Test.YtbomilleckgalaaGreatRpLoc2
import Derived.Test.YtbomilleckgalaaGreatPsEnds
namespace Go.Proofs.YtbomilleckgalaaGreat.Ps
open Go.RowKit

mutual
/-- The source of a tree: the texts of its tokens. -/
def srcT : Tree → List UInt8
  | .node k t c => (if k < 100 then [] else Lx.L t) ++ srcs c
def srcs : List Tree → List UInt8
  | [] => []
  | x :: r => srcT x ++ srcs r
end
def tokB (t : Tk) : List UInt8 := if t.1 < 100 then [] else t.2
def bytes (ρ : List Tk) : List UInt8 := ρ.flatMap tokB

theorem srcs_append (a b : List Tree) : srcs (a ++ b) = srcs a ++ srcs b := by
  induction a with
  | nil => simp [srcs]
  | cons x r ih => simp [srcs, ih]
theorem bytes_append (a b : List Tk) : bytes (a ++ b) = bytes a ++ bytes b := List.flatMap_append ..
theorem srcT_tok (t : Tk) : srcT (tokTree t) = tokB t := by
  unfold tokTree srcT tokB
  simp [srcs, Lx.L_bs]
theorem srcs_toks (l : List Tk) : srcs (l.map tokTree) = bytes l := by
  induction l with
  | nil => rfl
  | cons t r ih => simp only [List.map_cons, srcs, srcT_tok, ih]; rfl
theorem srcT_inner {k : Int} (hk : k < 100) (c : List Tree) : srcT (inner k c) = srcs c := by
  unfold inner srcT
  simp [hk]
theorem srcT_leaf (k : Int) : srcT (leaf k) = [] := by
  unfold leaf srcT
  simp [srcs, Lx.L]
theorem srcT_eq (x : Tree) : srcT x = (if x.k < 100 then [] else Lx.L x.t) ++ srcs x.c := by cases x; rfl

/-- Nothing is lost. -/
def Cs (a : PA) : Prop := ∀ s s', a s = some s' → srcs s'.ch ++ bytes s'.rest = srcs s.ch ++ bytes s.rest

theorem Cs.nil : Cs (seq []) := fun s s' h => by cases h; rfl
theorem Cs.some : Cs some := Cs.nil
theorem Cs.cons {a : PA} {l : List PA} (h1 : Cs a) (h2 : Cs (seq l)) : Cs (seq (a :: l)) := by
  intro s s' h
  obtain ⟨m, p, q⟩ := seq_some h
  rw [h2 m s' q, h1 s m p]
theorem Cs.cond {c : S → Bool} {a b : PA} (h1 : Cs a) (h2 : Cs b) : Cs (Ps.cond c a b) := by
  intro s s' h
  unfold Ps.cond at h
  split at h
  · exact h1 s s' h
  · exact h2 s s' h
theorem Cs.bind {a b : PA} (h1 : Cs a) (h2 : Cs b) : Cs (fun s => (a s).bind b) := by
  intro s s' h
  cases ha : a s with
  | none => simp [ha] at h
  | some m =>
    simp only [ha, Option.bind_some] at h
    rw [h2 m s' h, h1 s m ha]
theorem Cs.add {x : Tree} (hx : srcT x = []) : Cs (Ps.add x) := by
  intro s s' h
  unfold Ps.add at h
  split at h
  · cases h; simp [srcs_append, srcs, hx]
  · cases h
theorem Cs.take : Cs Ps.take := by
  intro s s' h
  obtain ⟨a, r, h1, _, rfl⟩ := take_is h
  rw [(split_parts h1).1]
  simp [srcs_append, srcs_toks, bytes_append]
theorem Cs.takeAll : Cs Ps.takeAll := by
  intro s s' h
  unfold Ps.takeAll at h
  split at h
  · cases h; simp [srcs_append, srcs_toks, bytes]
  · cases h
theorem Cs.setv (b : Bool) : Cs (setVal b) := fun s s' h => by cases h; rfl
theorem Cs.accept (x : List UInt8) : Cs (Ps.accept x) := Cs.cond Cs.take Cs.nil
theorem Cs.expect (x : List UInt8) : Cs (Ps.expect x) := Cs.cond Cs.take (Cs.add (srcT_leaf _))
theorem Cs.expName : Cs Ps.expName := Cs.cond Cs.take (Cs.add (srcT_leaf _))
theorem Cs.onAcc (x : List UInt8) {a b : PA} (h1 : Cs a) (h2 : Cs b) : Cs (Ps.onAcc x a b) := Cs.cond (Cs.bind Cs.take h1) h2
theorem Cs.node {k : Int} (hk : k < 100) {a : PA} (h : Cs a) : Cs (Ps.node k a) := by
  intro s s' hs
  unfold Ps.node at hs
  cases ha : a { s with ch := [] } with
  | none => simp [ha] at hs
  | some m =>
    simp only [ha, Option.bind_some] at hs
    split at hs
    · cases hs
      have h1 := h _ m ha
      simp only [srcs, List.nil_append] at h1
      simp only [srcs_append, srcs, srcT_inner hk, List.append_nil, List.append_assoc]
      rw [h1]
    · cases hs
theorem Cs.wrap {k : Int} (hk : k < 100) {a : PA} (h : Cs a) : Cs (Ps.wrap k a) := by
  intro s s' hs
  unfold Ps.wrap at hs
  cases hx : s.ch.getLast? with
  | none => simp [hx] at hs
  | some x =>
    simp only [hx, Option.bind_some] at hs
    have hch : s.ch = s.ch.dropLast ++ [x] := by
      have hne : s.ch ≠ [] := fun e => by rw [e] at hx; cases hx
      rw [List.getLast?_eq_some_getLast hne] at hx
      rw [← Option.some.inj hx]
      exact (List.dropLast_concat_getLast hne).symm
    unfold Ps.node at hs
    cases ha : seq [Ps.add x, a] { s with ch := [] } with
    | none => simp [ha] at hs
    | some m =>
      simp only [ha, Option.bind_some] at hs
      split at hs
      · cases hs
        obtain ⟨m1, p1, p2⟩ := seq_some ha
        obtain ⟨m2, p3, p4⟩ := seq_some p2
        have := seq_nil p4
        subst this
        unfold Ps.add at p1
        split at p1
        · cases p1
          have h1 := h _ m p3
          simp only [srcs, List.nil_append, List.append_nil] at h1
          simp only [srcs_append, srcs, srcT_inner hk, List.append_nil, List.append_assoc]
          rw [h1, hch]
          simp [srcs_append, srcs]
        · cases p1
      · cases hs
theorem Cs.insNone (i : Nat) : Cs (Ps.insNone i) := by
  intro s s' h
  unfold Ps.insNone at h
  split at h
  · cases h
    simp only [srcs_append, srcs, srcT_leaf, List.nil_append]
    rw [← srcs_append, List.take_append_drop]
  · cases h

theorem itemOf_kind {x : List UInt8} {p : Int × NT} (h : itemOf x = some p) : p.1 < 100 ∧ p.2 ≠ .file := by
  unfold itemOf at h
  (repeat' split at h) <;> first | (cases h; exact ⟨by decide, by intro q; cases q⟩) | cases h

/-- An item of a file. -/
def itemA (r : NT → PA) : PA := fun s => match itemOf (keyword s) with | none => node 46 (r .skip) s | some x => node x.1 (seq [Ps.accept [112, 117, 98], Ps.take, r x.2]) s

section
variable {r : NT → PA}
theorem itemA_cs (h : ∀ nt, Cs (r nt)) : Cs (itemA r) := by
  intro s s' hs
  unfold itemA at hs
  split at hs
  · exact Cs.node (by decide) (h _) s s' hs
  · rename_i x hx
    exact Cs.node (itemOf_kind hx).1 (Cs.cons (Cs.accept _) (Cs.cons Cs.take (Cs.cons (l := []) (h _) Cs.nil))) s s' hs

set_option maxHeartbeats 2000000 in
theorem body_cs (h : ∀ nt, Cs (r nt)) : ∀ nt, Cs (body r nt) := by
  intro nt
  cases nt
  case file => exact Cs.cond Cs.takeAll (Cs.cons (itemA_cs h) (Cs.cons (h _) Cs.nil))
  case postLoop => exact Cs.cond (Cs.cons (Cs.wrap (by decide) (h _)) (Cs.cons (h _) Cs.nil)) (Cs.cond (Cs.cons (fun s s' hs => Cs.wrap (memK_lt s) (h .member) s s' hs) (Cs.cons (h _) Cs.nil)) Cs.nil)
  case oper k =>
    show Cs (if 5 < k then _ else _)
    split
    · exact h _
    · exact Cs.cons (h _) (Cs.cons (h _) Cs.nil)
  case operLoop k =>
    refine Cs.cond (Cs.cons (Cs.wrap (by decide) (Cs.cons Cs.take (Cs.cons (h _) Cs.nil))) (Cs.cons ?_ Cs.nil)) Cs.nil
    split
    · exact Cs.nil
    · exact h _
  case implI =>
    intro s s' hs
    exact Cs.bind (b := fun m => seq [r .typ, Ps.onAcc [102, 111, 114] (r .typ) (Ps.insNone m.ch.length), r .members] m) (h .tparams) (fun m m' hm => Cs.cons (h _) (Cs.cons (Cs.onAcc _ (h _) (Cs.insNone _)) (Cs.cons (l := []) (h _) Cs.nil)) m m' hm) s s' hs
  case sg g => cases g <;> simp only [body] <;> first | exact Cs.node (by decide) Cs.expName | exact Cs.node (by decide) (Cs.cons Cs.expName (Cs.cons (Cs.onAcc _ (h _) Cs.nil) Cs.nil))
  all_goals simp only [body]
  all_goals repeat' (first
    | exact Cs.nil
    | exact Cs.take
    | exact Cs.expName
    | exact Cs.setv _
    | exact h _
    | refine Cs.cons ?_ ?_
    | exact Cs.accept _
    | exact Cs.expect _
    | exact Cs.add (srcT_leaf _)
    | refine Cs.onAcc _ ?_ ?_
    | refine Cs.wrap (by decide) ?_
    | refine Cs.node (by decide) ?_
    | refine Cs.cond ?_ ?_)
end

theorem run_cs : ∀ n nt, Cs (run n nt)
  | 0, _ => fun s s' h => by cases h
  | n + 1, nt => body_cs (run_cs n) nt
end Go.Proofs.YtbomilleckgalaaGreat.Ps
