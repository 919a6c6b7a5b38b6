/-
  Every parenthesis that the plain parser makes has an operand (no program).
-/
import Derived.Test.YtcpojagfnpajeaaGreatDoorRZAsPure
import Derived.Test.YtcpojagfnpajeaaGreatDoorRZRpCore
namespace Go.Proofs.YtcpojagfnpajeaaGreatDoorR.Ps
open Go.RowKit

theorem hasIn_append (a b : List Tree) : hasIn (a ++ b) = (hasIn a || hasIn b) := by
  induction a with
  | nil => simp [hasIn]
  | cons x r ih => simp [hasIn, ih, Bool.or_assoc]
theorem okPs_append (a b : List Tree) : okPs (a ++ b) = (okPs a && okPs b) := by
  induction a with
  | nil => simp [okPs]
  | cons x r ih => simp [okPs, ih, Bool.and_assoc]
theorem okPs_toks (l : List Tk) (h : ∀ t, t ∈ l → 100 ≤ t.1) : okPs (l.map tokTree) = true := by
  induction l with
  | nil => rfl
  | cons t r ih =>
    simp only [List.map_cons, okPs, Bool.and_eq_true, Bool.or_eq_true, decide_eq_true_eq]
    exact ⟨Or.inl (h t List.mem_cons_self), ih fun u hu => h u (List.mem_cons_of_mem _ hu)⟩

/-- All tokens that are left are tokens. -/
def TkOk (s : S) : Prop := ∀ t, t ∈ s.rest → 100 ≤ t.1
/-- What was well made stays so. -/
def Gd (a : PA) : Prop := ∀ s s', a s = some s' → TkOk s → TkOk s' ∧ (okPs s.ch = true → okPs s'.ch = true)
/-- There is an inner node now. -/
def Hi (a : PA) : Prop := ∀ s s', a s = some s' → hasIn s'.ch = true

theorem Gd.nil : Gd (seq []) := fun s s' h ht => by cases h; exact ⟨ht, id⟩
theorem Gd.cons {a : PA} {l : List PA} (h1 : Gd a) (h2 : Gd (seq l)) : Gd (seq (a :: l)) := by
  intro s s' h ht
  obtain ⟨m, p, q⟩ := seq_some h
  obtain ⟨a1, a3⟩ := h1 s m p ht
  obtain ⟨b1, b3⟩ := h2 m s' q a1
  exact ⟨b1, fun x => b3 (a3 x)⟩
theorem Gd.cond {c : S → Bool} {a b : PA} (h1 : Gd a) (h2 : Gd b) : Gd (Ps.cond c a b) := by
  intro s s' h
  unfold Ps.cond at h
  split at h
  · exact h1 s s' h
  · exact h2 s s' h
theorem Gd.bind {a b : PA} (h1 : Gd a) (h2 : Gd b) : Gd (fun s => (a s).bind b) := by
  intro s s' h ht
  cases ha : a s with
  | none => simp [ha] at h
  | some m =>
    simp only [ha, Option.bind_some] at h
    obtain ⟨a1, a3⟩ := h1 s m ha ht
    obtain ⟨b1, b3⟩ := h2 m s' h a1
    exact ⟨b1, fun x => b3 (a3 x)⟩
theorem Gd.add {x : Tree} (hx : okPs [x] = true) : Gd (Ps.add x) := by
  intro s s' h ht
  unfold Ps.add at h
  split at h
  · cases h; exact ⟨ht, fun q => by simp [okPs_append, q, hx]⟩
  · cases h
theorem Gd.take : Gd Ps.take := by
  intro s s' h ht
  obtain ⟨a, r, h1, _, rfl⟩ := take_is h
  have e := (split_parts h1).1
  have ha : ∀ t, t ∈ a → 100 ≤ t.1 := fun t q => ht t (by rw [e]; simp [q])
  exact ⟨fun t q => ht t (by rw [e]; simp [q]), fun q => by simp [okPs_append, q, okPs_toks a ha]⟩
theorem Gd.takeAll : Gd Ps.takeAll := by
  intro s s' h ht
  unfold Ps.takeAll at h
  split at h
  · cases h; exact ⟨fun t q => by simp at q, fun q => by simp [okPs_append, q, okPs_toks _ ht]⟩
  · cases h
theorem Gd.setv (b : Bool) : Gd (setVal b) := fun s s' h ht => by cases h; exact ⟨ht, id⟩
theorem Gd.accept (x : List UInt8) : Gd (Ps.accept x) := Gd.cond Gd.take Gd.nil
theorem okLeaf {k : Int} (hk : k ≠ 60) : okPs [leaf k] = true := by
  unfold leaf
  simp [okPs, okP, hk]
theorem Gd.expect (x : List UInt8) : Gd (Ps.expect x) := Gd.cond Gd.take (Gd.add (okLeaf (by decide)))
theorem Gd.expName : Gd Ps.expName := Gd.cond Gd.take (Gd.add (okLeaf (by decide)))
theorem Gd.onAcc (x : List UInt8) {a b : PA} (h1 : Gd a) (h2 : Gd b) : Gd (Ps.onAcc x a b) := Gd.cond (Gd.bind Gd.take h1) h2
theorem okInner {k : Int} {c : List Tree} (h : okPs c = true) (hk : k ≠ 60 ∨ hasIn c = true) : okPs [inner k c] = true := by
  unfold inner
  rcases hk with hk | hk <;> simp [okPs, okP, h, hk]
theorem Gd.node' {k : Int} {a : PA} (h : Gd a) (h6 : k ≠ 60 ∨ Hi a) : Gd (Ps.node k a) := by
  intro s s' hs ht
  unfold Ps.node at hs
  cases ha : a { s with ch := [] } with
  | none => simp [ha] at hs
  | some m =>
    simp only [ha, Option.bind_some] at hs
    split at hs
    · cases hs
      obtain ⟨a1, a3⟩ := h _ m ha ht
      have hm : okPs m.ch = true := a3 rfl
      refine ⟨a1, fun q => ?_⟩
      show okPs (s.ch ++ [inner k m.ch]) = true
      rw [okPs_append, q, okInner hm (h6.imp id fun z => z _ m ha)]
      rfl
    · cases hs
theorem Gd.node {k : Int} (hk : k < 100 ∧ k ≠ 60) {a : PA} (h : Gd a) : Gd (Ps.node k a) := Gd.node' h (Or.inl hk.2)
theorem Hi.node {k : Int} (hk : k < 100) {a : PA} : Hi (Ps.node k a) := by
  intro s s' hs
  unfold Ps.node at hs
  cases ha : a { s with ch := [] } with
  | none => simp [ha] at hs
  | some m =>
    simp only [ha, Option.bind_some] at hs
    split at hs
    · cases hs; simp [hasIn_append, hasIn, inner, Tree.k, hk]
    · cases hs
theorem Hi.wrap {k : Int} (hk : k < 100) {a : PA} : Hi (Ps.wrap k a) := by
  intro s s' hs
  unfold Ps.wrap at hs
  cases hx : s.ch.getLast? with
  | none => simp [hx] at hs
  | some x =>
    simp only [hx, Option.bind_some] at hs
    exact Hi.node hk _ s' hs
theorem Gd.wrap {k : Int} (hk : k < 100 ∧ k ≠ 60) {a : PA} (h : Gd a) : Gd (Ps.wrap k a) := by
  intro s s' hs ht
  unfold Ps.wrap at hs
  cases hx : s.ch.getLast? with
  | none => simp [hx] at hs
  | some x =>
    simp only [hx, Option.bind_some] at hs
    have hch : s.ch = s.ch.dropLast ++ [x] := by
      have hne : s.ch ≠ [] := fun e => by rw [e] at hx; cases hx
      rw [List.getLast?_eq_some_getLast hne] at hx
      rw [← Option.some.inj hx]
      exact (List.dropLast_concat_getLast hne).symm
    by_cases hok : okPs s.ch = true
    · rw [hch, okPs_append, Bool.and_eq_true] at hok
      obtain ⟨b1, b3⟩ := Gd.node hk (Gd.cons (Gd.add hok.2) (Gd.cons (l := []) h Gd.nil)) _ s' hs ht
      exact ⟨b1, fun _ => b3 hok.1⟩
    · refine ⟨?_, fun q => absurd q hok⟩
      unfold Ps.node at hs
      generalize hq : seq [Ps.add x, a] _ = q at hs
      cases q with
      | none => simp at hs
      | some m =>
        simp only [Option.bind_some] at hs
        split at hs
        · cases hs
          obtain ⟨m1, p1, p2⟩ := seq_some hq
          obtain ⟨m2, p3, p4⟩ := seq_some p2
          have := seq_nil p4
          subst this
          unfold Ps.add at p1
          split at p1
          · cases p1; exact (h _ m p3 ht).1
          · cases p1
        · cases hs
theorem Gd.insNone (i : Nat) : Gd (Ps.insNone i) := by
  intro s s' h ht
  unfold Ps.insNone at h
  split at h
  · cases h
    refine ⟨ht, fun q => ?_⟩
    have e := congrArg okPs (List.take_append_drop i s.ch)
    rw [okPs_append, q, Bool.and_eq_true] at e
    show okPs (s.ch.take i ++ ([leaf 0] ++ s.ch.drop i)) = true
    rw [okPs_append, okPs_append, e.1, e.2, okLeaf (by decide)]
    rfl
  · cases h
theorem Hi.cond {c : S → Bool} {a b : PA} (h1 : Hi a) (h2 : Hi b) : Hi (Ps.cond c a b) := by
  intro s s' h
  unfold Ps.cond at h
  split at h
  · exact h1 s s' h
  · exact h2 s s' h
theorem Hi.add {k : Int} (hk : k < 100) : Hi (Ps.add (leaf k)) := by
  intro s s' h
  unfold Ps.add at h
  split at h
  · cases h; simp [hasIn_append, hasIn, leaf, Tree.k, hk]
  · cases h

/-- That an inner node is there holds on (whatever the tokens). -/
def Kp (a : PA) : Prop := ∀ s s', a s = some s' → hasIn s.ch = true → hasIn s'.ch = true
theorem Hi.seq {a : PA} {l : List PA} (h1 : Hi a) (h2 : Kp (Ps.seq l)) : Hi (Ps.seq (a :: l)) := by
  intro s s' h
  obtain ⟨m, p, q⟩ := seq_some h
  exact h2 m s' q (h1 s m p)
theorem Hi.later {a : PA} {l : List PA} (h : Hi (Ps.seq l)) : Hi (Ps.seq (a :: l)) := by
  intro s s' hs
  obtain ⟨m, p, q⟩ := seq_some hs
  exact h m s' q
theorem Kp.nil : Kp (Ps.seq []) := fun s s' h q => by cases h; exact q
theorem Kp.cons {a : PA} {l : List PA} (h1 : Kp a) (h2 : Kp (Ps.seq l)) : Kp (Ps.seq (a :: l)) := by
  intro s s' h q
  obtain ⟨m, p, r⟩ := seq_some h
  exact h2 m s' r (h1 s m p q)
theorem Kp.take : Kp Ps.take := by
  intro s s' h q
  obtain ⟨a, r, h1, _, rfl⟩ := take_is h
  simp [hasIn_append, q]
theorem Kp.add (x : Tree) : Kp (Ps.add x) := by
  intro s s' h q
  unfold Ps.add at h
  split at h
  · cases h; simp [hasIn_append, q]
  · cases h
theorem Kp.cond {c : S → Bool} {a b : PA} (h1 : Kp a) (h2 : Kp b) : Kp (Ps.cond c a b) := by
  intro s s' h
  unfold Ps.cond at h
  split at h
  · exact h1 s s' h
  · exact h2 s s' h
theorem Kp.expect (x : List UInt8) : Kp (Ps.expect x) := Kp.cond Kp.take (Kp.add _)
theorem Hi.kp {a : PA} (h : Hi a) : Kp a := fun s s' hs _ => h s s' hs

theorem Kp.takeAll : Kp Ps.takeAll := by
  intro s s' h q
  unfold Ps.takeAll at h
  split at h
  · cases h; simp [hasIn_append, q]
  · cases h
theorem Kp.setv (b : Bool) : Kp (setVal b) := fun s s' h q => by cases h; exact q
theorem Kp.accept (x : List UInt8) : Kp (Ps.accept x) := Kp.cond Kp.take Kp.nil
theorem Kp.expName : Kp Ps.expName := Kp.cond Kp.take (Kp.add _)
theorem Kp.bind {a b : PA} (h1 : Kp a) (h2 : Kp b) : Kp (fun s => (a s).bind b) := by
  intro s s' h q
  cases ha : a s with
  | none => simp [ha] at h
  | some m =>
    simp only [ha, Option.bind_some] at h
    exact h2 m s' h (h1 s m ha q)
theorem Kp.onAcc (x : List UInt8) {a b : PA} (h1 : Kp a) (h2 : Kp b) : Kp (Ps.onAcc x a b) := Kp.cond (Kp.bind Kp.take h1) h2
theorem Kp.node {k : Int} (hk : k < 100) {a : PA} : Kp (Ps.node k a) := (Hi.node hk).kp
theorem Kp.wrap {k : Int} (hk : k < 100) {a : PA} : Kp (Ps.wrap k a) := (Hi.wrap hk).kp
theorem Kp.insNone (i : Nat) : Kp (Ps.insNone i) := by
  intro s s' h q
  unfold Ps.insNone at h
  split at h
  · cases h; simp [hasIn_append, hasIn, leaf, Tree.k]
  · cases h

theorem itemA_kp (r : NT → PA) : Kp (itemA r) := by
  intro s s' hs
  unfold itemA at hs
  split at hs
  · exact Kp.node (by decide) s s' hs
  · rename_i x hx
    exact Kp.node (itemOf_kind hx).1 s s' hs

/-- The methods that add an expression. -/
def isE : NT → Bool
  | .expr => true | .oper _ => true | .unary => true | .posF => true | .prim => true | .block => true | .pathMac => true | .path _ => true | .paren => true
  | _ => false

section
variable {r : NT → PA}
set_option maxHeartbeats 2000000 in
theorem body_kp (h : ∀ nt, Kp (r nt)) : ∀ nt, Kp (body r nt) := by
  intro nt
  cases nt
  case file => exact Kp.cond Kp.takeAll (Kp.cons (itemA_kp r) (Kp.cons (h _) Kp.nil))
  case postLoop => exact Kp.cond (Kp.cons (Kp.wrap (by decide)) (Kp.cons (h _) Kp.nil)) (Kp.cond (Kp.cons (fun s s' hs => Kp.wrap (memK_lt s) s s' hs) (Kp.cons (h _) Kp.nil)) Kp.nil)
  case oper k =>
    show Kp (if 5 < k then _ else _)
    split
    · exact h _
    · exact Kp.cons (h _) (Kp.cons (h _) Kp.nil)
  case operLoop k =>
    refine Kp.cond (Kp.cons (Kp.wrap (by decide)) (Kp.cons ?_ Kp.nil)) Kp.nil
    split
    · exact Kp.nil
    · exact h _
  case implI =>
    intro s s' hs
    exact Kp.bind (b := fun m => seq [r .typ, Ps.onAcc [102, 111, 114] (r .typ) (Ps.insNone m.ch.length), r .members] m) (h .tparams) (fun m m' hm => Kp.cons (h _) (Kp.cons (Kp.onAcc _ (h _) (Kp.insNone _)) (Kp.cons (l := []) (h _) Kp.nil)) m m' hm) s s' hs
  case sg g => cases g <;> simp only [body] <;> exact Kp.node (by decide)
  all_goals simp only [body]
  all_goals repeat' (first
    | exact Kp.nil
    | exact Kp.take
    | exact Kp.expName
    | exact Kp.setv _
    | exact h _
    | refine Kp.cons ?_ ?_
    | exact Kp.accept _
    | exact Kp.expect _
    | exact Kp.add _
    | refine Kp.onAcc _ ?_ ?_
    | exact Kp.wrap (by decide)
    | exact Kp.node (by decide)
    | refine Kp.cond ?_ ?_)

theorem body_hi (hk : ∀ nt, Kp (r nt)) (h : ∀ nt, isE nt = true → Hi (r nt)) : ∀ nt, isE nt = true → Hi (body r nt) := by
  intro nt hn
  cases nt <;> first | cases hn | skip
  case expr => exact h _ rfl
  case oper k =>
    show Hi (if 5 < k then _ else _)
    split
    · exact h _ rfl
    · exact Hi.seq (h _ rfl) (Kp.cons (hk _) Kp.nil)
  case unary => exact Hi.cond (Hi.node (by decide)) (Hi.cond (Hi.node (by decide)) (h _ rfl))
  case posF => exact Hi.seq (h _ rfl) (Kp.cons (hk _) Kp.nil)
  case prim =>
    simp only [body]
    repeat' (first
      | exact h _ rfl
      | exact Hi.node (by decide)
      | exact Hi.add (by decide)
      | refine Hi.cond ?_ ?_)
  case block => exact Hi.node (by decide)
  case path g => exact Hi.node (by decide)
  case pathMac => exact Hi.seq (h _ rfl) (Kp.cons (Kp.cond (Kp.wrap (by decide)) Kp.nil) Kp.nil)
  case paren => exact Hi.later (Hi.seq (h _ rfl) (Kp.cons (Kp.expect _) Kp.nil))
theorem itemA_gd (h : ∀ nt, Gd (r nt)) : Gd (itemA r) := by
  intro s s' hs
  unfold itemA at hs
  split at hs
  · exact Gd.node (by decide) (h _) s s' hs
  · rename_i x hx
    refine Gd.node ⟨(itemOf_kind hx).1, ?_⟩ (Gd.cons (Gd.accept _) (Gd.cons Gd.take (Gd.cons (l := []) (h _) Gd.nil))) s s' hs
    unfold itemOf at hx
    (repeat' split at hx) <;> first | (cases hx; decide) | cases hx
theorem memK_ne (s : S) : memK s < 100 ∧ memK s ≠ 60 := by
  unfold memK
  (repeat' split) <;> decide

set_option maxHeartbeats 2000000 in
theorem body_gd (h : ∀ nt, Gd (r nt)) (hi : Hi (r .paren)) : ∀ nt, Gd (body r nt) := by
  intro nt
  cases nt
  case file => exact Gd.cond Gd.takeAll (Gd.cons (itemA_gd h) (Gd.cons (h _) Gd.nil))
  case postLoop => exact Gd.cond (Gd.cons (Gd.wrap (by decide) (h _)) (Gd.cons (h _) Gd.nil)) (Gd.cond (Gd.cons (fun s s' hs => Gd.wrap (memK_ne s) (h .member) s s' hs) (Gd.cons (h _) Gd.nil)) Gd.nil)
  case oper k =>
    show Gd (if 5 < k then _ else _)
    split
    · exact h _
    · exact Gd.cons (h _) (Gd.cons (h _) Gd.nil)
  case operLoop k =>
    refine Gd.cond (Gd.cons (Gd.wrap (by decide) (Gd.cons Gd.take (Gd.cons (h _) Gd.nil))) (Gd.cons ?_ Gd.nil)) Gd.nil
    split
    · exact Gd.nil
    · exact h _
  case implI =>
    intro s s' hs
    exact Gd.bind (b := fun m => seq [r .typ, Ps.onAcc [102, 111, 114] (r .typ) (Ps.insNone m.ch.length), r .members] m) (h .tparams) (fun m m' hm => Gd.cons (h _) (Gd.cons (Gd.onAcc _ (h _) (Gd.insNone _)) (Gd.cons (l := []) (h _) Gd.nil)) m m' hm) s s' hs
  case sg g => cases g <;> simp only [body] <;> first | exact Gd.node (by decide) Gd.expName | exact Gd.node (by decide) (Gd.cons Gd.expName (Gd.cons (Gd.onAcc _ (h _) Gd.nil) Gd.nil))
  case prim =>
    simp only [body]
    repeat' (first
      | exact h _
      | exact Gd.take
      | exact Gd.add (okLeaf (by decide))
      | exact Gd.node' (h _) (Or.inl (by decide))
      | refine Gd.node (by decide) ?_
      | refine Gd.cond ?_ ?_)
    refine Gd.node' (h _) (Or.inr hi)
  all_goals simp only [body]
  all_goals repeat' (first
    | exact Gd.nil
    | exact Gd.take
    | exact Gd.expName
    | exact Gd.setv _
    | exact h _
    | refine Gd.cons ?_ ?_
    | exact Gd.accept _
    | exact Gd.expect _
    | exact Gd.add (okLeaf (by decide))
    | refine Gd.onAcc _ ?_ ?_
    | refine Gd.wrap (by decide) ?_
    | refine Gd.node (by decide) ?_
    | refine Gd.cond ?_ ?_)
end

theorem run_kp : ∀ n nt, Kp (run n nt)
  | 0, _ => fun s s' h => by cases h
  | n + 1, nt => body_kp (run_kp n) nt
theorem run_hi : ∀ n nt, isE nt = true → Hi (run n nt)
  | 0, _, _ => fun s s' h => by cases h
  | n + 1, nt, hn => body_hi (run_kp n) (run_hi n) nt hn
theorem run_gd : ∀ n nt, Gd (run n nt)
  | 0, _ => fun s s' h => by cases h
  | n + 1, nt => body_gd (run_gd n) (run_hi n .paren rfl) nt
end Go.Proofs.YtcpojagfnpajeaaGreatDoorR.Ps
