/-
  The same of each function of the plain parser (no program).
-/
import Derived.Test.YtbomilleckgalaaGreatRpLoc
namespace Go.Proofs.YtbomilleckgalaaGreat.Ps
open Go.RowKit

theorem Cq.or {c d : S → Bool} (h1 : Cq c) (h2 : Cq d) : Cq (fun s => c s || d s) := fun ch w z z' b b' h => by simp only [h1 ch w z z' b b' h, h2 ch w z z' b b' h]
theorem Cq.and {c d : S → Bool} (h1 : Cq c) (h2 : Cq d) : Cq (fun s => c s && d s) := fun ch w z z' b b' h => by simp only [h1 ch w z z' b b' h, h2 ch w z z' b b' h]
theorem Cq.not {c : S → Bool} (h1 : Cq c) : Cq (fun s => !c s) := fun ch w z z' b b' h => by simp only [h1 ch w z z' b b' h]
theorem Cq.kind (k : Int) : Cq (fun s => (pk s.rest 0).1 == k) := Cq.of (fun t _ _ => t.1 == k) (fun _ => rfl)
theorem Cq.next (x : List UInt8) : Cq (fun s => (pk s.rest 1).2 == x) := Cq.of (fun _ t _ => t.2 == x) (fun _ => rfl)
theorem Cq.nextNot (x : List UInt8) : Cq (fun s => (pk s.rest 1).2 != x) := Cq.of (fun _ t _ => t.2 != x) (fun _ => rfl)
theorem Cq.fin : Cq atEnd := Cq.of (fun _ _ e => e) (fun _ => rfl)
theorem Cq.item : Cq atItem := Cq.of (fun t _ _ => startsI t.2) (fun _ => rfl)
theorem Cq.prec (k : Nat) : Cq (fun s => Ps.prec (pk s.rest 0).2 == k) := Cq.of (fun t _ _ => Ps.prec t.2 == k) (fun _ => rfl)
theorem Cq.expr : Cq atExpr := Cq.of (fun t _ _ => exprKind t.1 || exprText t.2 || decide (0 < Ps.prec t.2)) (fun _ => rfl)
theorem Cq.type : Cq atType := Cq.or (Cq.or (Cq.at _) (Cq.at _)) Cq.name
theorem Cq.lit : Cq atLit := Cq.or (Cq.or (Cq.kind _) (Cq.at _)) (Cq.at _)
theorem Cq.pat : Cq atPat := Cq.or (Cq.or Cq.name (Cq.at _)) Cq.lit
theorem Cq.goOn (cl : List UInt8) : Cq (goOn cl) := Cq.and (Cq.and (Cq.not (Cq.at _)) (Cq.not Cq.fin)) (Cq.or (Cq.at _) (Cq.not Cq.item))
theorem Cq.stmtOn : Cq stmtOn := Cq.and (Cq.and (Cq.not (Cq.at _)) (Cq.not Cq.fin)) (Cq.not Cq.item)
theorem Cq.starts (e : El) : Cq (starts e) := by
  cases e
  case typ => exact Cq.type
  case expr => exact Cq.expr
  case pat => exact Cq.pat
  case arm => exact Cq.pat
  all_goals exact Cq.name

/-- As Lc, at one state. -/
def Ls (e : Bool) (a2 : PA) (s s' : S) : Prop :=
  ∃ u, s.rest = u ++ s'.rest ∧ En u ∧ ∀ w z z' b, s'.rest = w ++ z → Ah w z z' → (e = true → b = s.val) →
    ∃ b', a2 ⟨s.ch, u ++ w ++ z', b⟩ = some ⟨s'.ch, w ++ z', b'⟩ ∧ (b = s.val → b' = s'.val)

theorem Lc.condP {e : Bool} {c : S → Bool} {a a2 b b2 : PA} (hc : Cq c) (h1 : ∀ s s', c s = true → a s = some s' → Ls e a2 s s') (h2 : Lc e b b2) : Lc e (Ps.cond c a b) (Ps.cond c a2 b2) := by
  intro s s' hs
  unfold Ps.cond at hs
  cases hcs : c s with
  | true =>
    rw [if_pos hcs] at hs
    obtain ⟨u, p1, p2, p3⟩ := h1 s s' hcs hs
    refine ⟨u, p1, p2, fun w z z' bb e1 e2 e3 => ?_⟩
    have hq : c ⟨s.ch, u ++ w ++ z', bb⟩ = true := by
      have := hc s.ch (u ++ w) z z' s.val bb (e2.more u)
      rw [this, ← hcs]
      congr 1
      cases s
      simp only [S.mk.injEq, true_and, and_true]
      simp only at p1
      rw [p1, e1, List.append_assoc]
    obtain ⟨b', r1, r2⟩ := p3 w z z' bb e1 e2 e3
    exact ⟨b', by unfold Ps.cond; rw [if_pos hq]; exact r1, r2⟩
  | false =>
    have h := Lc.cond hc (a := b) (a2 := b2) h2 h2 s s' (by unfold Ps.cond; rw [hcs]; rw [hcs] at hs; exact hs)
    obtain ⟨u, p1, p2, p3⟩ := h
    refine ⟨u, p1, p2, fun w z z' bb e1 e2 e3 => ?_⟩
    have hq : c ⟨s.ch, u ++ w ++ z', bb⟩ = false := by
      have := hc s.ch (u ++ w) z z' s.val bb (e2.more u)
      rw [this, ← hcs]
      congr 1
      cases s
      simp only [S.mk.injEq, true_and, and_true]
      simp only at p1
      rw [p1, e1, List.append_assoc]
    obtain ⟨b', r1, r2⟩ := p3 w z z' bb e1 e2 e3
    unfold Ps.cond at r1 ⊢
    rw [hq] at r1 ⊢
    exact ⟨b', r1, r2⟩

theorem memK_same {ch : List Tree} {u w z z' : List Tk} {b b' : Bool} (hu : 1 ≤ (sigs u).length) (h : Ah w z z') : memK ⟨ch, u ++ w ++ z', b'⟩ = memK ⟨ch, u ++ w ++ z, b⟩ := by
  rcases h with rfl | h
  · rfl
  · have hl : 3 ≤ (sigs (u ++ w)).length := by rw [sigs_append, List.length_append]; omega
    have e : ∀ n, n ≤ 2 → pk (u ++ w ++ z') n = pk (u ++ w ++ z) n := fun n hn => by
      unfold pk
      rw [sigs_append, sigs_append (u ++ w) z, List.getElem?_append_left (by omega), List.getElem?_append_left (by omega)]
    unfold memK
    simp only [e 1 (by omega), e 2 (by omega)]

theorem wrap_is {k : Int} {a : PA} {s s' : S} (h : wrap k a s = some s') : ∃ s1 s2, s1.rest = s.rest ∧ a s1 = some s2 ∧ s2.rest = s'.rest := by
  unfold wrap at h
  cases hx : s.ch.getLast? with
  | none => simp [hx] at h
  | some x =>
    simp only [hx, Option.bind_some] at h
    unfold node at h
    cases ha : seq [add x, a] { s with ch := [] } with
    | none => simp [ha] at h
    | some m =>
      simp only [ha, Option.bind_some] at h
      split at h
      · cases h
        obtain ⟨m1, p1, p2⟩ := seq_some ha
        obtain ⟨m2, p3, p4⟩ := seq_some p2
        have := seq_nil p4
        subst this
        unfold add at p1
        split at p1
        · cases p1
          refine ⟨_, _, ?_, p3, rfl⟩
          rfl
        · cases p1
      · cases h

section
variable {r r2 : NT → PA}

theorem postLoop_lc (h : ∀ nt, nt ≠ .file → Lc false (r nt) (r2 nt)) (hm : ∀ s s', atB [46] s = true → r .member s = some s' → (sigs s'.rest).length < (sigs s.rest).length) :
    Lc false (body r .postLoop) (body r2 .postLoop) := by
  show Lc false (cond _ _ _) (cond _ _ _)
  refine Lc.cond (Cq.at _) (Lc.cons (Lc.wrap _ (h _ (by intro q; cases q))) (Lc.cons (h _ (by intro q; cases q)) (Lc.nil _))) (Lc.condP (Cq.at _) ?_ (Lc.nil _))
  intro s s' hc hs
  obtain ⟨m, h1, h2⟩ := seq_some hs
  obtain ⟨s1, s2, q1, q2, q3⟩ := wrap_is h1
  have hlt := hm s1 s2 (by unfold atB; rw [q1]; exact hc) q2
  rw [q1, q3] at hlt
  obtain ⟨u, p1, p2, p3⟩ := Lc.wrap (memK s) (h .member (by intro q; cases q)) s m h1
  have hu : 1 ≤ (sigs u).length := by
    rw [p1, sigs_append, List.length_append] at hlt
    omega
  obtain ⟨v, t1, t2, t3⟩ := Lc.cons (e := false) (l := []) (l2 := []) (h .postLoop (by intro q; cases q)) (Lc.nil _) m s' h2
  refine ⟨u ++ v, by rw [p1, t1, List.append_assoc], p2.append t2, fun w z z' b e1 e2 e3 => ?_⟩
  obtain ⟨b1, r1, r2'⟩ := p3 (v ++ w) z z' b (by rw [t1, e1, List.append_assoc]) (e2.more v) e3
  obtain ⟨b2, x1, x2⟩ := t3 w z z' b1 e1 e2 (fun he => by cases he)
  refine ⟨b2, ?_, fun hb => x2 (r2' hb)⟩
  have hr : u ++ v ++ w ++ z' = u ++ (v ++ w) ++ z' := by simp only [List.append_assoc]
  have hk : memK ⟨s.ch, u ++ (v ++ w) ++ z', b⟩ = memK s := by
    rw [memK_same (z := z) (b := s.val) hu (e2.more v)]
    congr 1
    cases s
    simp only [S.mk.injEq, true_and, and_true]
    simp only at p1
    rw [p1, t1, e1]
    simp only [List.append_assoc]
  show ((fun s => wrap (memK s) (r2 .member) s) ⟨s.ch, u ++ v ++ w ++ z', b⟩).bind (seq [r2 .postLoop]) = _
  rw [hr]
  simp only [hk]
  rw [r1]
  exact x1

set_option maxHeartbeats 2000000 in
theorem body_lc (h : ∀ nt, nt ≠ .file → Lc false (r nt) (r2 nt)) (hm : ∀ s s', atB [46] s = true → r .member s = some s' → (sigs s'.rest).length < (sigs s.rest).length) :
    ∀ nt, nt ≠ .file → Lc false (body r nt) (body r2 nt) := by
  intro nt hnt
  have H : ∀ e nt, nt ≠ .file → Lc e (r nt) (r2 nt) := fun e nt hn => (h nt hn).low
  cases nt
  case file => exact absurd rfl hnt
  case postLoop => exact postLoop_lc h hm
  case block => exact Lc.node _ (Lc.cons (Lc.expect _ _) (Lc.set _ (Lc.cons (H _ _ (by intro q; cases q)) (Lc.cons (Lc.flag (Lc.nil _) (Lc.add _ _)) (Lc.cons (Lc.expect _ _) (Lc.nil _))))))
  case oper k =>
    show Lc false (if 5 < k then _ else _) (if 5 < k then _ else _)
    split
    · exact H _ _ (by intro q; cases q)
    · exact Lc.cons (H _ _ (by intro q; cases q)) (Lc.cons (H _ _ (by intro q; cases q)) (Lc.nil _))
  case operLoop k =>
    refine Lc.cond (Cq.prec k) (Lc.cons (Lc.wrap _ (Lc.cons (Lc.take _) (Lc.cons (H _ _ (by intro q; cases q)) (Lc.nil _)))) (Lc.cons ?_ (Lc.nil _))) (Lc.nil _)
    split
    · exact Lc.nil _
    · exact H _ _ (by intro q; cases q)
  case list cl e =>
    refine Lc.cond (Cq.goOn cl) (Lc.cons (Lc.cond (Cq.starts e) (H _ _ (by intro q; cases e <;> cases q)) (Lc.node _ (Lc.take _))) (Lc.cons (Lc.cond (Cq.at _) (Lc.nil _) (Lc.expect _ _)) (Lc.cons (H _ _ (by intro q; cases q)) (Lc.nil _)))) (Lc.expect _ _)
  case implI => exact Lc.ch (f := fun c => seq [r .typ, onAcc [102, 111, 114] (r .typ) (insNone c.length), r .members]) (f2 := fun c => seq [r2 .typ, onAcc [102, 111, 114] (r2 .typ) (insNone c.length), r2 .members]) (H _ _ (by intro q; cases q)) (fun c => Lc.cons (H _ _ (by intro q; cases q)) (Lc.cons (Lc.onAcc _ (H _ _ (by intro q; cases q)) (Lc.insNone _ _)) (Lc.cons (H _ _ (by intro q; cases q)) (Lc.nil _))))
  case sg g =>
    cases g
    · exact Lc.node _ (Lc.expName _)
    · exact Lc.node _ (Lc.cons (Lc.expName _) (Lc.cons (Lc.onAcc _ (H _ _ (by intro q; cases q)) (Lc.nil _)) (Lc.nil _)))
  case pat =>
    refine Lc.cond (Cq.at _) (Lc.node _ (Lc.take _)) (Lc.cond (Cq.at _) (Lc.node _ (Lc.cons (Lc.take _) (Lc.cons (Lc.expName _) (Lc.nil _)))) (Lc.cond (Cq.and Cq.name (Cq.or (Cq.next _) (Cq.next _))) (Lc.node _ (H _ _ (by intro q; cases q))) (Lc.cond Cq.name (Lc.node _ (Lc.take _)) (Lc.cond Cq.lit (H _ _ (by intro q; cases q)) (Lc.add _ _)))))
  all_goals simp only [body]
  all_goals repeat' (first
    | exact Lc.nil _
    | exact Lc.take _
    | exact Lc.expName _
    | exact Lc.setv _ _
    | exact H _ _ (by intro q; cases q)
    | exact Cq.at _ | exact Cq.name | exact Cq.expr | exact Cq.type | exact Cq.stmtOn | exact Cq.kind _ | exact Cq.next _ | exact Cq.nextNot _ | exact Cq.fin | exact Cq.item
    | refine Lc.cons ?_ ?_
    | exact Lc.accept _ _
    | exact Lc.expect _ _
    | refine Lc.onAcc _ ?_ ?_
    | refine Lc.wrap _ ?_
    | refine Lc.node _ ?_
    | exact Lc.add _ _
    | refine Lc.cond ?_ ?_ ?_
    | refine Cq.or ?_ ?_ | refine Cq.and ?_ ?_ | refine Cq.not ?_)
end

theorem take_less {s s' : S} (h : take s = some s') : (sigs s'.rest).length < (sigs s.rest).length := by
  obtain ⟨a, r, h1, _, rfl⟩ := take_is h
  obtain ⟨h3, x, t, h4, h5, _⟩ := split_parts h1
  rw [h3, sigs_append, List.length_append, h4, sigs_append, List.length_append]
  have : (sigs [t]).length = 1 := by simp [sigs, h5]
  show (sigs r).length < _
  omega
theorem Lc.le {e : Bool} {a a2 : PA} (h : Lc e a a2) {s s' : S} (hs : a s = some s') : (sigs s'.rest).length ≤ (sigs s.rest).length := by
  obtain ⟨u, h1, _⟩ := h s s' hs
  rw [h1, sigs_append, List.length_append]
  omega

theorem run_lc : ∀ (n m : Nat), n ≤ m → ∀ nt, nt ≠ .file → Lc false (run n nt) (run m nt)
  | 0, _, _, nt, _ => by
    intro s s' hs
    cases hs
  | n + 1, 0, h, _, _ => absurd h (by omega)
  | n + 1, m + 1, h, nt, hnt => by
    have ih := run_lc n m (by omega)
    refine body_lc ih ?_ nt hnt
    intro s s' _ hs
    cases n with
    | zero => cases hs
    | succ n =>
      obtain ⟨m1, p1, p2⟩ := seq_some (a := take) (l := [expName, cond (atB [40]) (run n .args) some]) hs
      have h1 := take_less p1
      have ihn := run_lc n n (Nat.le_refl _)
      have h2 := Lc.le (e := false) (Lc.cons (l := [cond (atB [40]) (run n .args) some]) (l2 := [cond (atB [40]) (run n .args) some]) (Lc.expName _) (Lc.cons (l := []) (l2 := []) (Lc.cond (Cq.at _) (ihn .args (by intro q; cases q)) (Lc.nil _)) (Lc.nil _))) p2
      omega
end Go.Proofs.YtbomilleckgalaaGreat.Ps
