/-
  What the plain parser does with the tokens that it takes does not depend on what stands behind the next two significant tokens, on the fuel, nor on the flag (no program).
-/
import Derived.Test.YtbomilleckgalaaGreatPsPure
namespace Go.Proofs.YtbomilleckgalaaGreat.Ps
open Go.RowKit

theorem sigs_append (a b : List Tk) : sigs (a ++ b) = sigs a ++ sigs b := by unfold sigs; rw [List.filter_append]

/-- Nothing, or it ends with a significant token. -/
def En (u : List Tk) : Prop := u = [] ∨ ∃ x t, u = x ++ [t] ∧ sigB t = true
theorem En.append {u v : List Tk} (hu : En u) (hv : En v) : En (u ++ v) := by
  rcases hv with rfl | ⟨x, t, rfl, h⟩
  · rw [List.append_nil]; exact hu
  · exact Or.inr ⟨u ++ x, t, by rw [List.append_assoc], h⟩

/-- What stands behind w is z and z', and two significant tokens are in w where they differ. -/
def Ah (w z z' : List Tk) : Prop := z' = z ∨ 2 ≤ (sigs w).length
theorem Ah.more {w z z' : List Tk} (h : Ah w z z') (u : List Tk) : Ah (u ++ w) z z' := by
  rcases h with h | h
  · exact Or.inl h
  · exact Or.inr (by rw [sigs_append, List.length_append]; omega)
theorem Ah.pk {w z z' : List Tk} (h : Ah w z z') {n : Nat} (hn : n ≤ 1) : pk (w ++ z') n = pk (w ++ z) n := by
  rcases h with rfl | h
  · rfl
  · unfold Ps.pk
    rw [sigs_append, sigs_append, List.getElem?_append_left (by omega), List.getElem?_append_left (by omega)]
theorem Ah.fin {w z z' : List Tk} (h : Ah w z z') : (sigs (w ++ z')).isEmpty = (sigs (w ++ z)).isEmpty := by
  rcases h with rfl | h
  · rfl
  · rw [sigs_append, sigs_append]
    cases hs : sigs w with
    | nil => rw [hs] at h; simp at h
    | cons a l => rfl

/-- The two actions do the same, whatever the flag (where e is false), behind the two tokens next, and the fuel. -/
def Lc (e : Bool) (a a2 : PA) : Prop :=
  ∀ s s', a s = some s' → ∃ u, s.rest = u ++ s'.rest ∧ En u ∧ ∀ w z z' b, s'.rest = w ++ z → Ah w z z' → (e = true → b = s.val) →
    ∃ b', a2 ⟨s.ch, u ++ w ++ z', b⟩ = some ⟨s'.ch, w ++ z', b'⟩ ∧ (b = s.val → b' = s'.val)

/-- A question that two tokens answer. -/
def Cq (c : S → Bool) : Prop := ∀ ch w z z' b b', Ah w z z' → c ⟨ch, w ++ z', b'⟩ = c ⟨ch, w ++ z, b⟩

theorem Lc.eq {a a2 : PA} (h : Lc false a a2) : Lc true a a2 := by
  intro s s' hs
  obtain ⟨u, h1, h2, h3⟩ := h s s' hs
  exact ⟨u, h1, h2, fun w z z' b e1 e2 _ => h3 w z z' b e1 e2 (fun e => by cases e)⟩
theorem Lc.low {e : Bool} {a a2 : PA} (h : Lc false a a2) : Lc e a a2 := by
  cases e with
  | false => exact h
  | true => exact h.eq

theorem Lc.nil (e : Bool) : Lc e (some : PA) (some : PA) := by
  intro s s' hs
  cases hs
  refine ⟨[], rfl, Or.inl rfl, fun w z z' b e1 _ _ => ⟨b, ?_, fun h => h⟩⟩
  simp

theorem Lc.cons {e : Bool} {a a2 : PA} {l l2 : List PA} (h1 : Lc e a a2) (h2 : Lc e (seq l) (seq l2)) : Lc e (seq (a :: l)) (seq (a2 :: l2)) := by
  intro s s' hs
  obtain ⟨m, ha, hl⟩ := seq_some hs
  obtain ⟨u, p1, p2, p3⟩ := h1 s m ha
  obtain ⟨v, q1, q2, q3⟩ := h2 m s' hl
  refine ⟨u ++ v, by rw [p1, q1, List.append_assoc], p2.append q2, fun w z z' b e1 e2 e3 => ?_⟩
  obtain ⟨b1, r1, r2⟩ := p3 (v ++ w) z z' b (by rw [q1, e1, List.append_assoc]) (e2.more v) e3
  obtain ⟨b2, t1, t2⟩ := q3 w z z' b1 e1 e2 (fun he => r2 (e3 he))
  refine ⟨b2, ?_, fun hb => t2 (r2 hb)⟩
  have hr : u ++ v ++ w ++ z' = u ++ (v ++ w) ++ z' := by simp only [List.append_assoc]
  show (a2 ⟨s.ch, u ++ v ++ w ++ z', b⟩).bind (seq l2) = _
  rw [hr, r1]
  exact t1
theorem Lc.bind {e : Bool} {a a2 b b2 : PA} (h1 : Lc e a a2) (h2 : Lc e b b2) : Lc e (fun s => (a s).bind b) (fun s => (a2 s).bind b2) := by
  have hs : ∀ c : PA, seq [c] = c := fun c => by
    funext s
    show (c s).bind (seq []) = c s
    cases c s <;> rfl
  have h := Lc.cons h1 (l := [b]) (l2 := [b2]) (by rw [hs, hs]; exact h2)
  have h3 : ∀ c d : PA, seq [c, d] = fun s => (c s).bind d := fun c d => by
    funext s
    show (c s).bind (seq [d]) = _
    rw [hs]
  rw [h3, h3] at h
  exact h

theorem Lc.cond {e : Bool} {c : S → Bool} {a a2 b b2 : PA} (hc : Cq c) (h1 : Lc e a a2) (h2 : Lc e b b2) : Lc e (Ps.cond c a b) (Ps.cond c a2 b2) := by
  intro s s' hs
  unfold Ps.cond at hs
  cases hcs : c s with
  | true =>
    rw [if_pos hcs] at hs
    obtain ⟨u, p1, p2, p3⟩ := h1 s s' hs
    refine ⟨u, p1, p2, fun w z z' bb e1 e2 e3 => ?_⟩
    have hq : c ⟨s.ch, u ++ w ++ z', bb⟩ = true := by
      have := hc s.ch (u ++ w) z z' s.val bb (e2.more u)
      rw [this, ← hcs]
      congr 1
      cases s
      simp only [S.mk.injEq, true_and, and_true]
      simp only at p1
      rw [p1, e1, List.append_assoc]
    obtain ⟨b', r1, r2⟩ := p3 w z z' bb e1 e2 e3
    exact ⟨b', by unfold Ps.cond; rw [if_pos hq]; exact r1, r2⟩
  | false =>
    rw [if_neg (by rw [hcs]; decide)] at hs
    obtain ⟨u, p1, p2, p3⟩ := h2 s s' hs
    refine ⟨u, p1, p2, fun w z z' bb e1 e2 e3 => ?_⟩
    have hq : c ⟨s.ch, u ++ w ++ z', bb⟩ = false := by
      have := hc s.ch (u ++ w) z z' s.val bb (e2.more u)
      rw [this, ← hcs]
      congr 1
      cases s
      simp only [S.mk.injEq, true_and, and_true]
      simp only at p1
      rw [p1, e1, List.append_assoc]
    obtain ⟨b', r1, r2⟩ := p3 w z z' bb e1 e2 e3
    exact ⟨b', by unfold Ps.cond; rw [if_neg (by rw [hq]; decide)]; exact r1, r2⟩

/-- The flag itself is asked. -/
theorem Lc.flag {a a2 b b2 : PA} (h1 : Lc true a a2) (h2 : Lc true b b2) : Lc true (Ps.cond S.val a b) (Ps.cond S.val a2 b2) := by
  intro s s' hs
  unfold Ps.cond at hs
  cases hcs : s.val with
  | true =>
    rw [if_pos hcs] at hs
    obtain ⟨u, p1, p2, p3⟩ := h1 s s' hs
    refine ⟨u, p1, p2, fun w z z' bb e1 e2 e3 => ?_⟩
    obtain ⟨b', r1, r2⟩ := p3 w z z' bb e1 e2 (fun h => by rw [e3 h, hcs])
    exact ⟨b', by unfold Ps.cond; rw [if_pos (e3 rfl)]; exact r1, fun h => r2 (by rw [h, hcs])⟩
  | false =>
    rw [if_neg (by rw [hcs]; decide)] at hs
    obtain ⟨u, p1, p2, p3⟩ := h2 s s' hs
    refine ⟨u, p1, p2, fun w z z' bb e1 e2 e3 => ?_⟩
    obtain ⟨b', r1, r2⟩ := p3 w z z' bb e1 e2 (fun h => by rw [e3 h, hcs])
    exact ⟨b', by unfold Ps.cond; rw [if_neg (by rw [show S.val ⟨s.ch, u ++ w ++ z', bb⟩ = bb from rfl, e3 rfl]; decide)]; exact r1, fun h => r2 (by rw [h, hcs])⟩

/-- Behind a store of the flag it is the same on both sides. -/
theorem Lc.set {e : Bool} {l l2 : List PA} (c : Bool) (h : Lc true (seq l) (seq l2)) : Lc e (seq (setVal c :: l)) (seq (setVal c :: l2)) := by
  intro s s' hs
  obtain ⟨m, ha, hl⟩ := seq_some hs
  cases ha
  obtain ⟨u, p1, p2, p3⟩ := h _ s' hl
  refine ⟨u, p1, p2, fun w z z' b e1 e2 _ => ?_⟩
  obtain ⟨b', r1, r2⟩ := p3 w z z' c e1 e2 (fun _ => rfl)
  exact ⟨b', r1, fun _ => r2 rfl⟩
theorem Lc.setv (e c : Bool) : Lc e (setVal c) (setVal c) := by
  intro s s' hs
  cases hs
  refine ⟨[], rfl, Or.inl rfl, fun w z z' b e1 _ _ => ⟨c, by simp [setVal], fun _ => rfl⟩⟩

theorem Lc.add (e : Bool) (x : Tree) : Lc e (Ps.add x) (Ps.add x) := by
  intro s s' hs
  unfold Ps.add at hs
  split at hs
  · rename_i hl
    cases hs
    refine ⟨[], rfl, Or.inl rfl, fun w z z' b e1 _ _ => ⟨b, ?_, fun h => h⟩⟩
    unfold Ps.add
    rw [if_pos hl]
    simp
  · cases hs

theorem split_app {l a r : List Tk} (h : split l = some (a, r)) (X : List Tk) : split (a ++ X) = some (a, X) := by
  induction l generalizing a r with
  | nil => simp [split] at h
  | cons x q ih =>
    unfold split at h
    cases hx : sigB x with
    | true =>
      rw [hx] at h
      simp at h
      obtain ⟨rfl, rfl⟩ := h
      simp [split, hx]
    | false =>
      rw [hx] at h
      simp only [Bool.false_eq_true, if_false] at h
      cases hq : split q with
      | none => rw [hq] at h; simp at h
      | some y =>
        rw [hq] at h
        simp at h
        obtain ⟨rfl, rfl⟩ := h
        have := ih (a := y.1) (r := y.2) hq
        simp [split, hx, this]
theorem split_parts {l a r : List Tk} (h : split l = some (a, r)) : l = a ++ r ∧ ∃ x t, a = x ++ [t] ∧ sigB t = true ∧ sigs x = [] := by
  induction l generalizing a r with
  | nil => simp [split] at h
  | cons x q ih =>
    unfold split at h
    cases hx : sigB x with
    | true =>
      rw [hx] at h
      simp at h
      obtain ⟨rfl, rfl⟩ := h
      exact ⟨rfl, [], x, rfl, hx, rfl⟩
    | false =>
      rw [hx] at h
      simp only [Bool.false_eq_true, if_false] at h
      cases hq : split q with
      | none => rw [hq] at h; simp at h
      | some y =>
        rw [hq] at h
        simp at h
        obtain ⟨rfl, rfl⟩ := h
        obtain ⟨h1, x', t, h2, h3, h4⟩ := ih (a := y.1) (r := y.2) hq
        exact ⟨by rw [List.cons_append, ← h1], x :: x', t, by rw [h2]; rfl, h3, by simpa [sigs, hx] using h4⟩

theorem take_is {s s' : S} (h : take s = some s') : ∃ a r, split s.rest = some (a, r) ∧ s.ch.length + a.length < LIM ∧ s' = { s with ch := s.ch ++ a.map tokTree, rest := r } := by
  unfold take at h
  cases hs : split s.rest with
  | none => simp [hs] at h
  | some x =>
    simp only [hs, Option.bind_some] at h
    split at h
    · rename_i q; exact ⟨x.1, x.2, rfl, q, (Option.some.inj h).symm⟩
    · cases h

theorem Lc.take (e : Bool) : Lc e Ps.take Ps.take := by
  intro s s' hs
  obtain ⟨a, r, h1, h2, rfl⟩ := take_is hs
  obtain ⟨h3, x, t, h4, h5, _⟩ := split_parts h1
  refine ⟨a, h3, Or.inr ⟨x, t, h4, h5⟩, fun w z z' b e1 _ _ => ⟨b, ?_, fun h => h⟩⟩
  unfold Ps.take
  simp only
  rw [List.append_assoc, split_app h1]
  simp only [Option.bind_some]
  rw [if_pos h2]

theorem Cq.of {c : S → Bool} (f : Tk → Tk → Bool → Bool) (h : ∀ s, c s = f (pk s.rest 0) (pk s.rest 1) (sigs s.rest).isEmpty) : Cq c := by
  intro ch w z z' b b' ha
  rw [h, h]
  simp only
  rw [ha.pk (by omega), ha.pk (by omega), ha.fin]
theorem Cq.at (x : List UInt8) : Cq (atB x) := Cq.of (fun t _ _ => t.2 == x) (fun _ => rfl)

theorem Lc.accept (e : Bool) (x : List UInt8) : Lc e (Ps.accept x) (Ps.accept x) := Lc.cond (Cq.at x) (Lc.take e) (Lc.nil e)
theorem Lc.expect (e : Bool) (x : List UInt8) : Lc e (Ps.expect x) (Ps.expect x) := Lc.cond (Cq.at x) (Lc.take e) (Lc.add e _)
theorem Cq.name : Cq atName := Cq.of (fun t _ _ => t.1 == 103) (fun _ => rfl)
theorem Lc.expName (e : Bool) : Lc e Ps.expName Ps.expName := Lc.cond Cq.name (Lc.take e) (Lc.add e _)
theorem Lc.onAcc {e : Bool} (x : List UInt8) {a a2 b b2 : PA} (h1 : Lc e a a2) (h2 : Lc e b b2) : Lc e (Ps.onAcc x a b) (Ps.onAcc x a2 b2) := Lc.cond (Cq.at x) (Lc.bind (Lc.take e) h1) h2

theorem Lc.node {e : Bool} (k : Int) {a a2 : PA} (h : Lc e a a2) : Lc e (Ps.node k a) (Ps.node k a2) := by
  intro s s' hs
  unfold Ps.node at hs
  cases ha : a { s with ch := [] } with
  | none => simp [ha] at hs
  | some m =>
    simp only [ha, Option.bind_some] at hs
    split at hs
    · rename_i hl
      cases hs
      obtain ⟨u, p1, p2, p3⟩ := h _ m ha
      refine ⟨u, p1, p2, fun w z z' b e1 e2 e3 => ?_⟩
      obtain ⟨b', r1, r2⟩ := p3 w z z' b e1 e2 e3
      refine ⟨b', ?_, r2⟩
      unfold Ps.node
      simp only at r1 ⊢
      rw [r1]
      simp only [Option.bind_some]
      rw [if_pos hl]
    · cases hs
theorem Lc.wrap {e : Bool} (k : Int) {a a2 : PA} (h : Lc e a a2) : Lc e (Ps.wrap k a) (Ps.wrap k a2) := by
  intro s s' hs
  unfold Ps.wrap at hs
  cases hx : s.ch.getLast? with
  | none => simp [hx] at hs
  | some x =>
    simp only [hx, Option.bind_some] at hs
    have hs1 : ∀ c : PA, seq [c] = c := fun c => by
      funext s
      show (c s).bind (seq []) = c s
      cases c s <;> rfl
    obtain ⟨u, p1, p2, p3⟩ := Lc.node k (Lc.cons (Lc.add e x) (l := [a]) (l2 := [a2]) (by rw [hs1, hs1]; exact h)) _ s' hs
    refine ⟨u, p1, p2, fun w z z' b e1 e2 e3 => ?_⟩
    obtain ⟨b', r1, r2⟩ := p3 w z z' b e1 e2 e3
    refine ⟨b', ?_, r2⟩
    unfold Ps.wrap
    simp only [hx, Option.bind_some]
    exact r1
theorem Lc.insNone (e : Bool) (i : Nat) : Lc e (Ps.insNone i) (Ps.insNone i) := by
  intro s s' hs
  unfold Ps.insNone at hs
  split at hs
  · rename_i hl
    cases hs
    refine ⟨[], rfl, Or.inl rfl, fun w z z' b e1 _ _ => ⟨b, ?_, fun h => h⟩⟩
    unfold Ps.insNone
    rw [if_pos hl]
    simp
  · cases hs
/-- What is done next hangs on the children. -/
theorem Lc.ch {e : Bool} {a a2 : PA} {f f2 : List Tree → PA} (h1 : Lc e a a2) (h2 : ∀ c, Lc e (f c) (f2 c)) : Lc e (fun s => (a s).bind fun m => f m.ch m) (fun s => (a2 s).bind fun m => f2 m.ch m) := by
  intro s s' hs
  cases ha : a s with
  | none => simp [ha] at hs
  | some m =>
    simp only [ha, Option.bind_some] at hs
    obtain ⟨u, p1, p2, p3⟩ := h1 s m ha
    obtain ⟨v, q1, q2, q3⟩ := h2 m.ch m s' hs
    refine ⟨u ++ v, by rw [p1, q1, List.append_assoc], p2.append q2, fun w z z' b e1 e2 e3 => ?_⟩
    obtain ⟨b1, r1, r2⟩ := p3 (v ++ w) z z' b (by rw [q1, e1, List.append_assoc]) (e2.more v) e3
    obtain ⟨b2, t1, t2⟩ := q3 w z z' b1 e1 e2 (fun he => r2 (e3 he))
    refine ⟨b2, ?_, fun hb => t2 (r2 hb)⟩
    have hr : u ++ v ++ w ++ z' = u ++ (v ++ w) ++ z' := by simp only [List.append_assoc]
    simp only [hr]
    rw [r1]
    simp only [Option.bind_some]
    exact t1
/-- An action that hangs on what two tokens tell. -/
theorem Lc.by {e : Bool} {α : Type} (q : S → α) (hq : ∀ ch w z z' b b', Ah w z z' → q ⟨ch, w ++ z', b'⟩ = q ⟨ch, w ++ z, b⟩) {f f2 : α → PA} (h : ∀ x, Lc e (f x) (f2 x)) : Lc e (fun s => f (q s) s) (fun s => f2 (q s) s) := by
  intro s s' hs
  obtain ⟨u, p1, p2, p3⟩ := h (q s) s s' hs
  refine ⟨u, p1, p2, fun w z z' b e1 e2 e3 => ?_⟩
  obtain ⟨b', r1, r2⟩ := p3 w z z' b e1 e2 e3
  refine ⟨b', ?_, r2⟩
  have hq' : q ⟨s.ch, u ++ w ++ z', b⟩ = q s := by
    rw [hq s.ch (u ++ w) z z' s.val b (e2.more u)]
    congr 1
    cases s
    simp only [S.mk.injEq, true_and, and_true]
    simp only at p1
    rw [p1, e1, List.append_assoc]
  show f2 (q ⟨s.ch, u ++ w ++ z', b⟩) ⟨s.ch, u ++ w ++ z', b⟩ = _
  rw [hq']
  exact r1
end Go.Proofs.YtbomilleckgalaaGreat.Ps
