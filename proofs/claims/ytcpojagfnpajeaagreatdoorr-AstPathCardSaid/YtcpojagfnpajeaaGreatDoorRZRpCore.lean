/-
  That the plain parser ends, and how large its trees can be: the rules (no program).
  That the plain parser ends, and how large its trees can be: more rules (no program).
  How large the trees of the plain parser can be, and how much fuel it needs: for each of its functions (no program).
  The rules for each of the parser's functions (no program).
  The rules for each of the parser's functions (no program).
  The rules for each of the parser's functions (no program).
  The rules for the parser's functions that need more than the rules (no program).
  The rules for items and for the file; all together (no program).
  What the plain parser does with the tokens that it takes does not depend on what stands behind the next two significant tokens, on the fuel, nor on the flag (no program).
  The same of each function of the plain parser (no program).
  The plain parser loses nothing: the source of its children and of the tokens that are left stays the same (no program).
-/
import Derived.Test.YtcpojagfnpajeaaGreatDoorRZPsPure
namespace Go.Proofs.YtcpojagfnpajeaaGreatDoorR.Ps
open Go.RowKit

/-- How many bytes the tokens have. -/
def wt : List Tk → Nat
  | [] => 0
  | t :: r => t.2.length + wt r
theorem wt_append (a b : List Tk) : wt (a ++ b) = wt a + wt b := by
  induction a with
  | nil => simp [wt]
  | cons t r ih => simp [wt, ih]; omega

def Valid (ρ : List Tk) : Prop := ∀ t, t ∈ ρ → 100 ≤ t.1 ∧ 0 < t.2.length

theorem len_le_wt {ρ : List Tk} (h : Valid ρ) : ρ.length ≤ wt ρ := by
  induction ρ with
  | nil => simp
  | cons t r ih =>
    have := (h t (by simp)).2
    have := ih (fun x hx => h x (by simp [hx]))
    simp [wt]; omega

theorem tok_size (l : List Tk) : sizes (l.map tokTree) = l.length := by
  induction l with
  | nil => rfl
  | cons t r ih => simp [sizes, ih, tokTree, Tree.size]; omega
theorem tok_height (l : List Tk) : heights (l.map tokTree) ≤ 1 := by
  induction l with
  | nil => simp [heights]
  | cons t r ih => simp [heights, tokTree, Tree.height]; omega
theorem tok_wf {l : List Tk} (h : Valid l) : wfs (l.map tokTree) = true := by
  induction l with
  | nil => rfl
  | cons t r ih =>
    have h1 := (h t (by simp)).1
    simp [wfs, tokTree, Tree.wf, wfN, h1, ih (fun x hx => h x (by simp [hx]))]

/-- What an action has done: the children that it has added, the bytes that it has taken. -/
structure Rr (s s' : S) (new : List Tree) (w : Nat) : Prop where
  ch : s'.ch = s.ch ++ new
  suf : ∃ a, s.rest = a ++ s'.rest
  wt : wt s'.rest + w = wt s.rest
  wf : wfs new = true

theorem Rr.valid {s s' : S} {new : List Tree} {w : Nat} (h : Rr s s' new w) (hv : Valid s.rest) : Valid s'.rest := by
  obtain ⟨a, ha⟩ := h.suf
  intro t ht
  exact hv t (by rw [ha]; simp [ht])
theorem Rr.nil (s : S) (b : Bool) : Rr s { s with val := b } [] 0 := ⟨by simp, ⟨[], rfl⟩, rfl, rfl⟩
theorem Rr.trans {a b c : S} {n1 n2 : List Tree} {w1 w2 : Nat} (h : Rr a b n1 w1) (h' : Rr b c n2 w2) : Rr a c (n1 ++ n2) (w1 + w2) := by
  obtain ⟨x, hx⟩ := h.suf
  obtain ⟨y, hy⟩ := h'.suf
  refine ⟨by rw [h'.ch, h.ch, List.append_assoc], ⟨x ++ y, by rw [hx, hy, List.append_assoc]⟩, ?_, by rw [wfs_append, h.wf, h'.wf]; rfl⟩
  have := h.wt
  have := h'.wt
  omega

/-- Where p holds, M bytes at most are left and there is room for q children more: the action leads on; its new trees are no larger than 16 for each byte taken and c, no higher than 2 for each byte and e; m bytes at least are taken. -/
def Sp (M q : Nat) (p : S → Prop) (a : PA) (c e : Int) (m : Nat) (one : Bool) : Prop :=
  ∀ s, p s → Valid s.rest → wt s.rest ≤ M → s.ch.length + 20 * wt s.rest + q ≤ 500000 →
    ∃ s' new w, a s = some s' ∧ Rr s s' new w ∧ m ≤ w ∧ (sizes new : Int) ≤ 16 * w + c ∧ (heights new : Int) ≤ 2 * w + e ∧ (one = true → new.length = 1)

/-- The same of an action that turns the last child. -/
def SpW (M q : Nat) (p : S → Prop) (a : PA) (c e : Int) (m : Nat) : Prop :=
  ∀ s pre x, s.ch = pre ++ [x] → x.wf = true → p s → Valid s.rest → wt s.rest ≤ M → s.ch.length + 20 * wt s.rest + q ≤ 500000 →
    ∃ s' x' w, a s = some s' ∧ s'.ch = pre ++ [x'] ∧ x'.wf = true ∧ (∃ t, s.rest = t ++ s'.rest) ∧ wt s'.rest + w = wt s.rest ∧ m ≤ w ∧ (x'.size : Int) ≤ x.size + 16 * w + c ∧ (x'.height : Int) ≤ x.height + 2 * w + e

abbrev Tt : S → Prop := fun _ => True

theorem Sp.weak {M q : Nat} {p : S → Prop} {a : PA} {c e : Int} {m : Nat} {o : Bool} (h : Sp M q p a c e m o) {q' m' : Nat} {c' e' : Int} {o' : Bool} (hq : q ≤ q' := by decide) (hc : c ≤ c' := by decide) (he : e ≤ e' := by decide) (hm : m' ≤ m := by decide) (ho : o' = true → o = true := by decide) : Sp M q' p a c' e' m' o' := by
  intro s h1 h2 h3 h4
  obtain ⟨s', new, w, a1, a2, a3, a4, a5, a6⟩ := h s h1 h2 h3 (by omega)
  exact ⟨s', new, w, a1, a2, by omega, by omega, by omega, fun q => a6 (ho q)⟩
theorem Sp.pre {M q : Nat} {p p' : S → Prop} {a : PA} {c e : Int} {m : Nat} {o : Bool} (h : Sp M q p a c e m o) (hp : ∀ s, p' s → p s) : Sp M q p' a c e m o := fun s h1 => h s (hp s h1)
theorem SpW.weak {M q : Nat} {p : S → Prop} {a : PA} {c e : Int} {m : Nat} (h : SpW M q p a c e m) {q' m' : Nat} {c' e' : Int} (hq : q ≤ q' := by decide) (hc : c ≤ c' := by decide) (he : e ≤ e' := by decide) (hm : m' ≤ m := by decide) : SpW M q' p a c' e' m' := by
  intro s pre x h0 hw h1 h2 h3 h4
  obtain ⟨s', x', w, a1, a2, a3, a4, a5, a6, a7, a8⟩ := h s pre x h0 hw h1 h2 h3 (by omega)
  exact ⟨s', x', w, a1, a2, a3, a4, a5, by omega, by omega, by omega⟩
theorem SpW.pre {M q : Nat} {p p' : S → Prop} {a : PA} {c e : Int} {m : Nat} (h : SpW M q p a c e m) (hp : ∀ s, p' s → p s) : SpW M q p' a c e m := fun s pre x h0 hw h1 => h s pre x h0 hw (hp s h1)

/-! ### tokens -/

theorem split_ok {ρ : List Tk} (h : sigs ρ ≠ []) : ∃ a t r, split ρ = some (a, r) ∧ ρ = a ++ r ∧ sigs ρ = t :: sigs r ∧ t ∈ a := by
  induction ρ with
  | nil => exact absurd rfl h
  | cons x r ih =>
    cases hx : sigB x with
    | true => exact ⟨[x], x, r, by simp [split, hx], rfl, by simp [sigs, hx], by simp⟩
    | false =>
      have h' : sigs (x :: r) = sigs r := by simp [sigs, hx]
      rw [h'] at h
      obtain ⟨a, t, q, h1, h2, h3, h4⟩ := ih h
      exact ⟨x :: a, t, q, by simp [split, hx, h1], by rw [h2]; rfl, by rw [h']; exact h3, by simp [h4]⟩

theorem mem_wt {t : Tk} {a : List Tk} (h : t ∈ a) : t.2.length ≤ wt a := by
  induction a with
  | nil => simp at h
  | cons x r ih =>
    rcases List.mem_cons.1 h with rfl | h
    · simp [wt]
    · have := ih h; simp [wt]; omega

/-- Taking a token: of k bytes at least. -/
theorem take_sp (M k : Nat) (p : S → Prop) (h : ∀ s, p s → Valid s.rest → sigs s.rest ≠ [] ∧ k ≤ (pk s.rest 0).2.length) (hk : 1 ≤ k := by decide) : Sp M 0 p take (-15) (-1) k false := by
  intro s hp hv hM hq
  obtain ⟨hs, hk2⟩ := h s hp hv
  obtain ⟨a, t, r, h1, h2, h3, h4⟩ := split_ok hs
  have hva : Valid a := fun x hx => hv x (by rw [h2]; simp [hx])
  have hla := len_le_wt hva
  have hwt : wt s.rest = wt a + wt r := by rw [h2, wt_append]
  have ht : pk s.rest 0 = t := by unfold pk; rw [h3]; rfl
  have hm := mem_wt h4
  rw [ht] at hk2
  refine ⟨{ s with ch := s.ch ++ a.map tokTree, rest := r }, a.map tokTree, wt a, ?_, ⟨rfl, ⟨a, h2⟩, by show wt r + _ = _; omega, tok_wf hva⟩, by omega, ?_, ?_, fun h => by cases h⟩
  · unfold take
    rw [h1]
    show (if s.ch.length + a.length < LIM then _ else _) = _
    rw [if_pos (by unfold LIM; omega)]
  · rw [tok_size]; omega
  · have := tok_height a; omega

theorem at_take {x : List UInt8} (hx : x ≠ []) (s : S) (h : atB x s = true) : sigs s.rest ≠ [] ∧ x.length ≤ (pk s.rest 0).2.length := by
  have h1 : (pk s.rest 0).2 = x := eq_of_beq h
  refine ⟨fun e => ?_, by rw [h1]; exact Nat.le_refl _⟩
  have : pk s.rest 0 = (100, []) := by unfold pk; rw [e]; rfl
  rw [this] at h1
  exact hx h1.symm
theorem name_take (s : S) (hv : Valid s.rest) (h : atName s = true) : sigs s.rest ≠ [] ∧ 1 ≤ (pk s.rest 0).2.length := by
  have h1 : (pk s.rest 0).1 = 103 := eq_of_beq h
  have hs : sigs s.rest ≠ [] := fun e => by
    have : pk s.rest 0 = (100, []) := by unfold pk; rw [e]; rfl
    rw [this] at h1
    cases h1
  obtain ⟨a, t, r, _, h2, h3, h4⟩ := split_ok hs
  have ht : pk s.rest 0 = t := by unfold pk; rw [h3]; rfl
  rw [ht]
  exact ⟨hs, (hv t (by rw [h2]; simp [h4])).2⟩
theorem end_take (s : S) (hv : Valid s.rest) (h : sigs s.rest ≠ []) : sigs s.rest ≠ [] ∧ 1 ≤ (pk s.rest 0).2.length := by
  obtain ⟨a, t, r, _, h2, h3, h4⟩ := split_ok h
  have ht : pk s.rest 0 = t := by unfold pk; rw [h3]; rfl
  rw [ht]
  exact ⟨h, (hv t (by rw [h2]; simp [h4])).2⟩

theorem takeT (M : Nat) (x : List UInt8) (p : S → Prop) (hp : ∀ s, p s → atB x s = true) (hx : 1 ≤ x.length := by decide) : Sp M 0 p take (-15) (-1) x.length false :=
  take_sp M _ p (fun s h _ => at_take (fun e => by rw [e] at hx; exact absurd hx (by decide)) s (hp s h)) hx
theorem takeN (M : Nat) (p : S → Prop) (hp : ∀ s, p s → atName s = true) : Sp M 0 p take (-15) (-1) 1 false := take_sp M _ p (fun s h hv => name_take s hv (hp s h))

/-! ### leaves -/

theorem leaf_sp (M : Nat) (k : Int) (hk : (wfN k ⟨#[]⟩ 0) = true) : Sp M 1 Tt (add (leaf k)) 1 1 0 true := by
  intro s _ hv hM hq
  refine ⟨{ s with ch := s.ch ++ [leaf k] }, [leaf k], 0, ?_, ⟨rfl, ⟨[], rfl⟩, rfl, ?_⟩, Nat.le_refl _, by simp [sizes, leaf, Tree.size], by simp [heights, leaf, Tree.height], fun _ => rfl⟩
  · unfold add; rw [if_pos (by unfold LIM; omega)]
  · simp [wfs, leaf, Tree.wf, hk]
theorem miss_sp (M : Nat) : Sp M 1 Tt missTok 1 1 0 true := leaf_sp M 108 (by decide)
theorem missing_sp (M : Nat) : Sp M 1 Tt missing 1 1 0 true := leaf_sp M 46 (by decide)
theorem none_sp (M : Nat) : Sp M 1 Tt addNone 1 1 0 true := leaf_sp M 0 (by decide)
theorem id_sp (M : Nat) : Sp M 0 Tt some 0 0 0 false := fun s _ _ _ _ => ⟨s, [], 0, rfl, ⟨by simp, ⟨[], rfl⟩, rfl, rfl⟩, Nat.le_refl _, by decide, by decide, fun h => by cases h⟩
theorem val_sp (M : Nat) (b : Bool) : Sp M 0 Tt (setVal b) 0 0 0 false := fun s _ _ _ _ => ⟨_, [], 0, rfl, Rr.nil s b, Nat.le_refl _, by decide, by decide, fun h => by cases h⟩

/-! ### rules -/

theorem Sp.cond {M q : Nat} {p : S → Prop} {t : S → Bool} {a b : PA} {c e : Int} {m : Nat} {o : Bool} (h1 : Sp M q (fun s => p s ∧ t s = true) a c e m o) (h2 : Sp M q (fun s => p s ∧ t s = false) b c e m o) : Sp M q p (cond t a b) c e m o := by
  intro s hp hv hM hq
  unfold Ps.cond
  cases ht : t s with
  | true => exact h1 s ⟨hp, ht⟩ hv hM hq
  | false => exact h2 s ⟨hp, ht⟩ hv hM hq

theorem Sp.seq {M q1 q2 : Nat} {p : S → Prop} {a : PA} {l : List PA} {c1 e1 c2 e2 : Int} {m1 m2 : Nat} {o1 o2 : Bool} (h1 : Sp M q1 p a c1 e1 m1 o1) (h2 : m1 ≤ M → Sp (M - m1) q2 Tt (seq l) c2 e2 m2 o2) :
    Sp M (max q1 ((q2 : Int) + c1 - 4 * m1).toNat) p (seq (a :: l)) (c1 + c2) (max (e1 - 2 * m2) (e2 - 2 * m1)) (m1 + m2) false := by
  intro s hp hv hM hq
  obtain ⟨s1, n1, w1, a1, r1, b1, z1, y1, _⟩ := h1 s hp hv hM (by omega)
  have hl1 := length_le_sizes n1
  have hw1 := r1.wt
  have hc1 : s1.ch.length = s.ch.length + n1.length := by rw [r1.ch, List.length_append]
  obtain ⟨s2, n2, w2, a2, r2, b2, z2, y2, _⟩ := h2 (by omega) s1 trivial (r1.valid hv) (by omega) (by omega)
  refine ⟨s2, n1 ++ n2, w1 + w2, by simp [Ps.seq, a1, a2], r1.trans r2, by omega, ?_, ?_, fun h => by cases h⟩
  · rw [sizes_append]; omega
  · rw [heights_append]; omega
/-- The last of a sequence is one action alone. -/
theorem Sp.last {M q : Nat} {p : S → Prop} {a : PA} {c e : Int} {m : Nat} {o : Bool} (h : Sp M q p a c e m o) : Sp M q p (Ps.seq [a]) c e m o := by
  intro s hp hv hM hq
  obtain ⟨s', new, w, a1, a2⟩ := h s hp hv hM hq
  exact ⟨s', new, w, by simp [Ps.seq, a1], a2⟩

theorem Sp.node {M q : Nat} {p : S → Prop} {a : PA} {c e : Int} {m : Nat} {o : Bool} (k : Int) (hk : k < 100) (hMq : 20 * M + q ≤ 500000) (hp : ∀ s, p s → p { s with ch := [] }) (h : Sp M q p a c e m o) : Sp M 1 p (node k a) (c + 1) (e + 1) m true := by
  intro s hp1 hv hM hq
  obtain ⟨s1, n1, w1, a1, r1, b1, z1, y1, _⟩ := h { s with ch := [] } (hp s hp1) hv hM (by show 0 + 20 * wt s.rest + q ≤ _; omega)
  have hch : s1.ch = n1 := by rw [r1.ch]; rfl
  refine ⟨{ s1 with ch := s.ch ++ [inner k s1.ch] }, [inner k s1.ch], w1, ?_, ⟨rfl, r1.suf, r1.wt, ?_⟩, b1, ?_, ?_, fun _ => rfl⟩
  · unfold Ps.node
    rw [a1]
    show (if s.ch.length < LIM then _ else _) = _
    rw [if_pos (by unfold LIM; omega)]
  · rw [hch]
    have : ¬ (100 ≤ k) := by omega
    simp [wfs, inner, Tree.wf, wfN, this, r1.wf]; rfl
  · rw [hch]; simp [sizes, inner, Tree.size]; omega
  · rw [hch]; simp [heights, inner, Tree.height]; omega

theorem Sp.onAcc {M q1 q2 : Nat} {p : S → Prop} (x : List UInt8) (k : Nat) {a b : PA} {c1 e1 c2 e2 : Int} {m1 m2 : Nat} {o1 o2 : Bool} (h1 : k ≤ M → Sp (M - k) q1 Tt a c1 e1 m1 o1) (h2 : Sp M q2 (fun s => p s ∧ atB x s = false) b c2 e2 m2 o2) (hx : 1 ≤ k ∧ k ≤ x.length := by decide) :
    Sp M (max (q1 - (15 + 4 * k)) q2) p (onAcc x a b) (max (c1 - 15) c2) (max (max (-1 - 2 * m1) (e1 - 2 * k)) e2) (min (k + m1) m2) false := by
  intro s hp hv hM hq
  unfold Ps.onAcc
  cases hc : atB x s with
  | true =>
    obtain ⟨s1, n1, w1, a1, r1, b1, z1, y1, _⟩ := takeT M x (fun s => atB x s = true) (fun _ h => h) (by omega) s hc hv hM (by omega)
    have hl1 := length_le_sizes n1
    have hw1 := r1.wt
    have hc1 : s1.ch.length = s.ch.length + n1.length := by rw [r1.ch, List.length_append]
    obtain ⟨s2, n2, w2, a2, r2, b2, z2, y2, _⟩ := h1 (by omega) s1 trivial (r1.valid hv) (by omega) (by omega)
    refine ⟨s2, n1 ++ n2, w1 + w2, by simp [a1, a2], r1.trans r2, by omega, ?_, ?_, fun h => by cases h⟩
    · rw [sizes_append]; omega
    · rw [heights_append]; omega
  | false =>
    obtain ⟨s2, n2, w2, a2, r2, b2, z2, y2, _⟩ := h2 s ⟨hp, hc⟩ hv hM (by omega)
    exact ⟨s2, n2, w2, by simpa using a2, r2, by omega, by omega, by omega, fun h => by cases h⟩

theorem expect_sp (M : Nat) (x : List UInt8) (hx : 1 ≤ x.length := by decide) : Sp M 1 Tt (expect x) 1 1 0 false :=
  Sp.cond (t := atB x) (((takeT M x _ (fun _ h => h.2) hx).weak (hm := Nat.zero_le _))) (((miss_sp M).pre (fun _ _ => trivial)).weak)
theorem accept_sp (M : Nat) (x : List UInt8) (hx : 1 ≤ x.length := by decide) : Sp M 0 Tt (accept x) 0 0 0 false :=
  Sp.cond (t := atB x) (((takeT M x _ (fun _ h => h.2) hx).weak (hm := Nat.zero_le _))) (((id_sp M).pre (fun _ _ => trivial)).weak)
theorem name_sp (M : Nat) : Sp M 1 Tt expName 1 1 0 false :=
  Sp.cond (t := atName) ((takeN M _ (fun _ h => h.2)).weak) (((miss_sp M).pre (fun _ _ => trivial)).weak)
theorem name_sp' (M : Nat) : Sp M 0 (fun s => atName s = true) expName (-15) (-1) 1 false := by
  intro s hp hv hM hq
  obtain ⟨s', n, w, a, r⟩ := takeN M (fun s => atName s = true) (fun _ h => h) s hp hv hM hq
  exact ⟨s', n, w, by unfold expName; rw [if_pos hp]; exact a, r⟩
theorem exp_sp' (M : Nat) (x : List UInt8) (hx : 1 ≤ x.length := by decide) : Sp M 0 (fun s => atB x s = true) (expect x) (-15) (-1) x.length false := by
  intro s hp hv hM hq
  obtain ⟨s', n, w, a, r⟩ := takeT M x (fun s => atB x s = true) (fun _ h => h) hx s hp hv hM hq
  exact ⟨s', n, w, by unfold expect; rw [if_pos hp]; exact a, r⟩

/-! ### the last child turned -/

theorem idW (M : Nat) : SpW M 0 Tt some 0 0 0 := fun s pre x h0 hw _ _ _ _ => ⟨s, x, 0, rfl, h0, hw, ⟨[], rfl⟩, rfl, Nat.le_refl _, by omega, by omega⟩
theorem valW (M : Nat) (b : Bool) : SpW M 0 Tt (setVal b) 0 0 0 := fun s pre x h0 hw _ _ _ _ => ⟨{ s with val := b }, x, 0, rfl, h0, hw, ⟨[], rfl⟩, rfl, Nat.le_refl _, by omega, by omega⟩
theorem height_pos : ∀ x : Tree, 1 ≤ x.height | .node _ _ c => by simp [Tree.height]

theorem SpW.cond {M q : Nat} {p : S → Prop} {t : S → Bool} {a b : PA} {c e : Int} {m : Nat} (h1 : SpW M q (fun s => p s ∧ t s = true) a c e m) (h2 : SpW M q (fun s => p s ∧ t s = false) b c e m) : SpW M q p (Ps.cond t a b) c e m := by
  intro s pre x h0 hw hp hv hM hq
  unfold Ps.cond
  cases ht : t s with
  | true => exact h1 s pre x h0 hw ⟨hp, ht⟩ hv hM hq
  | false => exact h2 s pre x h0 hw ⟨hp, ht⟩ hv hM hq

theorem SpW.seq {M q1 q2 : Nat} {p : S → Prop} {a : PA} {l : List PA} {c1 e1 c2 e2 : Int} {m1 m2 : Nat} (h1 : SpW M q1 p a c1 e1 m1) (h2 : m1 ≤ M → SpW (M - m1) q2 Tt (Ps.seq l) c2 e2 m2) : SpW M (max q1 q2) p (Ps.seq (a :: l)) (c1 + c2) (e1 + e2) (m1 + m2) := by
  intro s pre x h0 hw hp hv hM hq
  obtain ⟨s1, x1, w1, a1, b1, d1, ⟨t1, f1⟩, g1, i1, j1, k1⟩ := h1 s pre x h0 hw hp hv hM (by omega)
  have hl : s1.ch.length = s.ch.length := by rw [b1, h0]; simp
  obtain ⟨s2, x2, w2, a2, b2, d2, ⟨t2, f2⟩, g2, i2, j2, k2⟩ := h2 (by omega) s1 pre x1 b1 d1 trivial (fun t ht => hv t (by rw [f1]; simp [ht])) (by omega) (by omega)
  exact ⟨s2, x2, w1 + w2, by simp [Ps.seq, a1, a2], b2, d2, ⟨t1 ++ t2, by rw [f1, f2, List.append_assoc]⟩, by omega, by omega, by omega, by omega⟩
theorem seqNilW (M : Nat) : SpW M 0 Tt (Ps.seq []) 0 0 0 := idW M

theorem SpW.wrap {M q : Nat} {p : S → Prop} {a : PA} {c e : Int} {m : Nat} {o : Bool} (k : Int) (hk : k < 100) (hMq : 20 * M + q + 1 ≤ 500000) (hp : ∀ s l, p s → p { s with ch := l }) (h : Sp M q p a c e m o) {e' : Int} (he : e ≤ e') (hm : 1 ≤ 2 * (m : Int) + e') : SpW M 0 p (wrap k a) (c + 1) e' m := by
  intro s pre x h0 hw hp1 hv hM hq
  obtain ⟨s1, n1, w1, a1, r1, b1, z1, y1, _⟩ := h { s with ch := [x] } (hp s _ hp1) hv hM (by show 1 + 20 * wt s.rest + q ≤ _; omega)
  have hch : s1.ch = x :: n1 := by rw [r1.ch]; rfl
  have hlen : s.ch.length = pre.length + 1 := by rw [h0]; simp
  have hpos := height_pos x
  refine ⟨{ s1 with ch := pre ++ [inner k s1.ch] }, inner k s1.ch, w1, ?_, rfl, ?_, r1.suf, r1.wt, b1, ?_, ?_⟩
  · unfold Ps.wrap Ps.node
    have e1 : s.ch.getLast? = some x := by rw [h0]; simp
    have e2 : s.ch.dropLast = pre := by rw [h0]; simp
    rw [e1, e2]
    have e3 : Ps.seq [add x, a] { s with ch := [] } = some s1 := by
      simp only [Ps.seq, add]
      rw [if_pos (by show (0 : Nat) < LIM; unfold LIM; omega)]
      simp only [Option.bind_some, List.nil_append, a1]
    show ((Ps.seq [add x, a] { s with ch := [] }).bind fun s' => if pre.length < LIM then some { s' with ch := pre ++ [inner k s'.ch] } else none) = _
    rw [e3]
    show (if pre.length < LIM then _ else _) = _
    rw [if_pos (by unfold LIM; omega)]
  · have : ¬ (100 ≤ k) := by omega
    rw [hch]
    simp [inner, Tree.wf, wfN, this, wfs, hw, r1.wf]; rfl
  · rw [hch]; simp [inner, Tree.size, sizes]; omega
  · rw [hch]; simp [inner, Tree.height, heights]; omega

/-- A tree, then the last child turned. -/
theorem Sp.turn {M q1 q2 : Nat} {p : S → Prop} {a : PA} {l : List PA} {c1 e1 c2 e2 : Int} {m1 m2 : Nat} (h1 : Sp M q1 p a c1 e1 m1 true) (h2 : m1 ≤ M → SpW (M - m1) q2 Tt (Ps.seq l) c2 e2 m2) : Sp M (max q1 ((q2 : Int) + c1 - 4 * m1).toNat) p (Ps.seq (a :: l)) (c1 + c2) (e1 + e2) (m1 + m2) true := by
  intro s hp hv hM hq
  obtain ⟨s1, n1, w1, a1, r1, b1, z1, y1, o1⟩ := h1 s hp hv hM (by omega)
  have hl1 := length_le_sizes n1
  have hw1 := r1.wt
  have hc1 : s1.ch.length = s.ch.length + n1.length := by rw [r1.ch, List.length_append]
  have hn := o1 rfl
  obtain ⟨x, rfl⟩ : ∃ x, n1 = [x] := List.length_eq_one_iff.1 hn
  have hwf : x.wf = true := by have := r1.wf; simpa [wfs] using this
  obtain ⟨s2, x2, w2, a2, b2, d2, f2, g2, i2, j2, k2⟩ := h2 (by omega) s1 s.ch x r1.ch hwf trivial (r1.valid hv) (by omega) (by omega)
  simp [sizes, heights] at z1 y1
  obtain ⟨t1, e1'⟩ := r1.suf
  obtain ⟨t2, e2'⟩ := f2
  refine ⟨s2, [x2], w1 + w2, by simp [Ps.seq, a1, a2], ⟨b2, ⟨t1 ++ t2, by rw [e1', e2', List.append_assoc]⟩, by omega, by simp [wfs, d2]⟩, by omega, ?_, ?_, fun _ => rfl⟩
  · simp [sizes]; omega
  · simp [heights]; omega
end Go.Proofs.YtcpojagfnpajeaaGreatDoorR.Ps

namespace Go.Proofs.YtcpojagfnpajeaaGreatDoorR.Ps
open Go.RowKit

theorem Sp.any {M q : Nat} {p : S → Prop} {a : PA} {c e : Int} {m : Nat} {o : Bool} (h : Sp M q Tt a c e m o) : Sp M q p a c e m o := h.pre (fun _ _ => trivial)
theorem SpW.any {M q : Nat} {p : S → Prop} {a : PA} {c e : Int} {m : Nat} (h : SpW M q Tt a c e m) : SpW M q p a c e m := h.pre (fun _ _ => trivial)
theorem Sp.cd {M q1 q2 : Nat} {p : S → Prop} {t : S → Bool} {a b : PA} {c1 e1 c2 e2 : Int} {m1 m2 : Nat} {o1 o2 : Bool} (h1 : Sp M q1 (fun s => p s ∧ t s = true) a c1 e1 m1 o1) (h2 : Sp M q2 (fun s => p s ∧ t s = false) b c2 e2 m2 o2) : Sp M (max q1 q2) p (Ps.cond t a b) (max c1 c2) (max e1 e2) (min m1 m2) (o1 && o2) :=
  Sp.cond (h1.weak (by omega) (by omega) (by omega) (by omega) (fun h => by cases o1; cases h; rfl)) (h2.weak (by omega) (by omega) (by omega) (by omega) (fun h => by cases o2; cases o1 <;> cases h; rfl))
theorem SpW.cd {M q1 q2 : Nat} {p : S → Prop} {t : S → Bool} {a b : PA} {c1 e1 c2 e2 : Int} {m1 m2 : Nat} (h1 : SpW M q1 (fun s => p s ∧ t s = true) a c1 e1 m1) (h2 : SpW M q2 (fun s => p s ∧ t s = false) b c2 e2 m2) : SpW M (max q1 q2) p (Ps.cond t a b) (max c1 c2) (max e1 e2) (min m1 m2) :=
  SpW.cond (h1.weak (by omega) (by omega) (by omega) (by omega)) (h2.weak (by omega) (by omega) (by omega) (by omega))
theorem Sp.wk {M q : Nat} {p : S → Prop} {a : PA} {c e : Int} {m : Nat} {o : Bool} {q' m' : Nat} {c' e' : Int} {o' : Bool} (h : Sp M q p a c e m o) (hs : q ≤ q' ∧ c ≤ c' ∧ e ≤ e' ∧ m' ≤ m ∧ (o' = true → o = true)) : Sp M q' p a c' e' m' o' := h.weak hs.1 hs.2.1 hs.2.2.1 hs.2.2.2.1 hs.2.2.2.2
theorem SpW.wk {M q : Nat} {p : S → Prop} {a : PA} {c e : Int} {m : Nat} {q' m' : Nat} {c' e' : Int} (h : SpW M q p a c e m) (hs : q ≤ q' ∧ c ≤ c' ∧ e ≤ e' ∧ m' ≤ m) : SpW M q' p a c' e' m' := h.weak hs.1 hs.2.1 hs.2.2.1 hs.2.2.2
theorem Sp.never {M : Nat} {p : S → Prop} {a : PA} (h : ∀ s, p s → False) : Sp M 0 p a (-99) (-99) 99 true := fun s hp => (h s hp).elim

theorem sig_text {x : List UInt8} {s : S} (h : atB x s = true) (hx : x ≠ []) : sigs s.rest ≠ [] := (at_take hx s h).1
theorem sig_kind {k : Int} {s : S} (h : ((pk s.rest 0).1 == k) = true) (hk : k ≠ 100) : sigs s.rest ≠ [] := by
  intro e
  have h1 : (pk s.rest 0).1 = k := eq_of_beq h
  have : pk s.rest 0 = (100, []) := by unfold pk; rw [e]; rfl
  rw [this] at h1
  exact hk h1.symm
theorem sig_end {s : S} (h : atEnd s = false) : sigs s.rest ≠ [] := by
  intro e
  unfold atEnd at h
  rw [e] at h
  cases h

theorem tk {M : Nat} {p : S → Prop} (x : List UInt8) (k : Nat) (hp : ∀ s, p s → atB x s = true) (hx : 1 ≤ k ∧ k ≤ x.length := by decide) : Sp M 0 p take (-15) (-1) k false :=
  take_sp M _ p (fun s h _ => have h1 := at_take (fun e => by rw [e] at hx; have := hx.2; simp at this; omega) s (hp s h); ⟨h1.1, Nat.le_trans hx.2 h1.2⟩) hx.1
theorem tkN {M : Nat} {p : S → Prop} (hp : ∀ s, p s → atName s = true) : Sp M 0 p take (-15) (-1) 1 false := takeN M p hp
theorem tkS {M : Nat} {p : S → Prop} (hp : ∀ s, p s → sigs s.rest ≠ []) : Sp M 0 p take (-15) (-1) 1 false := take_sp M _ p (fun s h hv => end_take s hv (hp s h)) (by decide)

theorem exp1 (M : Nat) (x : List UInt8) (hx : 1 ≤ x.length := by decide) : Sp M 0 (fun s => atB x s = true) (expect x) (-15) (-1) 1 false := (exp_sp' M x hx).weak (hm := hx) (ho := fun h => h)

/-- A token, and a fact of what follows it. -/
theorem Sp.takeThen {M k q2 : Nat} {p p2 : S → Prop} {l : List PA} {c2 e2 : Int} {m2 : Nat} {o2 : Bool} (h1 : Sp M 0 p take (-15) (-1) k false) (hp : ∀ s s', p s → sigs s'.rest = (sigs s.rest).tail → p2 s') (h2 : k ≤ M → Sp (M - k) q2 p2 (Ps.seq l) c2 e2 m2 o2) :
    Sp M (q2 - 15 - 4 * k) p (Ps.seq (take :: l)) (-15 + c2) (max (-1 - 2 * m2) (e2 - 2 * k)) (k + m2) false := by
  intro s hp1 hv hM hq
  obtain ⟨s1, n1, w1, a1, r1, b1, z1, y1, _⟩ := h1 s hp1 hv hM (by omega)
  have hl1 := length_le_sizes n1
  have hw1 := r1.wt
  have hc1 : s1.ch.length = s.ch.length + n1.length := by rw [r1.ch, List.length_append]
  have hs : sigs s1.rest = (sigs s.rest).tail := by
    have h := a1
    unfold take at h
    cases hs : split s.rest with
    | none => simp [hs] at h
    | some x =>
      have hne : sigs s.rest ≠ [] := fun e => by
        have : ∀ ρ : List Tk, sigs ρ = [] → split ρ = none := by
          intro ρ
          induction ρ with
          | nil => intro _; rfl
          | cons t r ih =>
            intro hh
            cases hx : sigB t with
            | true => simp [sigs, hx] at hh
            | false =>
              have : sigs r = [] := by simpa [sigs, hx] using hh
              simp [split, hx, ih this]
        rw [this _ e] at hs
        cases hs
      obtain ⟨a, t, r, e1, e2, e3, _⟩ := split_ok hne
      rw [e1] at hs
      cases hs
      rw [e1] at h
      change (if s.ch.length + a.length < LIM then _ else _) = _ at h
      split at h
      · cases h; rw [e3]; rfl
      · cases h
  obtain ⟨s2, n2, w2, a2, r2, b2, z2, y2, _⟩ := h2 (by omega) s1 (hp s s1 hp1 hs) (r1.valid hv) (by omega) (by omega)
  refine ⟨s2, n1 ++ n2, w1 + w2, by simp [Ps.seq, a1, a2], r1.trans r2, by omega, ?_, ?_, fun h => by cases h⟩
  · rw [sizes_append]; omega
  · rw [heights_append]; omega

/-- A missing tree, then it is turned. -/
theorem Sp.zero {M q2 : Nat} {p : S → Prop} {a : PA} {l : List PA} {c2 e2 : Int} {m2 : Nat} (hz : ∀ s, p s → s.ch.length < LIM → a s = some { s with ch := s.ch ++ [leaf 46] }) (hp : ∀ s l, p s → p { s with ch := l }) (h2 : SpW M q2 p (Ps.seq l) c2 e2 m2) : Sp M (q2 + 1) p (Ps.seq (a :: l)) (1 + c2) (1 + e2) m2 true := by
  intro s hp1 hv hM hq
  have hwf : (leaf 46).wf = true := by decide
  obtain ⟨s2, x2, w2, a2, b2, d2, f2, g2, i2, j2, k2⟩ := h2 { s with ch := s.ch ++ [leaf 46] } s.ch (leaf 46) rfl hwf (hp s _ hp1) hv hM (by show (s.ch ++ [leaf 46]).length + 20 * wt s.rest + q2 ≤ _; simp; omega)
  have hz1 := hz s hp1 (by unfold LIM; omega)
  have e1 : (leaf 46).size = 1 := rfl
  have e2 : (leaf 46).height = 1 := rfl
  refine ⟨s2, [x2], w2, by simp [Ps.seq, hz1, a2], ⟨b2, f2, g2, by simp [wfs, d2]⟩, i2, ?_, ?_, fun _ => rfl⟩
  · simp [sizes]; omega
  · simp [heights]; omega

theorem SpW.fn {M q : Nat} {p : S → Prop} {f : S → PA} {c e : Int} {m : Nat} (h : ∀ s, p s → SpW M q p (f s) c e m) : SpW M q p (fun s => f s s) c e m := fun s pre x h0 hw hp => h s hp s pre x h0 hw hp

theorem takeAll_sp (M : Nat) : Sp M 0 Tt takeAll 0 1 0 false := by
  intro s _ hv hM hq
  have hl := len_le_wt hv
  refine ⟨{ s with ch := s.ch ++ s.rest.map tokTree, rest := [] }, s.rest.map tokTree, wt s.rest, ?_, ⟨rfl, ⟨s.rest, by simp⟩, by simp [wt], tok_wf hv⟩, Nat.zero_le _, ?_, ?_, fun h => by cases h⟩
  · unfold takeAll; rw [if_pos (by unfold LIM; omega)]
  · rw [tok_size]; omega
  · have := tok_height s.rest; omega

/-! ### where expressions start -/

def startP (s : S) : Bool := exprKind (pk s.rest 0).1 || atB [116, 114, 117, 101] s || atB [102, 97, 108, 115, 101] s || atB [40] s || atB [123] s || atB [105, 102] s || atB [109, 97, 116, 99, 104] s || atB [110, 101, 119] s || atB [124] s || atB [124, 124] s
def startF (s : S) : Bool := startP s || atB [46] s
def startU (s : S) : Bool := startF s || atB [45] s || atB [33] s || atB [42] s || atB [38] s

theorem expr_start {s : S} (h : atExpr s = true) : startU s = true ∨ 1 ≤ prec (pk s.rest 0).2 := by
  unfold atExpr at h
  simp only [Bool.or_eq_true, decide_eq_true_eq] at h
  rcases h with (h | h) | h
  · exact Or.inl (by simp [startU, startF, startP, h])
  · refine Or.inl ?_
    unfold exprText at h
    simp only [Bool.or_eq_true] at h
    simp only [startU, startF, startP, atB, Bool.or_eq_true]
    rcases h with (((((((((h | h) | h) | h) | h) | h) | h) | h) | h) | h) | h <;> simp [h]
  · exact Or.inr h
theorem lit_start {s : S} (h : atLit s = true) : startP s = true := by
  unfold atLit at h
  simp only [Bool.or_eq_true] at h
  simp only [startP, exprKind, Bool.or_eq_true]
  rcases h with (h | h) | h <;> simp [h]

theorem prec_text {x : List UInt8} (h : prec x ≠ 0) : x ≠ [] := by
  intro e; subst e; exact h rfl

/-! ### nothing is taken where no expression starts -/

theorem zero_prim (n : Nat) (s : S) (h : startP s = false) (hl : s.ch.length < LIM) : run (n + 1) .prim s = some { s with ch := s.ch ++ [leaf 46] } := by
  show body (run n) .prim s = _
  simp only [startP, exprKind, Bool.or_eq_false_iff] at h
  obtain ⟨⟨⟨⟨⟨⟨⟨⟨⟨⟨⟨h1, h2⟩, h3⟩, h4⟩, h5⟩, h6⟩, h7⟩, h8⟩, h9⟩, h10⟩, h11⟩, h12⟩ := h
  simp only [body, cond, h1, h2, h3, h4, h5, h6, h7, h8, h9, h10, h11, h12, Bool.or_false, Bool.false_eq_true, if_false, missing, add, hl, if_true]
theorem zero_postLoop (n : Nat) (s : S) (h1 : atB [40] s = false) (h2 : atB [46] s = false) : run (n + 1) .postLoop s = some s := by
  show body (run n) .postLoop s = _
  simp only [body, cond, h1, h2, Bool.false_eq_true, if_false]
theorem zero_posF (n : Nat) (s : S) (h : startF s = false) (hl : s.ch.length < LIM) : run (n + 2) .posF s = some { s with ch := s.ch ++ [leaf 46] } := by
  show seq [run (n + 1) .prim, run (n + 1) .postLoop] s = _
  simp only [startF, Bool.or_eq_false_iff] at h
  have h0 := h.1
  simp only [startP, Bool.or_eq_false_iff] at h0
  have e1 := zero_prim n s h.1 hl
  have e2 := zero_postLoop n { s with ch := s.ch ++ [leaf 46] } h0.1.1.1.1.1.1.2 h.2
  simp [seq, e1, e2]
theorem zero_unary (n : Nat) (s : S) (h : startU s = false) (hl : s.ch.length < LIM) : run (n + 3) .unary s = some { s with ch := s.ch ++ [leaf 46] } := by
  show body (run (n + 2)) .unary s = _
  simp only [startU, Bool.or_eq_false_iff] at h
  obtain ⟨⟨⟨⟨h1, h2⟩, h3⟩, h4⟩, h5⟩ := h
  simp only [body, cond, h2, h3, h4, h5, Bool.or_false, Bool.false_eq_true, if_false]
  exact zero_posF n s h1 hl
theorem zero_loop (n k : Nat) (s : S) (h : prec (pk s.rest 0).2 ≠ k) : run (n + 1) (.operLoop k) s = some s := by
  show body (run n) (.operLoop k) s = _
  have : (prec (pk s.rest 0).2 == k) = false := by simp [h]
  simp only [body, cond, this, Bool.false_eq_true, if_false]
theorem zero_oper : ∀ (j k n : Nat) (s : S), 6 ≤ k + j → startU s = false → prec (pk s.rest 0).2 < k → s.ch.length < LIM → run (n + j + 4) (.oper k) s = some { s with ch := s.ch ++ [leaf 46] }
  | 0, k, n, s, hk, h, hp, hl => by
    show (if 5 < k then run (n + 3) .unary else _) s = _
    rw [if_pos (by omega)]
    exact zero_unary n s h hl
  | j + 1, k, n, s, hk, h, hp, hl => by
    show (if 5 < k then run (n + (j + 1) + 3) .unary else seq [run (n + (j + 1) + 3) (.oper (k + 1)), run (n + (j + 1) + 3) (.operLoop k)]) s = _
    split
    · have : n + (j + 1) + 3 = (n + j + 1) + 3 := by omega
      rw [this]
      exact zero_unary _ s h hl
    · have e1 := zero_oper j (k + 1) n s (by omega) h (by omega) hl
      have e2 := zero_loop (n + j + 3) k { s with ch := s.ch ++ [leaf 46] } (by show prec (pk s.rest 0).2 ≠ k; omega)
      have e3 : n + (j + 1) + 3 = n + j + 4 := by omega
      rw [e3]
      simp [seq, e1, e2]
end Go.Proofs.YtcpojagfnpajeaaGreatDoorR.Ps

namespace Go.Proofs.YtcpojagfnpajeaaGreatDoorR.Ps
open Go.RowKit

theorem SpW.never {M : Nat} {p : S → Prop} {a : PA} (h : ∀ s, p s → False) : SpW M 0 p a (-99) (-99) 99 := fun s _ _ _ _ hp => (h s hp).elim
theorem memK_lt (s : S) : memK s < 100 := by unfold memK; split <;> split <;> decide
theorem pk_tail {s s' : S} (hs : sigs s'.rest = (sigs s.rest).tail) (n : Nat) : pk s'.rest n = pk s.rest (n + 1) := by unfold pk; rw [hs]; simp
theorem paren_next {s s' : S} {x : List UInt8} (h : ((pk s.rest 1).2 == x) = true) (hs : sigs s'.rest = (sigs s.rest).tail) : atB x s' = true := by unfold atB; rw [pk_tail hs]; exact h

def eL : El → Int | .arm => 3 | .pat => 2 | _ => 1

/-- What holds with fuel n. -/
structure I (n : Nat) : Prop where
  seg : ∀ M, 1 + 45 * M ≤ n → M ≤ 2000 → Sp M 1 Tt (run n (.sg .seg)) 2 2 0 true
  segN : ∀ M, 1 + 45 * M ≤ n → M ≤ 2000 → Sp M 1 (fun s => atName s = true) (run n (.sg .seg)) (-14) 0 1 true
  tseg : ∀ M, 1 + 45 * M ≤ n → M ≤ 2000 → Sp M 1 Tt (run n (.sg .tseg)) 2 2 0 true
  tsegN : ∀ M, 1 + 45 * M ≤ n → M ≤ 2000 → Sp M 1 (fun s => atName s = true) (run n (.sg .tseg)) (-14) 0 1 true
  segLoop : ∀ M, 2 + 45 * M ≤ n → M ≤ 2000 → Sp M 1 Tt (run n (.pathLoop .seg)) 0 0 0 false
  segPath : ∀ M, 3 + 45 * M ≤ n → M ≤ 2000 → Sp M 1 Tt (run n (.path .seg)) 3 3 0 true
  segPathN : ∀ M, 3 + 45 * M ≤ n → M ≤ 2000 → Sp M 1 (fun s => atName s = true) (run n (.path .seg)) (-13) 1 1 true
  tsegLoop : ∀ M, 2 + 45 * M ≤ n → M ≤ 2000 → Sp M 1 Tt (run n (.pathLoop .tseg)) 0 0 0 false
  tsegPath : ∀ M, 3 + 45 * M ≤ n → M ≤ 2000 → Sp M 1 Tt (run n (.path .tseg)) 3 3 0 true
  tsegPathN : ∀ M, 3 + 45 * M ≤ n → M ≤ 2000 → Sp M 1 (fun s => atName s = true) (run n (.path .tseg)) (-13) 1 1 true
  typ : ∀ M, 4 + 45 * M ≤ n → M ≤ 2000 → Sp M 1 Tt (run n .typ) 1 1 0 true
  typP : ∀ M, 4 + 45 * M ≤ n → M ≤ 2000 → Sp M 1 (fun s => atType s = true) (run n .typ) (-11) 1 1 true
  optTyp : ∀ (x : List UInt8) (_ : 1 ≤ x.length), ∀ M, 5 + 45 * M ≤ n → M ≤ 2000 → Sp M 1 Tt (run n (.optTyp x)) 1 1 0 false
  typs : ∀ (cl : List UInt8) (_ : 1 ≤ cl.length), ∀ M, 31 + 45 * M ≤ n → M ≤ 2000 → Sp M 1 Tt (run n (.typs cl)) 1 1 0 false
  tparams : ∀ M, 6 + 45 * M ≤ n → M ≤ 2000 → Sp M 1 Tt (run n .tparams) 1 1 0 true
  tparam : ∀ M, 7 + 45 * M ≤ n → M ≤ 2000 → Sp M 1 (fun s => atName s = true) (run n .tparam) (-14) 0 1 true
  bounds : ∀ M, 8 + 45 * M ≤ n → M ≤ 2000 → Sp M 1 Tt (run n .bounds) 0 1 0 false
  list : ∀ (e : El) (cl : List UInt8) (_ : 1 ≤ cl.length), ∀ M, 30 + 45 * M ≤ n → M ≤ 2000 → Sp M 1 Tt (run n (.list cl e)) 1 (eL e) 0 false
  params : ∀ (cl : List UInt8) (_ : 1 ≤ cl.length), ∀ M, 31 + 45 * M ≤ n → M ≤ 2000 → Sp M 1 Tt (run n (.params cl)) 2 2 0 true
  param : ∀ M, 7 + 45 * M ≤ n → M ≤ 2000 → Sp M 1 (fun s => atName s = true) (run n .param) (-13) 0 1 true
  block : ∀ M, 26 + 45 * M ≤ n → M ≤ 2000 → Sp M 1 Tt (run n .block) 4 3 0 true
  blockP : ∀ M, 10 + 45 * M ≤ n → M ≤ 2000 → Sp M 1 (fun s => atB [123] s = true) (run n .block) (-12) 1 1 true
  blockLoop : ∀ M, 25 + 45 * M ≤ n → M ≤ 2000 → Sp M 1 Tt (run n .blockLoop) 0 2 0 false
  stmt : ∀ M, 24 + 45 * M ≤ n → M ≤ 2000 → Sp M 1 (fun s => stmtOn s = true) (run n .stmt) (-4) 2 1 false
  estmt : ∀ M, 23 + 45 * M ≤ n → M ≤ 2000 → Sp M 1 (fun s => atExpr s = true) (run n .estmt) (-6) 2 1 false
  letS : ∀ M, 5 + 45 * M ≤ n → M ≤ 2000 → Sp M 1 (fun s => atB [108, 101, 116] s = true) (run n .letS) (-10) (-1) 3 false
  whileS : ∀ M, 5 + 45 * M ≤ n → M ≤ 2000 → Sp M 1 (fun s => atB [119, 104, 105, 108, 101] s = true) (run n .whileS) (-10) (-1) 5 false
  returnS : ∀ M, 5 + 45 * M ≤ n → M ≤ 2000 → Sp M 1 (fun s => atB [114, 101, 116, 117, 114, 110] s = true) (run n .returnS) (-12) (-1) 6 false
  pat : ∀ M, 13 + 45 * M ≤ n → M ≤ 2000 → Sp M 1 Tt (run n .pat) 1 2 0 true
  patP : ∀ M, 13 + 45 * M ≤ n → M ≤ 2000 → Sp M 1 (fun s => atPat s = true) (run n .pat) (-8) 2 1 true
  vmatch : ∀ M, 5 + 45 * M ≤ n → M ≤ 2000 → Sp M 1 (fun s => atName s = true) (run n .vmatch) (-13) 1 1 false
  expr : ∀ M, 22 + 45 * M ≤ n → M ≤ 2000 → Sp M 1 Tt (run n .expr) 1 1 0 true
  exprP : ∀ M, 22 + 45 * M ≤ n → M ≤ 2000 → Sp M 1 (fun s => atExpr s = true) (run n .expr) (-8) 1 1 true
  oper : ∀ (k : Nat) (_ : 1 ≤ k) (_ : k ≤ 6), ∀ M, 22 - k + 45 * M ≤ n → M ≤ 2000 → Sp M 1 Tt (run n (.oper k)) 1 1 0 true
  operP : ∀ (k : Nat) (_ : 1 ≤ k) (_ : k ≤ 6), ∀ M, 22 - k + 45 * M ≤ n → M ≤ 2000 → Sp M 1 (fun s => startU s = true ∨ k ≤ prec (pk s.rest 0).2) (run n (.oper k)) (-8) 1 1 true
  operLoop : ∀ (k : Nat) (_ : 1 ≤ k) (_ : k ≤ 5), ∀ M, 5 + 45 * M ≤ n → M ≤ 2000 → SpW M 0 Tt (run n (.operLoop k)) 0 0 0
  operLoopP : ∀ (k : Nat) (_ : 1 ≤ k) (_ : k ≤ 5), ∀ M, 5 + 45 * M ≤ n → M ≤ 2000 → SpW M 0 (fun s => prec (pk s.rest 0).2 = k) (run n (.operLoop k)) (-13) 0 1
  unary : ∀ M, 15 + 45 * M ≤ n → M ≤ 2000 → Sp M 1 Tt (run n .unary) 1 1 0 true
  unaryP : ∀ M, 15 + 45 * M ≤ n → M ≤ 2000 → Sp M 1 (fun s => startU s = true) (run n .unary) (-8) 1 1 true
  posf : ∀ M, 14 + 45 * M ≤ n → M ≤ 2000 → Sp M 1 Tt (run n .posF) 1 1 0 true
  posfP : ∀ M, 14 + 45 * M ≤ n → M ≤ 2000 → Sp M 1 (fun s => startF s = true) (run n .posF) (-8) 1 1 true
  postLoop : ∀ M, 13 + 45 * M ≤ n → M ≤ 2000 → SpW M 0 Tt (run n .postLoop) 0 0 0
  postLoopP : ∀ M, 13 + 45 * M ≤ n → M ≤ 2000 → SpW M 0 (fun s => atB [40] s = true ∨ atB [46] s = true) (run n .postLoop) (-12) 0 1
  args : ∀ M, 5 + 45 * M ≤ n → M ≤ 2000 → Sp M 1 (fun s => atB [40] s = true) (run n .args) (-14) (-1) 1 false
  member : ∀ M, 6 + 45 * M ≤ n → M ≤ 2000 → Sp M 1 (fun s => atB [46] s = true) (run n .member) (-14) (-1) 1 false
  prim : ∀ M, 12 + 45 * M ≤ n → M ≤ 2000 → Sp M 1 Tt (run n .prim) 1 1 0 true
  primP : ∀ M, 12 + 45 * M ≤ n → M ≤ 2000 → Sp M 1 (fun s => startP s = true) (run n .prim) (-8) 1 1 true
  pathMac : ∀ M, 6 + 45 * M ≤ n → M ≤ 2000 → Sp M 1 (fun s => atName s = true) (run n .pathMac) (-13) 1 1 true
  paren : ∀ M, 5 + 45 * M ≤ n → M ≤ 2000 → Sp M 1 (fun s => atB [40] s = true) (run n .paren) (-13) (-1) 1 false
  ifE : ∀ M, 5 + 45 * M ≤ n → M ≤ 2000 → Sp M 1 (fun s => atB [105, 102] s = true) (run n .ifE) (-9) (-1) 2 false
  matchE : ∀ M, 5 + 45 * M ≤ n → M ≤ 2000 → Sp M 1 (fun s => atB [109, 97, 116, 99, 104] s = true) (run n .matchE) (-12) (-1) 5 false
  arm : ∀ M, 23 + 45 * M ≤ n → M ≤ 2000 → Sp M 1 (fun s => atPat s = true) (run n .arm) (-5) 3 1 true
  structLit : ∀ M, 5 + 45 * M ≤ n → M ≤ 2000 → Sp M 1 (fun s => atB [110, 101, 119] s = true) (run n .structLit) (-10) (-1) 3 false
  finit : ∀ M, 7 + 45 * M ≤ n → M ≤ 2000 → Sp M 1 (fun s => atName s = true) (run n .finit) (-12) 0 1 true
  lambda : ∀ M, 5 + 45 * M ≤ n → M ≤ 2000 → Sp M 1 (fun s => atB [124] s = true ∨ atB [124, 124] s = true) (run n .lambda) (-12) 0 1 false
  sigN : ∀ M, 32 + 45 * M ≤ n → M ≤ 2000 → Sp M 10 Tt (run n .sigN) 6 2 0 false
  funcI : ∀ M, 33 + 45 * M ≤ n → M ≤ 2000 → Sp M 20 Tt (run n .funcI) 10 3 0 false
  structI : ∀ M, 31 + 45 * M ≤ n → M ≤ 2000 → Sp M 20 Tt (run n .structI) 4 1 0 false
  field : ∀ M, 7 + 45 * M ≤ n → M ≤ 2000 → Sp M 1 (fun s => atName s = true) (run n .field) (-12) 0 1 true
  enumI : ∀ M, 31 + 45 * M ≤ n → M ≤ 2000 → Sp M 20 Tt (run n .enumI) 4 1 0 false
  variant : ∀ M, 7 + 45 * M ≤ n → M ≤ 2000 → Sp M 1 (fun s => atName s = true) (run n .variant) (-14) 0 1 true
  traitI : ∀ M, 20 + 45 * M ≤ n → M ≤ 2000 → Sp M 20 Tt (run n .traitI) 3 1 0 false
  implI : ∀ M, 20 + 45 * M ≤ n → M ≤ 2000 → Sp M 20 Tt (run n .implI) 5 1 0 false
  members : ∀ M, 7 + 45 * M ≤ n → M ≤ 2000 → Sp M 4 Tt (run n .members) 2 1 0 false
  membersLoop : ∀ M, 6 + 45 * M ≤ n → M ≤ 2000 → Sp M 1 Tt (run n .membersLoop) 1 1 0 false
  assoc : ∀ M, 5 + 45 * M ≤ n → M ≤ 2000 → Sp M 1 (fun s => atB [116, 121, 112, 101] s = true) (run n .assoc) (-12) (-1) 4 false
  method : ∀ M, 5 + 45 * M ≤ n → M ≤ 2000 → Sp M 10 (fun s => atB [102, 110] s = true) (run n .method) (-5) (-1) 2 false
  constI : ∀ M, 23 + 45 * M ≤ n → M ≤ 2000 → Sp M 20 Tt (run n .constI) 6 1 0 false
  macroI : ∀ M, 32 + 45 * M ≤ n → M ≤ 2000 → Sp M 20 Tt (run n .macroI) 7 2 0 false
  useI : ∀ M, 5 + 45 * M ≤ n → M ≤ 2000 → Sp M 20 Tt (run n .useI) 5 3 0 false
  useLoop : ∀ M, 2 + 45 * M ≤ n → M ≤ 2000 → Sp M 1 Tt (run n .useLoop) 0 0 0 false
  skip : ∀ M, 3 + 45 * M ≤ n → M ≤ 2000 → Sp M 1 (fun s => sigs s.rest ≠ []) (run n .skip) (-15) (-1) 1 false
  skipLoop : ∀ M, 2 + 45 * M ≤ n → M ≤ 2000 → Sp M 1 Tt (run n .skipLoop) 0 0 0 false
  file : ∀ M, 44 + 45 * M ≤ n → M ≤ 2000 → Sp M 1 Tt (run n .file) 0 2 0 false
end Go.Proofs.YtcpojagfnpajeaaGreatDoorR.Ps

namespace Go.Proofs.YtcpojagfnpajeaaGreatDoorR.Ps
open Go.RowKit
theorem s_seg {n : Nat} (_ : I n) : ∀ M, 1 + 45 * M ≤ n + 1 → M ≤ 2000 → Sp M 1 Tt (run (n + 1) (.sg .seg)) 2 2 0 true := by
  intro  M h hM
  show Sp M 1 Tt (body (run n) (.sg .seg)) 2 2 0 true
  exact Sp.wk (Sp.node 18 (by decide) (by omega) (fun _ h => h) ((Sp.any (name_sp _)))) (by decide)
theorem s_segN {n : Nat} (_ : I n) : ∀ M, 1 + 45 * M ≤ n + 1 → M ≤ 2000 → Sp M 1 (fun s => atName s = true) (run (n + 1) (.sg .seg)) (-14) 0 1 true := by
  intro  M h hM
  show Sp M 1 (fun s => atName s = true) (body (run n) (.sg .seg)) (-14) 0 1 true
  exact Sp.wk (Sp.node 18 (by decide) (by omega) (fun _ h => h) (name_sp' _)) (by decide)
theorem s_tseg {n : Nat} (H : I n) : ∀ M, 1 + 45 * M ≤ n + 1 → M ≤ 2000 → Sp M 1 Tt (run (n + 1) (.sg .tseg)) 2 2 0 true := by
  intro  M h hM
  show Sp M 1 Tt (body (run n) (.sg .tseg)) 2 2 0 true
  exact Sp.wk (Sp.node 18 (by decide) (by omega) (fun _ h => h) (Sp.seq ((Sp.any (name_sp _))) (fun _ => Sp.last (Sp.onAcc [60] 1 (fun _ => (Sp.any (H.typs [62] (by decide) _ (by omega) (by omega)))) ((Sp.any (id_sp _))))))) (by decide)
theorem s_tsegN {n : Nat} (H : I n) : ∀ M, 1 + 45 * M ≤ n + 1 → M ≤ 2000 → Sp M 1 (fun s => atName s = true) (run (n + 1) (.sg .tseg)) (-14) 0 1 true := by
  intro  M h hM
  show Sp M 1 (fun s => atName s = true) (body (run n) (.sg .tseg)) (-14) 0 1 true
  exact Sp.wk (Sp.node 18 (by decide) (by omega) (fun _ h => h) (Sp.seq (name_sp' _) (fun _ => Sp.last (Sp.onAcc [60] 1 (fun _ => (Sp.any (H.typs [62] (by decide) _ (by omega) (by omega)))) ((Sp.any (id_sp _))))))) (by decide)
theorem s_segLoop {n : Nat} (H : I n) : ∀ M, 2 + 45 * M ≤ n + 1 → M ≤ 2000 → Sp M 1 Tt (run (n + 1) (.pathLoop .seg)) 0 0 0 false := by
  intro  M h hM
  show Sp M 1 Tt (body (run n) (.pathLoop .seg)) 0 0 0 false
  exact Sp.wk (Sp.onAcc [58, 58] 2 (fun _ => Sp.seq ((Sp.any (H.seg _ (by omega) (by omega)))) (fun _ => Sp.last ((Sp.any (H.segLoop _ (by omega) (by omega)))))) ((Sp.any (id_sp _)))) (by decide)
theorem s_segPath {n : Nat} (H : I n) : ∀ M, 3 + 45 * M ≤ n + 1 → M ≤ 2000 → Sp M 1 Tt (run (n + 1) (.path .seg)) 3 3 0 true := by
  intro  M h hM
  show Sp M 1 Tt (body (run n) (.path .seg)) 3 3 0 true
  exact Sp.wk (Sp.node 17 (by decide) (by omega) (fun _ h => h) (Sp.seq ((H.seg _ (by omega) (by omega))) (fun _ => Sp.last ((Sp.any (H.segLoop _ (by omega) (by omega))))))) (by decide)
theorem s_segPathN {n : Nat} (H : I n) : ∀ M, 3 + 45 * M ≤ n + 1 → M ≤ 2000 → Sp M 1 (fun s => atName s = true) (run (n + 1) (.path .seg)) (-13) 1 1 true := by
  intro  M h hM
  show Sp M 1 (fun s => atName s = true) (body (run n) (.path .seg)) (-13) 1 1 true
  exact Sp.wk (Sp.node 17 (by decide) (by omega) (fun _ h => h) (Sp.seq ((H.segN _ (by omega) (by omega))) (fun _ => Sp.last ((Sp.any (H.segLoop _ (by omega) (by omega))))))) (by decide)
theorem s_tsegLoop {n : Nat} (H : I n) : ∀ M, 2 + 45 * M ≤ n + 1 → M ≤ 2000 → Sp M 1 Tt (run (n + 1) (.pathLoop .tseg)) 0 0 0 false := by
  intro  M h hM
  show Sp M 1 Tt (body (run n) (.pathLoop .tseg)) 0 0 0 false
  exact Sp.wk (Sp.onAcc [58, 58] 2 (fun _ => Sp.seq ((Sp.any (H.tseg _ (by omega) (by omega)))) (fun _ => Sp.last ((Sp.any (H.tsegLoop _ (by omega) (by omega)))))) ((Sp.any (id_sp _)))) (by decide)
theorem s_tsegPath {n : Nat} (H : I n) : ∀ M, 3 + 45 * M ≤ n + 1 → M ≤ 2000 → Sp M 1 Tt (run (n + 1) (.path .tseg)) 3 3 0 true := by
  intro  M h hM
  show Sp M 1 Tt (body (run n) (.path .tseg)) 3 3 0 true
  exact Sp.wk (Sp.node 17 (by decide) (by omega) (fun _ h => h) (Sp.seq ((H.tseg _ (by omega) (by omega))) (fun _ => Sp.last ((Sp.any (H.tsegLoop _ (by omega) (by omega))))))) (by decide)
theorem s_tsegPathN {n : Nat} (H : I n) : ∀ M, 3 + 45 * M ≤ n + 1 → M ≤ 2000 → Sp M 1 (fun s => atName s = true) (run (n + 1) (.path .tseg)) (-13) 1 1 true := by
  intro  M h hM
  show Sp M 1 (fun s => atName s = true) (body (run n) (.path .tseg)) (-13) 1 1 true
  exact Sp.wk (Sp.node 17 (by decide) (by omega) (fun _ h => h) (Sp.seq ((H.tsegN _ (by omega) (by omega))) (fun _ => Sp.last ((Sp.any (H.tsegLoop _ (by omega) (by omega))))))) (by decide)
theorem s_typ {n : Nat} (H : I n) : ∀ M, 4 + 45 * M ≤ n + 1 → M ≤ 2000 → Sp M 1 Tt (run (n + 1) .typ) 1 1 0 true := by
  intro  M h hM
  show Sp M 1 Tt (body (run n) .typ) 1 1 0 true
  exact Sp.wk (Sp.cd (Sp.node 19 (by decide) (by omega) (fun _ h => h) (Sp.seq (tk [38] 1 (fun _ h => h.2)) (fun _ => Sp.seq ((Sp.any (accept_sp _ [109, 117, 116]))) (fun _ => Sp.last ((Sp.any (H.typ _ (by omega) (by omega)))))))) (Sp.cd (Sp.node 20 (by decide) (by omega) (fun _ h => h) (Sp.seq (tk [102, 110] 2 (fun _ h => h.2)) (fun _ => Sp.seq ((Sp.any (expect_sp _ [40]))) (fun _ => Sp.seq ((Sp.any (H.typs [41] (by decide) _ (by omega) (by omega)))) (fun _ => Sp.last ((Sp.any (H.optTyp [45, 62] (by decide) _ (by omega) (by omega))))))))) (Sp.cd ((H.tsegPathN _ (by omega) (by omega)).pre (fun _ h => h.2)) ((Sp.any (missing_sp _)))))) (by decide)
theorem s_typP {n : Nat} (H : I n) : ∀ M, 4 + 45 * M ≤ n + 1 → M ≤ 2000 → Sp M 1 (fun s => atType s = true) (run (n + 1) .typ) (-11) 1 1 true := by
  intro  M h hM
  show Sp M 1 (fun s => atType s = true) (body (run n) .typ) (-11) 1 1 true
  exact Sp.wk (Sp.cd (Sp.node 19 (by decide) (by omega) (fun _ h => h) (Sp.seq (tk [38] 1 (fun _ h => h.2)) (fun _ => Sp.seq ((Sp.any (accept_sp _ [109, 117, 116]))) (fun _ => Sp.last ((Sp.any (H.typ _ (by omega) (by omega)))))))) (Sp.cd (Sp.node 20 (by decide) (by omega) (fun _ h => h) (Sp.seq (tk [102, 110] 2 (fun _ h => h.2)) (fun _ => Sp.seq ((Sp.any (expect_sp _ [40]))) (fun _ => Sp.seq ((Sp.any (H.typs [41] (by decide) _ (by omega) (by omega)))) (fun _ => Sp.last ((Sp.any (H.optTyp [45, 62] (by decide) _ (by omega) (by omega))))))))) (Sp.cd ((H.tsegPathN _ (by omega) (by omega)).pre (fun _ h => h.2)) (Sp.never (fun s h => by have h0 := h.1.1.1; have h1 := h.1.1.2; have h2 := h.1.2; have h3 := h.2; simp [atType, h1, h2, h3] at h0))))) (by decide)
theorem s_optTyp {n : Nat} (H : I n) : ∀ (x : List UInt8) (_ : 1 ≤ x.length), ∀ M, 5 + 45 * M ≤ n + 1 → M ≤ 2000 → Sp M 1 Tt (run (n + 1) (.optTyp x)) 1 1 0 false := by
  intro x hx M h hM
  show Sp M 1 Tt (body (run n) (.optTyp x)) 1 1 0 false
  exact Sp.wk (Sp.onAcc x 1 (fun _ => (H.typ _ (by omega) (by omega))) ((Sp.any (none_sp _))) ⟨by decide, hx⟩) (by decide)
theorem s_typs {n : Nat} (H : I n) : ∀ (cl : List UInt8) (_ : 1 ≤ cl.length), ∀ M, 31 + 45 * M ≤ n + 1 → M ≤ 2000 → Sp M 1 Tt (run (n + 1) (.typs cl)) 1 1 0 false := by
  intro cl hx M h hM
  show Sp M 1 Tt (body (run n) (.typs cl)) 1 1 0 false
  exact Sp.wk ((H.list .typ cl hx _ (by omega) (by omega))) (by decide)
theorem s_tparams {n : Nat} (H : I n) : ∀ M, 6 + 45 * M ≤ n + 1 → M ≤ 2000 → Sp M 1 Tt (run (n + 1) .tparams) 1 1 0 true := by
  intro  M h hM
  show Sp M 1 Tt (body (run n) .tparams) 1 1 0 true
  exact Sp.wk (Sp.node 10 (by decide) (by omega) (fun _ h => h) (Sp.onAcc [60] 1 (fun _ => (Sp.any (H.list .tparam [62] (by decide) _ (by omega) (by omega)))) ((Sp.any (id_sp _))))) (by decide)
theorem s_tparam {n : Nat} (H : I n) : ∀ M, 7 + 45 * M ≤ n + 1 → M ≤ 2000 → Sp M 1 (fun s => atName s = true) (run (n + 1) .tparam) (-14) 0 1 true := by
  intro  M h hM
  show Sp M 1 (fun s => atName s = true) (body (run n) .tparam) (-14) 0 1 true
  exact Sp.wk (Sp.node 11 (by decide) (by omega) (fun _ h => h) (Sp.seq (name_sp' _) (fun _ => Sp.last (Sp.onAcc [58] 1 (fun _ => Sp.seq ((Sp.any (H.tsegPath _ (by omega) (by omega)))) (fun _ => Sp.last ((Sp.any (H.bounds _ (by omega) (by omega)))))) ((Sp.any (id_sp _))))))) (by decide)
theorem s_bounds {n : Nat} (H : I n) : ∀ M, 8 + 45 * M ≤ n + 1 → M ≤ 2000 → Sp M 1 Tt (run (n + 1) .bounds) 0 1 0 false := by
  intro  M h hM
  show Sp M 1 Tt (body (run n) .bounds) 0 1 0 false
  exact Sp.wk (Sp.onAcc [43] 1 (fun _ => Sp.seq ((Sp.any (H.tsegPath _ (by omega) (by omega)))) (fun _ => Sp.last ((Sp.any (H.bounds _ (by omega) (by omega)))))) ((Sp.any (id_sp _)))) (by decide)
theorem s_params {n : Nat} (H : I n) : ∀ (cl : List UInt8) (_ : 1 ≤ cl.length), ∀ M, 31 + 45 * M ≤ n + 1 → M ≤ 2000 → Sp M 1 Tt (run (n + 1) (.params cl)) 2 2 0 true := by
  intro cl hx M h hM
  show Sp M 1 Tt (body (run n) (.params cl)) 2 2 0 true
  exact Sp.wk (Sp.node 12 (by decide) (by omega) (fun _ h => h) ((H.list .param cl hx _ (by omega) (by omega)))) (by decide)
theorem s_param {n : Nat} (H : I n) : ∀ M, 7 + 45 * M ≤ n + 1 → M ≤ 2000 → Sp M 1 (fun s => atName s = true) (run (n + 1) .param) (-13) 0 1 true := by
  intro  M h hM
  show Sp M 1 (fun s => atName s = true) (body (run n) .param) (-13) 0 1 true
  exact Sp.wk (Sp.node 13 (by decide) (by omega) (fun _ h => h) (Sp.seq (name_sp' _) (fun _ => Sp.last ((Sp.any (H.optTyp [58] (by decide) _ (by omega) (by omega))))))) (by decide)
theorem s_block {n : Nat} (H : I n) : ∀ M, 26 + 45 * M ≤ n + 1 → M ≤ 2000 → Sp M 1 Tt (run (n + 1) .block) 4 3 0 true := by
  intro  M h hM
  show Sp M 1 Tt (body (run n) .block) 4 3 0 true
  exact Sp.wk (Sp.node 21 (by decide) (by omega) (fun _ h => h) (Sp.seq ((Sp.any (expect_sp _ [123]))) (fun _ => Sp.seq ((Sp.any (val_sp _ false))) (fun _ => Sp.seq ((Sp.any (H.blockLoop _ (by omega) (by omega)))) (fun _ => Sp.seq (Sp.cd ((Sp.any (id_sp _))) ((Sp.any (none_sp _)))) (fun _ => Sp.last ((Sp.any (expect_sp _ [125]))))))))) (by decide)
theorem s_blockP {n : Nat} (H : I n) : ∀ M, 10 + 45 * M ≤ n + 1 → M ≤ 2000 → Sp M 1 (fun s => atB [123] s = true) (run (n + 1) .block) (-12) 1 1 true := by
  intro  M h hM
  show Sp M 1 (fun s => atB [123] s = true) (body (run n) .block) (-12) 1 1 true
  exact Sp.wk (Sp.node 21 (by decide) (by omega) (fun _ h => h) (Sp.seq (exp1 _ [123]) (fun _ => Sp.seq ((Sp.any (val_sp _ false))) (fun _ => Sp.seq ((Sp.any (H.blockLoop _ (by omega) (by omega)))) (fun _ => Sp.seq (Sp.cd ((Sp.any (id_sp _))) ((Sp.any (none_sp _)))) (fun _ => Sp.last ((Sp.any (expect_sp _ [125]))))))))) (by decide)
theorem s_blockLoop {n : Nat} (H : I n) : ∀ M, 25 + 45 * M ≤ n + 1 → M ≤ 2000 → Sp M 1 Tt (run (n + 1) .blockLoop) 0 2 0 false := by
  intro  M h hM
  show Sp M 1 Tt (body (run n) .blockLoop) 0 2 0 false
  exact Sp.wk (Sp.cd (Sp.seq ((H.stmt _ (by omega) (by omega)).pre (fun _ h => h.2)) (fun _ => Sp.last ((Sp.any (H.blockLoop _ (by omega) (by omega)))))) ((Sp.any (id_sp _)))) (by decide)
end Go.Proofs.YtcpojagfnpajeaaGreatDoorR.Ps

namespace Go.Proofs.YtcpojagfnpajeaaGreatDoorR.Ps
open Go.RowKit
theorem s_stmt {n : Nat} (H : I n) : ∀ M, 24 + 45 * M ≤ n + 1 → M ≤ 2000 → Sp M 1 (fun s => stmtOn s = true) (run (n + 1) .stmt) (-4) 2 1 false := by
  intro  M h hM
  show Sp M 1 (fun s => stmtOn s = true) (body (run n) .stmt) (-4) 2 1 false
  exact Sp.wk (Sp.cd (Sp.seq (Sp.node 22 (by decide) (by omega) (fun _ h => h) ((H.letS _ (by omega) (by omega)).pre (fun _ h => h.2))) (fun _ => Sp.last ((Sp.any (val_sp _ false))))) (Sp.cd (Sp.seq (Sp.node 24 (by decide) (by omega) (fun _ h => h) ((H.whileS _ (by omega) (by omega)).pre (fun _ h => h.2))) (fun _ => Sp.last ((Sp.any (val_sp _ false))))) (Sp.cd (Sp.seq (Sp.node 25 (by decide) (by omega) (fun _ h => h) ((H.returnS _ (by omega) (by omega)).pre (fun _ h => h.2))) (fun _ => Sp.last ((Sp.any (val_sp _ false))))) (Sp.cd ((Sp.turn ((H.primP _ (by omega) (by omega)).pre (fun s h => by have h1 := h.2; simp only [Bool.or_eq_true] at h1; simp only [startP, Bool.or_eq_true]; rcases h1 with (h1 | h1) | h1 <;> simp [h1])) (fun _ => SpW.seq (SpW.cd (SpW.any (valW _ true)) (SpW.seq (SpW.wrap 26 (by decide) (by omega) (fun _ _ h => h) ((Sp.any (accept_sp _ [59]))) (e' := 1) (by decide) (by decide)) (fun _ => SpW.seq (SpW.any (valW _ false)) (fun _ => seqNilW _)))) (fun _ => seqNilW _)))) (Sp.cd ((H.estmt _ (by omega) (by omega)).pre (fun _ h => h.2)) (Sp.seq (Sp.node 46 (by decide) (by omega) (fun _ h => h) (tkS (fun s h => by have h1 := h.1.1.1.1.1; simp [stmtOn] at h1; exact sig_end h1.1.2))) (fun _ => Sp.last ((Sp.any (val_sp _ false)))))))))) (by decide)
theorem s_estmt {n : Nat} (H : I n) : ∀ M, 23 + 45 * M ≤ n + 1 → M ≤ 2000 → Sp M 1 (fun s => atExpr s = true) (run (n + 1) .estmt) (-6) 2 1 false := by
  intro  M h hM
  show Sp M 1 (fun s => atExpr s = true) (body (run n) .estmt) (-6) 2 1 false
  exact Sp.wk (Sp.turn ((H.exprP _ (by omega) (by omega))) (fun _ => SpW.seq (SpW.cd (SpW.any (valW _ true)) (SpW.cd (SpW.seq (SpW.wrap 23 (by decide) (by omega) (fun _ _ h => h) (Sp.seq (tk [61] 1 (fun _ h => h.2)) (fun _ => Sp.seq ((Sp.any (H.expr _ (by omega) (by omega)))) (fun _ => Sp.last ((Sp.any (expect_sp _ [59])))))) (e' := -1) (by decide) (by decide)) (fun _ => SpW.seq (SpW.any (valW _ false)) (fun _ => seqNilW _))) (SpW.seq (SpW.wrap 26 (by decide) (by omega) (fun _ _ h => h) ((Sp.any (expect_sp _ [59]))) (e' := 1) (by decide) (by decide)) (fun _ => SpW.seq (SpW.any (valW _ false)) (fun _ => seqNilW _))))) (fun _ => seqNilW _))) (by decide)
theorem s_letS {n : Nat} (H : I n) : ∀ M, 5 + 45 * M ≤ n + 1 → M ≤ 2000 → Sp M 1 (fun s => atB [108, 101, 116] s = true) (run (n + 1) .letS) (-10) (-1) 3 false := by
  intro  M h hM
  show Sp M 1 (fun s => atB [108, 101, 116] s = true) (body (run n) .letS) (-10) (-1) 3 false
  exact Sp.wk (Sp.seq (tk [108, 101, 116] 3 (fun _ h => h)) (fun _ => Sp.seq ((Sp.any (H.pat _ (by omega) (by omega)))) (fun _ => Sp.seq ((Sp.any (H.optTyp [58] (by decide) _ (by omega) (by omega)))) (fun _ => Sp.seq ((Sp.any (expect_sp _ [61]))) (fun _ => Sp.seq ((Sp.any (H.expr _ (by omega) (by omega)))) (fun _ => Sp.last ((Sp.any (expect_sp _ [59]))))))))) (by decide)
theorem s_whileS {n : Nat} (H : I n) : ∀ M, 5 + 45 * M ≤ n + 1 → M ≤ 2000 → Sp M 1 (fun s => atB [119, 104, 105, 108, 101] s = true) (run (n + 1) .whileS) (-10) (-1) 5 false := by
  intro  M h hM
  show Sp M 1 (fun s => atB [119, 104, 105, 108, 101] s = true) (body (run n) .whileS) (-10) (-1) 5 false
  exact Sp.wk (Sp.seq (tk [119, 104, 105, 108, 101] 5 (fun _ h => h)) (fun _ => Sp.seq ((Sp.any (H.expr _ (by omega) (by omega)))) (fun _ => Sp.last ((Sp.any (H.block _ (by omega) (by omega))))))) (by decide)
theorem s_returnS {n : Nat} (H : I n) : ∀ M, 5 + 45 * M ≤ n + 1 → M ≤ 2000 → Sp M 1 (fun s => atB [114, 101, 116, 117, 114, 110] s = true) (run (n + 1) .returnS) (-12) (-1) 6 false := by
  intro  M h hM
  show Sp M 1 (fun s => atB [114, 101, 116, 117, 114, 110] s = true) (body (run n) .returnS) (-12) (-1) 6 false
  exact Sp.wk (Sp.seq (tk [114, 101, 116, 117, 114, 110] 6 (fun _ h => h)) (fun _ => Sp.seq (Sp.cd ((Sp.any (H.expr _ (by omega) (by omega)))) ((Sp.any (none_sp _)))) (fun _ => Sp.last ((Sp.any (expect_sp _ [59])))))) (by decide)
theorem s_pat {n : Nat} (H : I n) : ∀ M, 13 + 45 * M ≤ n + 1 → M ≤ 2000 → Sp M 1 Tt (run (n + 1) .pat) 1 2 0 true := by
  intro  M h hM
  show Sp M 1 Tt (body (run n) .pat) 1 2 0 true
  exact Sp.wk (Sp.cd (Sp.node 43 (by decide) (by omega) (fun _ h => h) (tk [95] 1 (fun _ h => h.2))) (Sp.cd (Sp.node 44 (by decide) (by omega) (fun _ h => h) (Sp.seq (tk [109, 117, 116] 3 (fun _ h => h.2)) (fun _ => Sp.last ((Sp.any (name_sp _)))))) (Sp.cd (Sp.node 45 (by decide) (by omega) (fun _ h => h) ((H.vmatch _ (by omega) (by omega)).pre (fun s h => by have h1 := h.2; simp only [Bool.and_eq_true] at h1; exact h1.1))) (Sp.cd (Sp.node 44 (by decide) (by omega) (fun _ h => h) (tkN (fun _ h => h.2))) (Sp.cd ((H.primP _ (by omega) (by omega)).pre (fun s h => lit_start h.2)) ((Sp.any (missing_sp _)))))))) (by decide)
theorem s_patP {n : Nat} (H : I n) : ∀ M, 13 + 45 * M ≤ n + 1 → M ≤ 2000 → Sp M 1 (fun s => atPat s = true) (run (n + 1) .pat) (-8) 2 1 true := by
  intro  M h hM
  show Sp M 1 (fun s => atPat s = true) (body (run n) .pat) (-8) 2 1 true
  exact Sp.wk (Sp.cd (Sp.node 43 (by decide) (by omega) (fun _ h => h) (tk [95] 1 (fun _ h => h.2))) (Sp.cd (Sp.node 44 (by decide) (by omega) (fun _ h => h) (Sp.seq (tk [109, 117, 116] 3 (fun _ h => h.2)) (fun _ => Sp.last ((Sp.any (name_sp _)))))) (Sp.cd (Sp.node 45 (by decide) (by omega) (fun _ h => h) ((H.vmatch _ (by omega) (by omega)).pre (fun s h => by have h1 := h.2; simp only [Bool.and_eq_true] at h1; exact h1.1))) (Sp.cd (Sp.node 44 (by decide) (by omega) (fun _ h => h) (tkN (fun _ h => h.2))) (Sp.cd ((H.primP _ (by omega) (by omega)).pre (fun s h => lit_start h.2)) (Sp.never (fun s h => by have h0 := h.1.1.1.1.1; have h1 := h.1.1.1.2; have h2 := h.1.2; have h3 := h.2; simp [atPat, h1, h2, h3] at h0))))))) (by decide)
theorem s_vmatch {n : Nat} (H : I n) : ∀ M, 5 + 45 * M ≤ n + 1 → M ≤ 2000 → Sp M 1 (fun s => atName s = true) (run (n + 1) .vmatch) (-13) 1 1 false := by
  intro  M h hM
  show Sp M 1 (fun s => atName s = true) (body (run n) .vmatch) (-13) 1 1 false
  exact Sp.wk (Sp.seq ((H.segPathN _ (by omega) (by omega))) (fun _ => Sp.last (Sp.onAcc [40] 1 (fun _ => (Sp.any (H.list .pat [41] (by decide) _ (by omega) (by omega)))) ((Sp.any (id_sp _)))))) (by decide)
theorem s_expr {n : Nat} (H : I n) : ∀ M, 22 + 45 * M ≤ n + 1 → M ≤ 2000 → Sp M 1 Tt (run (n + 1) .expr) 1 1 0 true := by
  intro  M h hM
  show Sp M 1 Tt (body (run n) .expr) 1 1 0 true
  exact Sp.wk ((H.oper 1 (by decide) (by decide) _ (by omega) (by omega))) (by decide)
theorem s_exprP {n : Nat} (H : I n) : ∀ M, 22 + 45 * M ≤ n + 1 → M ≤ 2000 → Sp M 1 (fun s => atExpr s = true) (run (n + 1) .expr) (-8) 1 1 true := by
  intro  M h hM
  show Sp M 1 (fun s => atExpr s = true) (body (run n) .expr) (-8) 1 1 true
  exact Sp.wk ((H.operP 1 (by decide) (by decide) _ (by omega) (by omega)).pre (fun s h => expr_start h)) (by decide)
theorem s_unary {n : Nat} (H : I n) : ∀ M, 15 + 45 * M ≤ n + 1 → M ≤ 2000 → Sp M 1 Tt (run (n + 1) .unary) 1 1 0 true := by
  intro  M h hM
  show Sp M 1 Tt (body (run n) .unary) 1 1 0 true
  exact Sp.wk (Sp.cd (Sp.node 40 (by decide) (by omega) (fun _ h => h) (Sp.seq (tkS (fun s h => by have h1 := h.2; simp only [Bool.or_eq_true] at h1; rcases h1 with (h1 | h1) | h1 <;> exact sig_text h1 (by decide))) (fun _ => Sp.last ((Sp.any (H.unary _ (by omega) (by omega))))))) (Sp.cd (Sp.node 41 (by decide) (by omega) (fun _ h => h) (Sp.seq (tk [38] 1 (fun _ h => h.2)) (fun _ => Sp.seq ((Sp.any (accept_sp _ [109, 117, 116]))) (fun _ => Sp.last ((Sp.any (H.unary _ (by omega) (by omega)))))))) ((Sp.any (H.posf _ (by omega) (by omega)))))) (by decide)
theorem s_unaryP {n : Nat} (H : I n) : ∀ M, 15 + 45 * M ≤ n + 1 → M ≤ 2000 → Sp M 1 (fun s => startU s = true) (run (n + 1) .unary) (-8) 1 1 true := by
  intro  M h hM
  show Sp M 1 (fun s => startU s = true) (body (run n) .unary) (-8) 1 1 true
  exact Sp.wk (Sp.cd (Sp.node 40 (by decide) (by omega) (fun _ h => h) (Sp.seq (tkS (fun s h => by have h1 := h.2; simp only [Bool.or_eq_true] at h1; rcases h1 with (h1 | h1) | h1 <;> exact sig_text h1 (by decide))) (fun _ => Sp.last ((Sp.any (H.unary _ (by omega) (by omega))))))) (Sp.cd (Sp.node 41 (by decide) (by omega) (fun _ h => h) (Sp.seq (tk [38] 1 (fun _ h => h.2)) (fun _ => Sp.seq ((Sp.any (accept_sp _ [109, 117, 116]))) (fun _ => Sp.last ((Sp.any (H.unary _ (by omega) (by omega)))))))) ((H.posfP _ (by omega) (by omega)).pre (fun s h => by have h0 := h.1.1; have h1 := h.1.2; have h2 := h.2; simp only [Bool.or_eq_false_iff] at h1; simpa [startU, h1.1.1, h1.1.2, h1.2, h2] using h0)))) (by decide)
theorem s_posf {n : Nat} (H : I n) : ∀ M, 14 + 45 * M ≤ n + 1 → M ≤ 2000 → Sp M 1 Tt (run (n + 1) .posF) 1 1 0 true := by
  intro  M h hM
  show Sp M 1 Tt (body (run n) .posF) 1 1 0 true
  exact Sp.wk (Sp.turn ((H.prim _ (by omega) (by omega))) (fun _ => SpW.seq (H.postLoop _ (by omega) (by omega)) (fun _ => seqNilW _))) (by decide)
theorem s_postLoop {n : Nat} (H : I n) : ∀ M, 13 + 45 * M ≤ n + 1 → M ≤ 2000 → SpW M 0 Tt (run (n + 1) .postLoop) 0 0 0 := by
  intro  M h hM
  show SpW M 0 Tt (body (run n) .postLoop) 0 0 0
  exact SpW.wk (SpW.cd (SpW.seq (SpW.wrap 30 (by decide) (by omega) (fun _ _ h => h) ((H.args _ (by omega) (by omega)).pre (fun _ h => h.2)) (e' := -1) (by decide) (by decide)) (fun _ => SpW.seq ((H.postLoop _ (by omega) (by omega))) (fun _ => seqNilW _))) (SpW.cd (SpW.seq (SpW.fn (fun s _ => SpW.wrap (memK s) (memK_lt s) (by omega) (fun _ _ h => h) ((H.member _ (by omega) (by omega)).pre (fun _ h => h.2)) (e' := -1) (by decide) (by decide))) (fun _ => SpW.seq ((H.postLoop _ (by omega) (by omega))) (fun _ => seqNilW _))) (SpW.any (idW _)))) (by decide)
theorem s_postLoopP {n : Nat} (H : I n) : ∀ M, 13 + 45 * M ≤ n + 1 → M ≤ 2000 → SpW M 0 (fun s => atB [40] s = true ∨ atB [46] s = true) (run (n + 1) .postLoop) (-12) 0 1 := by
  intro  M h hM
  show SpW M 0 (fun s => atB [40] s = true ∨ atB [46] s = true) (body (run n) .postLoop) (-12) 0 1
  exact SpW.wk (SpW.cd (SpW.seq (SpW.wrap 30 (by decide) (by omega) (fun _ _ h => h) ((H.args _ (by omega) (by omega)).pre (fun _ h => h.2)) (e' := -1) (by decide) (by decide)) (fun _ => SpW.seq ((H.postLoop _ (by omega) (by omega))) (fun _ => seqNilW _))) (SpW.cd (SpW.seq (SpW.fn (fun s _ => SpW.wrap (memK s) (memK_lt s) (by omega) (fun _ _ h => h) ((H.member _ (by omega) (by omega)).pre (fun _ h => h.2)) (e' := -1) (by decide) (by decide))) (fun _ => SpW.seq ((H.postLoop _ (by omega) (by omega))) (fun _ => seqNilW _))) (SpW.never (fun s h => by have h0 := h.1.1; have h1 := h.1.2; have h2 := h.2; simp [h1, h2] at h0)))) (by decide)
theorem s_args {n : Nat} (H : I n) : ∀ M, 5 + 45 * M ≤ n + 1 → M ≤ 2000 → Sp M 1 (fun s => atB [40] s = true) (run (n + 1) .args) (-14) (-1) 1 false := by
  intro  M h hM
  show Sp M 1 (fun s => atB [40] s = true) (body (run n) .args) (-14) (-1) 1 false
  exact Sp.wk (Sp.seq (tk [40] 1 (fun _ h => h)) (fun _ => Sp.last ((Sp.any (H.list .expr [41] (by decide) _ (by omega) (by omega)))))) (by decide)
theorem s_member {n : Nat} (H : I n) : ∀ M, 6 + 45 * M ≤ n + 1 → M ≤ 2000 → Sp M 1 (fun s => atB [46] s = true) (run (n + 1) .member) (-14) (-1) 1 false := by
  intro  M h hM
  show Sp M 1 (fun s => atB [46] s = true) (body (run n) .member) (-14) (-1) 1 false
  exact Sp.wk (Sp.seq (tk [46] 1 (fun _ h => h)) (fun _ => Sp.seq ((Sp.any (name_sp _))) (fun _ => Sp.last (Sp.cd ((H.args _ (by omega) (by omega)).pre (fun _ h => h.2)) ((Sp.any (id_sp _))))))) (by decide)
theorem s_prim {n : Nat} (H : I n) : ∀ M, 12 + 45 * M ≤ n + 1 → M ≤ 2000 → Sp M 1 Tt (run (n + 1) .prim) 1 1 0 true := by
  intro  M h hM
  show Sp M 1 Tt (body (run n) .prim) 1 1 0 true
  exact Sp.wk (Sp.cd ((H.pathMac _ (by omega) (by omega)).pre (fun _ h => h.2)) (Sp.cd (Sp.node 27 (by decide) (by omega) (fun _ h => h) (tkS (fun s h => sig_kind h.2 (by decide)))) (Sp.cd (Sp.node 29 (by decide) (by omega) (fun _ h => h) (tkS (fun s h => sig_kind h.2 (by decide)))) (Sp.cd (Sp.node 28 (by decide) (by omega) (fun _ h => h) (tkS (fun s h => by have h1 := h.2; simp only [Bool.or_eq_true] at h1; rcases h1 with h1 | h1 <;> exact sig_text h1 (by decide)))) (Sp.cd (Sp.node 60 (by decide) (by omega) (fun _ h => h) ((H.paren _ (by omega) (by omega)).pre (fun _ h => h.2))) (Sp.cd ((H.blockP _ (by omega) (by omega)).pre (fun _ h => h.2)) (Sp.cd (Sp.node 37 (by decide) (by omega) (fun _ h => h) ((H.ifE _ (by omega) (by omega)).pre (fun _ h => h.2))) (Sp.cd (Sp.node 35 (by decide) (by omega) (fun _ h => h) ((H.matchE _ (by omega) (by omega)).pre (fun _ h => h.2))) (Sp.cd (Sp.node 33 (by decide) (by omega) (fun _ h => h) ((H.structLit _ (by omega) (by omega)).pre (fun _ h => h.2))) (Sp.cd (Sp.node 38 (by decide) (by omega) (fun _ h => h) ((H.lambda _ (by omega) (by omega)).pre (fun s h => by have h1 := h.2; simpa only [Bool.or_eq_true] using h1))) ((Sp.any (missing_sp _))))))))))))) (by decide)
theorem s_primP {n : Nat} (H : I n) : ∀ M, 12 + 45 * M ≤ n + 1 → M ≤ 2000 → Sp M 1 (fun s => startP s = true) (run (n + 1) .prim) (-8) 1 1 true := by
  intro  M h hM
  show Sp M 1 (fun s => startP s = true) (body (run n) .prim) (-8) 1 1 true
  exact Sp.wk (Sp.cd ((H.pathMac _ (by omega) (by omega)).pre (fun _ h => h.2)) (Sp.cd (Sp.node 27 (by decide) (by omega) (fun _ h => h) (tkS (fun s h => sig_kind h.2 (by decide)))) (Sp.cd (Sp.node 29 (by decide) (by omega) (fun _ h => h) (tkS (fun s h => sig_kind h.2 (by decide)))) (Sp.cd (Sp.node 28 (by decide) (by omega) (fun _ h => h) (tkS (fun s h => by have h1 := h.2; simp only [Bool.or_eq_true] at h1; rcases h1 with h1 | h1 <;> exact sig_text h1 (by decide)))) (Sp.cd (Sp.node 60 (by decide) (by omega) (fun _ h => h) ((H.paren _ (by omega) (by omega)).pre (fun _ h => h.2))) (Sp.cd ((H.blockP _ (by omega) (by omega)).pre (fun _ h => h.2)) (Sp.cd (Sp.node 37 (by decide) (by omega) (fun _ h => h) ((H.ifE _ (by omega) (by omega)).pre (fun _ h => h.2))) (Sp.cd (Sp.node 35 (by decide) (by omega) (fun _ h => h) ((H.matchE _ (by omega) (by omega)).pre (fun _ h => h.2))) (Sp.cd (Sp.node 33 (by decide) (by omega) (fun _ h => h) ((H.structLit _ (by omega) (by omega)).pre (fun _ h => h.2))) (Sp.cd (Sp.node 38 (by decide) (by omega) (fun _ h => h) ((H.lambda _ (by omega) (by omega)).pre (fun s h => by have h1 := h.2; simpa only [Bool.or_eq_true] using h1))) (Sp.never (fun s h => by obtain ⟨⟨⟨⟨⟨⟨⟨⟨⟨⟨h0, a1⟩, a2⟩, a3⟩, a4⟩, a5⟩, a6⟩, a7⟩, a8⟩, a9⟩, a10⟩ := h; simp only [Bool.or_eq_false_iff] at a4 a10; simp [startP, exprKind, a1, a2, a3, a4, a5, a6, a7, a8, a9, a10] at h0)))))))))))) (by decide)
theorem s_pathMac {n : Nat} (H : I n) : ∀ M, 6 + 45 * M ≤ n + 1 → M ≤ 2000 → Sp M 1 (fun s => atName s = true) (run (n + 1) .pathMac) (-13) 1 1 true := by
  intro  M h hM
  show Sp M 1 (fun s => atName s = true) (body (run n) .pathMac) (-13) 1 1 true
  exact Sp.wk (Sp.turn ((H.segPathN _ (by omega) (by omega))) (fun _ => SpW.seq (SpW.cd (SpW.wrap 42 (by decide) (by omega) (fun _ _ h => h) (Sp.takeThen (p2 := fun s => atB [40] s = true) (tk [33] 1 (fun s h => by have h1 := h.2; simp only [Bool.and_eq_true] at h1; exact h1.1)) (fun s s' h hs => paren_next (by have h1 := h.2; simp only [Bool.and_eq_true] at h1; exact h1.2) hs) (fun _ => Sp.last (H.args _ (by omega) (by omega)))) (e' := -3) (by decide) (by decide)) (SpW.any (idW _))) (fun _ => seqNilW _))) (by decide)
theorem s_paren {n : Nat} (H : I n) : ∀ M, 5 + 45 * M ≤ n + 1 → M ≤ 2000 → Sp M 1 (fun s => atB [40] s = true) (run (n + 1) .paren) (-13) (-1) 1 false := by
  intro  M h hM
  show Sp M 1 (fun s => atB [40] s = true) (body (run n) .paren) (-13) (-1) 1 false
  exact Sp.wk (Sp.seq (tk [40] 1 (fun _ h => h)) (fun _ => Sp.seq ((Sp.any (H.expr _ (by omega) (by omega)))) (fun _ => Sp.last ((Sp.any (expect_sp _ [41])))))) (by decide)
theorem s_ifE {n : Nat} (H : I n) : ∀ M, 5 + 45 * M ≤ n + 1 → M ≤ 2000 → Sp M 1 (fun s => atB [105, 102] s = true) (run (n + 1) .ifE) (-9) (-1) 2 false := by
  intro  M h hM
  show Sp M 1 (fun s => atB [105, 102] s = true) (body (run n) .ifE) (-9) (-1) 2 false
  exact Sp.wk (Sp.seq (tk [105, 102] 2 (fun _ h => h)) (fun _ => Sp.seq ((Sp.any (H.expr _ (by omega) (by omega)))) (fun _ => Sp.seq ((Sp.any (H.block _ (by omega) (by omega)))) (fun _ => Sp.last (Sp.onAcc [101, 108, 115, 101] 4 (fun _ => Sp.cd (Sp.node 37 (by decide) (by omega) (fun _ h => h) ((H.ifE _ (by omega) (by omega)).pre (fun _ h => h.2))) ((Sp.any (H.block _ (by omega) (by omega))))) ((Sp.any (none_sp _)))))))) (by decide)
end Go.Proofs.YtcpojagfnpajeaaGreatDoorR.Ps

namespace Go.Proofs.YtcpojagfnpajeaaGreatDoorR.Ps
open Go.RowKit
theorem s_matchE {n : Nat} (H : I n) : ∀ M, 5 + 45 * M ≤ n + 1 → M ≤ 2000 → Sp M 1 (fun s => atB [109, 97, 116, 99, 104] s = true) (run (n + 1) .matchE) (-12) (-1) 5 false := by
  intro  M h hM
  show Sp M 1 (fun s => atB [109, 97, 116, 99, 104] s = true) (body (run n) .matchE) (-12) (-1) 5 false
  exact Sp.wk (Sp.seq (tk [109, 97, 116, 99, 104] 5 (fun _ h => h)) (fun _ => Sp.seq ((Sp.any (H.expr _ (by omega) (by omega)))) (fun _ => Sp.seq ((Sp.any (expect_sp _ [123]))) (fun _ => Sp.last ((Sp.any (H.list .arm [125] (by decide) _ (by omega) (by omega)))))))) (by decide)
theorem s_arm {n : Nat} (H : I n) : ∀ M, 23 + 45 * M ≤ n + 1 → M ≤ 2000 → Sp M 1 (fun s => atPat s = true) (run (n + 1) .arm) (-5) 3 1 true := by
  intro  M h hM
  show Sp M 1 (fun s => atPat s = true) (body (run n) .arm) (-5) 3 1 true
  exact Sp.wk (Sp.node 36 (by decide) (by omega) (fun _ h => h) (Sp.seq ((H.patP _ (by omega) (by omega))) (fun _ => Sp.seq ((Sp.any (expect_sp _ [61, 62]))) (fun _ => Sp.last ((Sp.any (H.expr _ (by omega) (by omega)))))))) (by decide)
theorem s_structLit {n : Nat} (H : I n) : ∀ M, 5 + 45 * M ≤ n + 1 → M ≤ 2000 → Sp M 1 (fun s => atB [110, 101, 119] s = true) (run (n + 1) .structLit) (-10) (-1) 3 false := by
  intro  M h hM
  show Sp M 1 (fun s => atB [110, 101, 119] s = true) (body (run n) .structLit) (-10) (-1) 3 false
  exact Sp.wk (Sp.seq (tk [110, 101, 119] 3 (fun _ h => h)) (fun _ => Sp.seq ((Sp.any (H.segPath _ (by omega) (by omega)))) (fun _ => Sp.seq ((Sp.any (expect_sp _ [123]))) (fun _ => Sp.last ((Sp.any (H.list .finit [125] (by decide) _ (by omega) (by omega)))))))) (by decide)
theorem s_finit {n : Nat} (H : I n) : ∀ M, 7 + 45 * M ≤ n + 1 → M ≤ 2000 → Sp M 1 (fun s => atName s = true) (run (n + 1) .finit) (-12) 0 1 true := by
  intro  M h hM
  show Sp M 1 (fun s => atName s = true) (body (run n) .finit) (-12) 0 1 true
  exact Sp.wk (Sp.node 34 (by decide) (by omega) (fun _ h => h) (Sp.seq (name_sp' _) (fun _ => Sp.seq ((Sp.any (expect_sp _ [58]))) (fun _ => Sp.last ((Sp.any (H.expr _ (by omega) (by omega)))))))) (by decide)
theorem s_lambda {n : Nat} (H : I n) : ∀ M, 5 + 45 * M ≤ n + 1 → M ≤ 2000 → Sp M 1 (fun s => atB [124] s = true ∨ atB [124, 124] s = true) (run (n + 1) .lambda) (-12) 0 1 false := by
  intro  M h hM
  show Sp M 1 (fun s => atB [124] s = true ∨ atB [124, 124] s = true) (body (run n) .lambda) (-12) 0 1 false
  exact Sp.wk (Sp.seq (Sp.onAcc [124, 124] 2 (fun _ => Sp.any (leaf_sp _ 12 (by decide))) (Sp.seq (tk [124] 1 (fun s h => by rcases h.1 with h1 | h1; exact h1; rw [h.2] at h1; cases h1)) (fun _ => Sp.last ((Sp.any (H.params [124] (by decide) _ (by omega) (by omega))))))) (fun _ => Sp.last ((Sp.any (H.expr _ (by omega) (by omega)))))) (by decide)
theorem s_sigN {n : Nat} (H : I n) : ∀ M, 32 + 45 * M ≤ n + 1 → M ≤ 2000 → Sp M 10 Tt (run (n + 1) .sigN) 6 2 0 false := by
  intro  M h hM
  show Sp M 10 Tt (body (run n) .sigN) 6 2 0 false
  exact Sp.wk (Sp.seq ((Sp.any (name_sp _))) (fun _ => Sp.seq ((Sp.any (H.tparams _ (by omega) (by omega)))) (fun _ => Sp.seq ((Sp.any (expect_sp _ [40]))) (fun _ => Sp.seq ((Sp.any (H.params [41] (by decide) _ (by omega) (by omega)))) (fun _ => Sp.last ((Sp.any (H.optTyp [45, 62] (by decide) _ (by omega) (by omega))))))))) (by decide)
theorem s_funcI {n : Nat} (H : I n) : ∀ M, 33 + 45 * M ≤ n + 1 → M ≤ 2000 → Sp M 20 Tt (run (n + 1) .funcI) 10 3 0 false := by
  intro  M h hM
  show Sp M 20 Tt (body (run n) .funcI) 10 3 0 false
  exact Sp.wk (Sp.seq ((H.sigN _ (by omega) (by omega))) (fun _ => Sp.last ((Sp.any (H.block _ (by omega) (by omega)))))) (by decide)
theorem s_structI {n : Nat} (H : I n) : ∀ M, 31 + 45 * M ≤ n + 1 → M ≤ 2000 → Sp M 20 Tt (run (n + 1) .structI) 4 1 0 false := by
  intro  M h hM
  show Sp M 20 Tt (body (run n) .structI) 4 1 0 false
  exact Sp.wk (Sp.seq ((Sp.any (name_sp _))) (fun _ => Sp.seq ((Sp.any (H.tparams _ (by omega) (by omega)))) (fun _ => Sp.seq ((Sp.any (expect_sp _ [123]))) (fun _ => Sp.last ((Sp.any (H.list .field [125] (by decide) _ (by omega) (by omega)))))))) (by decide)
theorem s_field {n : Nat} (H : I n) : ∀ M, 7 + 45 * M ≤ n + 1 → M ≤ 2000 → Sp M 1 (fun s => atName s = true) (run (n + 1) .field) (-12) 0 1 true := by
  intro  M h hM
  show Sp M 1 (fun s => atName s = true) (body (run n) .field) (-12) 0 1 true
  exact Sp.wk (Sp.node 14 (by decide) (by omega) (fun _ h => h) (Sp.seq (name_sp' _) (fun _ => Sp.seq ((Sp.any (expect_sp _ [58]))) (fun _ => Sp.last ((Sp.any (H.typ _ (by omega) (by omega)))))))) (by decide)
theorem s_enumI {n : Nat} (H : I n) : ∀ M, 31 + 45 * M ≤ n + 1 → M ≤ 2000 → Sp M 20 Tt (run (n + 1) .enumI) 4 1 0 false := by
  intro  M h hM
  show Sp M 20 Tt (body (run n) .enumI) 4 1 0 false
  exact Sp.wk (Sp.seq ((Sp.any (name_sp _))) (fun _ => Sp.seq ((Sp.any (H.tparams _ (by omega) (by omega)))) (fun _ => Sp.seq ((Sp.any (expect_sp _ [123]))) (fun _ => Sp.last ((Sp.any (H.list .variant [125] (by decide) _ (by omega) (by omega)))))))) (by decide)
theorem s_variant {n : Nat} (H : I n) : ∀ M, 7 + 45 * M ≤ n + 1 → M ≤ 2000 → Sp M 1 (fun s => atName s = true) (run (n + 1) .variant) (-14) 0 1 true := by
  intro  M h hM
  show Sp M 1 (fun s => atName s = true) (body (run n) .variant) (-14) 0 1 true
  exact Sp.wk (Sp.node 15 (by decide) (by omega) (fun _ h => h) (Sp.seq (name_sp' _) (fun _ => Sp.last (Sp.onAcc [40] 1 (fun _ => (Sp.any (H.typs [41] (by decide) _ (by omega) (by omega)))) ((Sp.any (id_sp _))))))) (by decide)
theorem s_traitI {n : Nat} (H : I n) : ∀ M, 20 + 45 * M ≤ n + 1 → M ≤ 2000 → Sp M 20 Tt (run (n + 1) .traitI) 3 1 0 false := by
  intro  M h hM
  show Sp M 20 Tt (body (run n) .traitI) 3 1 0 false
  exact Sp.wk (Sp.seq ((Sp.any (name_sp _))) (fun _ => Sp.last ((Sp.any (H.members _ (by omega) (by omega)))))) (by decide)
theorem s_members {n : Nat} (H : I n) : ∀ M, 7 + 45 * M ≤ n + 1 → M ≤ 2000 → Sp M 4 Tt (run (n + 1) .members) 2 1 0 false := by
  intro  M h hM
  show Sp M 4 Tt (body (run n) .members) 2 1 0 false
  exact Sp.wk (Sp.seq ((Sp.any (expect_sp _ [123]))) (fun _ => Sp.last ((Sp.any (H.membersLoop _ (by omega) (by omega)))))) (by decide)
theorem s_membersLoop {n : Nat} (H : I n) : ∀ M, 6 + 45 * M ≤ n + 1 → M ≤ 2000 → Sp M 1 Tt (run (n + 1) .membersLoop) 1 1 0 false := by
  intro  M h hM
  show Sp M 1 Tt (body (run n) .membersLoop) 1 1 0 false
  exact Sp.wk (Sp.cd (Sp.seq (Sp.node 16 (by decide) (by omega) (fun _ h => h) ((H.assoc _ (by omega) (by omega)).pre (fun _ h => h.2))) (fun _ => Sp.last ((Sp.any (H.membersLoop _ (by omega) (by omega)))))) (Sp.cd (Sp.seq (Sp.node 3 (by decide) (by omega) (fun _ h => h) ((H.method _ (by omega) (by omega)).pre (fun _ h => h.2))) (fun _ => Sp.last ((Sp.any (H.membersLoop _ (by omega) (by omega)))))) ((Sp.any (expect_sp _ [125]))))) (by decide)
theorem s_assoc {n : Nat} (H : I n) : ∀ M, 5 + 45 * M ≤ n + 1 → M ≤ 2000 → Sp M 1 (fun s => atB [116, 121, 112, 101] s = true) (run (n + 1) .assoc) (-12) (-1) 4 false := by
  intro  M h hM
  show Sp M 1 (fun s => atB [116, 121, 112, 101] s = true) (body (run n) .assoc) (-12) (-1) 4 false
  exact Sp.wk (Sp.seq (tk [116, 121, 112, 101] 4 (fun _ h => h)) (fun _ => Sp.seq ((Sp.any (name_sp _))) (fun _ => Sp.seq ((Sp.any (H.optTyp [61] (by decide) _ (by omega) (by omega)))) (fun _ => Sp.last ((Sp.any (expect_sp _ [59]))))))) (by decide)
theorem s_method {n : Nat} (H : I n) : ∀ M, 5 + 45 * M ≤ n + 1 → M ≤ 2000 → Sp M 10 (fun s => atB [102, 110] s = true) (run (n + 1) .method) (-5) (-1) 2 false := by
  intro  M h hM
  show Sp M 10 (fun s => atB [102, 110] s = true) (body (run n) .method) (-5) (-1) 2 false
  exact Sp.wk (Sp.seq (tk [102, 110] 2 (fun _ h => h)) (fun _ => Sp.seq ((Sp.any (H.sigN _ (by omega) (by omega)))) (fun _ => Sp.last (Sp.onAcc [59] 1 (fun _ => (Sp.any (none_sp _))) ((Sp.any (H.block _ (by omega) (by omega)))))))) (by decide)
theorem s_constI {n : Nat} (H : I n) : ∀ M, 23 + 45 * M ≤ n + 1 → M ≤ 2000 → Sp M 20 Tt (run (n + 1) .constI) 6 1 0 false := by
  intro  M h hM
  show Sp M 20 Tt (body (run n) .constI) 6 1 0 false
  exact Sp.wk (Sp.seq ((Sp.any (name_sp _))) (fun _ => Sp.seq ((Sp.any (expect_sp _ [58]))) (fun _ => Sp.seq ((Sp.any (H.typ _ (by omega) (by omega)))) (fun _ => Sp.seq ((Sp.any (expect_sp _ [61]))) (fun _ => Sp.seq ((Sp.any (H.expr _ (by omega) (by omega)))) (fun _ => Sp.last ((Sp.any (expect_sp _ [59]))))))))) (by decide)
theorem s_macroI {n : Nat} (H : I n) : ∀ M, 32 + 45 * M ≤ n + 1 → M ≤ 2000 → Sp M 20 Tt (run (n + 1) .macroI) 7 2 0 false := by
  intro  M h hM
  show Sp M 20 Tt (body (run n) .macroI) 7 2 0 false
  exact Sp.wk (Sp.seq ((Sp.any (name_sp _))) (fun _ => Sp.seq ((Sp.any (expect_sp _ [40]))) (fun _ => Sp.seq ((Sp.any (H.params [41] (by decide) _ (by omega) (by omega)))) (fun _ => Sp.seq ((Sp.any (expect_sp _ [61]))) (fun _ => Sp.seq ((Sp.any (H.expr _ (by omega) (by omega)))) (fun _ => Sp.last ((Sp.any (expect_sp _ [59]))))))))) (by decide)
theorem s_useLoop {n : Nat} (H : I n) : ∀ M, 2 + 45 * M ≤ n + 1 → M ≤ 2000 → Sp M 1 Tt (run (n + 1) .useLoop) 0 0 0 false := by
  intro  M h hM
  show Sp M 1 Tt (body (run n) .useLoop) 0 0 0 false
  exact Sp.wk (Sp.cd (Sp.seq (tk [58, 58] 2 (fun s h => by have h1 := h.2; simp only [Bool.and_eq_true] at h1; exact h1.1)) (fun _ => Sp.seq ((Sp.any (H.seg _ (by omega) (by omega)))) (fun _ => Sp.last ((Sp.any (H.useLoop _ (by omega) (by omega))))))) ((Sp.any (id_sp _)))) (by decide)
theorem s_skip {n : Nat} (H : I n) : ∀ M, 3 + 45 * M ≤ n + 1 → M ≤ 2000 → Sp M 1 (fun s => sigs s.rest ≠ []) (run (n + 1) .skip) (-15) (-1) 1 false := by
  intro  M h hM
  show Sp M 1 (fun s => sigs s.rest ≠ []) (body (run n) .skip) (-15) (-1) 1 false
  exact Sp.wk (Sp.seq (tkS (fun s h => h)) (fun _ => Sp.last ((Sp.any (H.skipLoop _ (by omega) (by omega)))))) (by decide)
theorem s_skipLoop {n : Nat} (H : I n) : ∀ M, 2 + 45 * M ≤ n + 1 → M ≤ 2000 → Sp M 1 Tt (run (n + 1) .skipLoop) 0 0 0 false := by
  intro  M h hM
  show Sp M 1 Tt (body (run n) .skipLoop) 0 0 0 false
  exact Sp.wk (Sp.cd (Sp.seq (tkS (fun s h => by have h1 := h.2; simp at h1; exact sig_end h1.1)) (fun _ => Sp.last ((Sp.any (H.skipLoop _ (by omega) (by omega)))))) ((Sp.any (id_sp _)))) (by decide)
end Go.Proofs.YtcpojagfnpajeaaGreatDoorR.Ps

namespace Go.Proofs.YtcpojagfnpajeaaGreatDoorR.Ps
open Go.RowKit

theorem onAcc_eq (x : List UInt8) (a b : PA) : onAcc x a b = cond (atB x) (seq [take, a]) b := by
  funext s
  unfold onAcc cond
  split
  · have : seq [a] = a := by
      funext z
      cases ha : a z <;> simp [seq, ha]
    show (take s).bind a = (take s).bind (seq [a])
    rw [this]
  · rfl

theorem el_ge (e : El) : 1 ≤ eL e := by cases e <;> decide

theorem s_list {n : Nat} (H : I n) : ∀ (e : El) (cl : List UInt8) (_ : 1 ≤ cl.length), ∀ M, 30 + 45 * M ≤ (n + 1) → M ≤ 2000 → Sp M 1 Tt (run (n + 1) (.list cl e)) 1 (eL e) 0 false := by
  intro e cl hx M h hM
  show Sp M 1 Tt (body (run n) (.list cl e)) 1 (eL e) 0 false
  have el : Sp M 1 (fun s => starts e s = true) (run n (elN e)) (-2) (eL e) 1 true := by
    cases e with
    | typ => exact Sp.wk ((H.typP _ (by omega) (by omega))) (by decide)
    | tparam => exact Sp.wk ((H.tparam _ (by omega) (by omega))) (by decide)
    | field => exact Sp.wk ((H.field _ (by omega) (by omega))) (by decide)
    | variant => exact Sp.wk ((H.variant _ (by omega) (by omega))) (by decide)
    | param => exact Sp.wk ((H.param _ (by omega) (by omega))) (by decide)
    | pat => exact Sp.wk ((H.patP _ (by omega) (by omega))) (by decide)
    | expr => exact Sp.wk ((H.exprP _ (by omega) (by omega))) (by decide)
    | arm => exact Sp.wk ((H.arm _ (by omega) (by omega))) (by decide)
    | finit => exact Sp.wk ((H.finit _ (by omega) (by omega))) (by decide)
  have hg := el_ge e
  have hl : 1 ≤ M → Sp (M - 1) 1 Tt (run n (.list cl e)) 1 (eL e) 0 false := fun _ => H.list e cl hx _ (by omega) (by omega)
  refine Sp.wk (Sp.cd (Sp.seq (Sp.wk (Sp.cd (el.pre (fun _ h => h.2)) (Sp.node 46 (by decide) (by omega) (fun _ h => ⟨h.1, by cases e <;> exact h.2⟩) (tkS (fun s h => ?_)))) (m' := 1) (c' := -2) (e' := eL e) (q' := 1) (o' := false) ⟨by decide, by decide, by omega, by decide, by decide⟩) (fun h1 => Sp.seq (Sp.any (Sp.cd (Sp.any (id_sp _)) (Sp.any (expect_sp _ [44])))) (fun _ => Sp.last (hl h1)))) (Sp.any (expect_sp _ cl hx))) ⟨by decide, by decide, by omega, by decide, by decide⟩
  have h1 := h.1.2
  simp only [goOn, Bool.and_eq_true, Bool.not_eq_true'] at h1
  exact sig_end h1.1.2

theorem s_oper {n : Nat} (H : I n) : ∀ (k : Nat) (_ : 1 ≤ k) (_ : k ≤ 6), ∀ M, 22 - k + 45 * M ≤ (n + 1) → M ≤ 2000 → Sp M 1 Tt (run (n + 1) (.oper k)) 1 1 0 true := by
  intro k h1 h6 M h hM
  show Sp M 1 Tt (if 5 < k then run n .unary else seq [run n (.oper (k + 1)), run n (.operLoop k)]) 1 1 0 true
  split
  · exact (H.unary _ (by omega) (by omega))
  · exact Sp.wk (Sp.turn (H.oper (k + 1) (by omega) (by omega) _ (by omega) (by omega)) (fun _ => SpW.seq (H.operLoop k h1 (by omega) _ (by omega) (by omega)) (fun _ => seqNilW _))) (by decide)

theorem prec_le (x : List UInt8) : prec x ≤ 5 := by unfold prec; repeat' split
                                                    all_goals decide

theorem s_operP {n : Nat} (H : I n) : ∀ (k : Nat) (_ : 1 ≤ k) (_ : k ≤ 6), ∀ M, 22 - k + 45 * M ≤ (n + 1) → M ≤ 2000 → Sp M 1 (fun s => startU s = true ∨ k ≤ prec (pk s.rest 0).2) (run (n + 1) (.oper k)) (-8) 1 1 true := by
  intro k h1 h6 M h hM
  show Sp M 1 (fun s => startU s = true ∨ k ≤ prec (pk s.rest 0).2) (if 5 < k then run n .unary else seq [run n (.oper (k + 1)), run n (.operLoop k)]) (-8) 1 1 true
  split
  · exact ((H.unaryP _ (by omega) (by omega))).pre (fun s h0 => h0.resolve_right (by have := prec_le (pk s.rest 0).2; omega))
  · intro s hp
    by_cases hq : startU s = true ∨ k + 1 ≤ prec (pk s.rest 0).2
    · have := Sp.wk (q' := 1) (c' := -8) (e' := 1) (m' := 1) (o' := true) (Sp.turn (H.operP (k + 1) (by omega) (by omega) M (by omega) (by omega)) (fun _ => SpW.seq (H.operLoop k h1 (by omega) _ (by omega) (by omega)) (fun _ => seqNilW _))) (by decide)
      exact this s hq
    · have hs : startU s = false := by
        cases hs : startU s with
        | true => exact absurd (Or.inl hs) hq
        | false => rfl
      have hk : prec (pk s.rest 0).2 = k := by
        have h0 := hp.resolve_left (by simp [hs])
        have h2 : ¬ (k + 1 ≤ prec (pk s.rest 0).2) := fun h3 => hq (Or.inr h3)
        omega
      have hz : ∀ s : S, (startU s = false ∧ prec (pk s.rest 0).2 = k) → s.ch.length < LIM → run n (.oper (k + 1)) s = some { s with ch := s.ch ++ [leaf 46] } := by
        intro s hs hl
        obtain ⟨n', rfl⟩ : ∃ n', n = n' + (5 - k) + 4 := ⟨n - (5 - k) - 4, by omega⟩
        exact zero_oper (5 - k) (k + 1) n' s (by omega) hs.1 (by omega) hl
      have := Sp.wk (q' := 1) (c' := -8) (e' := 1) (m' := 1) (o' := true) (Sp.zero (M := M) hz (fun _ _ h => h) (SpW.seq ((H.operLoopP k h1 (by omega) M (by omega) (by omega)).pre (fun _ h => h.2)) (fun _ => seqNilW _))) (by decide)
      exact this s ⟨hs, hk⟩

theorem s_operLoop {n : Nat} (H : I n) : ∀ (k : Nat) (_ : 1 ≤ k) (_ : k ≤ 5), ∀ M, 5 + 45 * M ≤ (n + 1) → M ≤ 2000 → SpW M 0 Tt (run (n + 1) (.operLoop k)) 0 0 0 := by
  intro k h1 h5 M h hM
  show SpW M 0 Tt (cond (fun s => prec (pk s.rest 0).2 == k) (seq [wrap 39 (seq [take, run n (.oper (k + 1))]), if k = 3 then some else run n (.operLoop k)]) some) 0 0 0
  have hl : 1 ≤ M → SpW (M - 1) 0 Tt (if k = 3 then some else run n (.operLoop k)) 0 0 0 := by
    intro _
    split
    · exact idW _
    · exact H.operLoop k h1 h5 _ (by omega) (by omega)
  exact SpW.wk (SpW.cd (SpW.seq (SpW.wrap 39 (by decide) (by omega) (fun _ _ h => h) (Sp.seq (tkS (fun s h => sig_text (x := (pk s.rest 0).2) (beq_self_eq_true _) (prec_text (by have := eq_of_beq h.2; omega)))) (fun _ => Sp.last (H.oper (k + 1) (by omega) (by omega) _ (by omega) (by omega)))) (e' := -1) (by decide) (by decide)) (fun h1 => SpW.seq (hl h1) (fun _ => seqNilW _))) (SpW.any (idW _))) (by decide)

theorem s_operLoopP {n : Nat} (H : I n) : ∀ (k : Nat) (_ : 1 ≤ k) (_ : k ≤ 5), ∀ M, 5 + 45 * M ≤ (n + 1) → M ≤ 2000 → SpW M 0 (fun s => prec (pk s.rest 0).2 = k) (run (n + 1) (.operLoop k)) (-13) 0 1 := by
  intro k h1 h5 M h hM
  show SpW M 0 (fun s => prec (pk s.rest 0).2 = k) (cond (fun s => prec (pk s.rest 0).2 == k) (seq [wrap 39 (seq [take, run n (.oper (k + 1))]), if k = 3 then some else run n (.operLoop k)]) some) (-13) 0 1
  have hl : 1 ≤ M → SpW (M - 1) 0 Tt (if k = 3 then some else run n (.operLoop k)) 0 0 0 := by
    intro _
    split
    · exact idW _
    · exact H.operLoop k h1 h5 _ (by omega) (by omega)
  exact SpW.wk (SpW.cd (SpW.seq (SpW.wrap 39 (by decide) (by omega) (fun _ _ h => h) (Sp.seq (tkS (fun s h => sig_text (x := (pk s.rest 0).2) (beq_self_eq_true _) (prec_text (by have := eq_of_beq h.2; omega)))) (fun _ => Sp.last (H.oper (k + 1) (by omega) (by omega) _ (by omega) (by omega)))) (e' := -1) (by decide) (by decide)) (fun h1 => SpW.seq (hl h1) (fun _ => seqNilW _))) (SpW.never (fun s h => by have h0 := h.1; have h2 := h.2; simp [h0] at h2))) (by decide)

theorem s_posfP {n : Nat} (H : I n) : ∀ M, 14 + 45 * M ≤ (n + 1) → M ≤ 2000 → Sp M 1 (fun s => startF s = true) (run (n + 1) .posF) (-8) 1 1 true := by
  intro M h hM
  show Sp M 1 (fun s => startF s = true) (seq [run n .prim, run n .postLoop]) (-8) 1 1 true
  intro s hp
  cases hs : startP s with
  | true =>
    have := Sp.wk (q' := 1) (c' := -8) (e' := 1) (m' := 1) (o' := true) (Sp.turn (H.primP M (by omega) (by omega)) (fun _ => SpW.seq ((H.postLoop _ (by omega) (by omega))) (fun _ => seqNilW _))) (by decide)
    exact this s hs
  | false =>
    obtain ⟨n', rfl⟩ : ∃ n', n = n' + 1 := ⟨n - 1, by omega⟩
    have hd : atB [46] s = true := by simpa [startF, hs] using hp
    have := Sp.wk (q' := 1) (c' := -8) (e' := 1) (m' := 1) (o' := true) (Sp.zero (M := M) (p := fun s => startP s = false ∧ atB [46] s = true) (fun s h hl => zero_prim n' s h.1 hl) (fun _ _ h => h) (SpW.seq (((H.postLoopP _ (by omega) (by omega))).pre (fun _ h => Or.inr h.2)) (fun _ => seqNilW _))) (by decide)
    exact this s ⟨hs, hd⟩
end Go.Proofs.YtcpojagfnpajeaaGreatDoorR.Ps

namespace Go.Proofs.YtcpojagfnpajeaaGreatDoorR.Ps
open Go.RowKit

theorem s_implI {n : Nat} (H : I n) : ∀ M, 20 + 45 * M ≤ (n + 1) → M ≤ 2000 → Sp M 20 Tt (run (n + 1) .implI) 5 1 0 false := by
  intro M h hM s _ hv hM2 hq
  obtain ⟨s1, n1, w1, a1, r1, b1, z1, y1, o1⟩ := ((H.tparams _ (by omega) (by omega)) : Sp M _ _ _ _ _ _ _) s trivial hv hM2 (by omega)
  have hl1 := o1 rfl
  have hw1 := r1.wt
  have hc1 : s1.ch.length = s.ch.length + n1.length := by rw [r1.ch, List.length_append]
  obtain ⟨s2, n2, w2, a2, r2, b2, z2, y2, o2⟩ := ((H.typ _ (by omega) (by omega)) : Sp M _ _ _ _ _ _ _) s1 trivial (r1.valid hv) (by omega) (by omega)
  have hl2 := o2 rfl
  have hw2 := r2.wt
  have hc2 : s2.ch.length = s1.ch.length + n2.length := by rw [r2.ch, List.length_append]
  have e0 : run (n + 1) .implI s = seq [onAcc [102, 111, 114] (run n .typ) (insNone s1.ch.length), run n .members] s2 := by
    show ((run n .tparams s).bind fun m => seq [run n .typ, onAcc [102, 111, 114] (run n .typ) (insNone m.ch.length), run n .members] m) = _
    rw [a1]
    show ((run n .typ s1).bind _) = _
    rw [a2]
    rfl
  cases hf : atB [102, 111, 114] s2 with
  | true =>
    have hs := (Sp.wk (q' := 3) (c' := 2) (e' := 1) (m' := 0) (o' := false) (Sp.seq (p := fun s => atB [102, 111, 114] s = true) (Sp.onAcc [102, 111, 114] 3 (M := M) (b := insNone s1.ch.length) (fun _ => (H.typ _ (by omega) (by omega))) (Sp.never (fun s h => by have h0 := h.1; have h2 := h.2; rw [h0] at h2; cases h2))) (fun _ => Sp.last ((H.members _ (by omega) (by omega))))) (by decide))
    obtain ⟨s3, n3, w3, a3, r3, b3, z3, y3, _⟩ := hs s2 hf (r2.valid (r1.valid hv)) (by omega) (by omega)
    refine ⟨s3, n1 ++ n2 ++ n3, w1 + w2 + w3, by rw [e0]; exact a3, (r1.trans r2).trans r3, Nat.zero_le _, ?_, ?_, fun h => by cases h⟩
    · rw [sizes_append, sizes_append]; omega
    · rw [heights_append, heights_append]; omega
  | false =>
    obtain ⟨x, rfl⟩ : ∃ x, n2 = [x] := List.length_eq_one_iff.1 hl2
    have ei : insNone s1.ch.length s2 = some { s2 with ch := s1.ch ++ [leaf 0, x] } := by
      unfold insNone
      rw [if_pos ⟨by simp at hc2; omega, by unfold LIM; simp at hc2; omega⟩, r2.ch]
      simp
    have rr : Rr s1 { s2 with ch := s1.ch ++ [leaf 0, x] } [leaf 0, x] w2 := ⟨rfl, r2.suf, r2.wt, by have h3 := r2.wf; have h4 : (leaf 0).wf = true := (by decide); simpa [wfs, h4] using h3⟩
    simp at hl2 hc2
    obtain ⟨s3, n3, w3, a3, r3, b3, z3, y3, _⟩ := ((H.members _ (by omega) (by omega)) : Sp M _ _ _ _ _ _ _) { s2 with ch := s1.ch ++ [leaf 0, x] } trivial (r2.valid (r1.valid hv)) (by show wt s2.rest ≤ M; omega) (by show (s1.ch ++ [leaf 0, x]).length + 20 * wt s2.rest + 4 ≤ _; simp; omega)
    refine ⟨s3, n1 ++ [leaf 0, x] ++ n3, w1 + w2 + w3, ?_, (r1.trans rr).trans r3, Nat.zero_le _, ?_, ?_, fun h => by cases h⟩
    · rw [e0]
      have : onAcc [102, 111, 114] (run n .typ) (insNone s1.ch.length) s2 = some { s2 with ch := s1.ch ++ [leaf 0, x] } := by
        unfold onAcc
        rw [if_neg (by simp [hf])]
        exact ei
      simp [seq, this, a3]
    · rw [sizes_append, sizes_append]
      simp [sizes, leaf, Tree.size] at z2 ⊢
      omega
    · rw [heights_append, heights_append]
      simp [heights, leaf, Tree.height] at y2 ⊢
      omega

theorem useLoop_post : ∀ (n : Nat) (s s' : S), run n .useLoop s = some s' → atB [58, 58] s' = true → (pk s'.rest 1).2 = [42]
  | 0, _, _, h => by cases h
  | n + 1, s, s', h => by
    change cond (fun s => atB [58, 58] s && (pk s.rest 1).2 != [42]) (seq [take, run n (.sg .seg), run n .useLoop]) some s = some s' at h
    unfold cond at h
    split at h
    · obtain ⟨m1, _, h⟩ := seq_some h
      obtain ⟨m2, _, h⟩ := seq_some h
      obtain ⟨m3, h3, h⟩ := seq_some h
      rw [seq_nil h]
      exact useLoop_post n m2 m3 h3
    · rename_i h0
      cases h
      intro h1
      simpa [h1] using h0

theorem s_useI {n : Nat} (H : I n) : ∀ M, 5 + 45 * M ≤ (n + 1) → M ≤ 2000 → Sp M 20 Tt (run (n + 1) .useI) 5 3 0 false := by
  intro M h hM s _ hv hM2 hq
  have hn := Sp.node (M := M) 17 (by decide) (by omega) (fun _ h => h) (Sp.seq ((H.seg _ (by omega) (by omega))) (fun _ => Sp.last (Sp.any ((H.useLoop _ (by omega) (by omega))))))
  obtain ⟨s1, n1, w1, a1, r1, b1, z1, y1, _⟩ := hn s trivial hv hM2 (by omega)
  have hw1 := r1.wt
  have hl1 := length_le_sizes n1
  have hc1 : s1.ch.length = s.ch.length + n1.length := by rw [r1.ch, List.length_append]
  have hp : atB [58, 58] s1 = true → (pk s1.rest 1).2 = [42] := by
    have h0 := a1
    unfold node at h0
    cases hz : seq [run n (.sg .seg), run n .useLoop] { s with ch := [] } with
    | none => rw [hz] at h0; cases h0
    | some z =>
      rw [hz] at h0
      change (if s.ch.length < LIM then _ else _) = _ at h0
      split at h0
      · cases h0
        obtain ⟨m1, _, hz⟩ := seq_some hz
        obtain ⟨m2, h2, hz⟩ := seq_some hz
        rw [seq_nil hz]
        exact useLoop_post n m1 m2 h2
      · cases h0
  have e0 : run (n + 1) .useI s = seq [cond (atB [58, 58]) (seq [take, take]) (onAcc [97, 115] expName some), expect [59]] s1 := by
    show ((node 17 (seq [run n (.sg .seg), run n .useLoop]) s).bind (seq [onAcc [58, 58] take (onAcc [97, 115] expName some), expect [59]])) = _
    rw [a1, onAcc_eq]
    rfl
  have hs := Sp.wk (q' := 3) (c' := 1) (e' := 1) (m' := 0) (o' := false) (Sp.seq (M := M) (p := fun s => atB [58, 58] s = true → (pk s.rest 1).2 = [42]) (Sp.cd (Sp.takeThen (p2 := fun s => atB [42] s = true) (tk [58, 58] 2 (fun _ h => h.2)) (fun s s' h hs => paren_next (by rw [h.1 h.2]; rfl) hs) (fun _ => Sp.last (tk [42] 1 (fun _ h => h)))) (Sp.any (Sp.onAcc [97, 115] 2 (fun _ => name_sp _) (Sp.any (id_sp _))))) (fun _ => Sp.last (expect_sp _ [59]))) (by decide)
  obtain ⟨s3, n3, w3, a3, r3, b3, z3, y3, _⟩ := hs s1 hp (r1.valid hv) (by omega) (by omega)
  have ez : (1 + 1 + 1 + 1 : Int) = 4 := rfl
  refine ⟨s3, n1 ++ n3, w1 + w3, by rw [e0]; exact a3, r1.trans r3, Nat.zero_le _, ?_, ?_, fun h => by cases h⟩
  · rw [sizes_append]; omega
  · rw [heights_append]; omega

theorem s_item {n : Nat} (H : I n) {M : Nat} (h : 33 + 45 * M ≤ n) (hM : M ≤ 2000) {y : List UInt8} {x : Int × NT} (hx : itemOf y = some x) : x.1 < 100 ∧ y ≠ [] ∧ Sp M 20 Tt (run n x.2) 10 3 0 false := by
  unfold itemOf at hx
  have hb : ∀ {a b : List UInt8}, (a == b) = true → b ≠ [] → a ≠ [] := fun h h2 => by rw [eq_of_beq h]; exact h2
  split at hx; · rename_i h1; cases hx; exact ⟨by decide, hb h1 (by decide), Sp.wk ((H.useI _ (by omega) (by omega))) (by decide)⟩
  split at hx; · rename_i h1; cases hx; exact ⟨by decide, hb h1 (by decide), Sp.wk ((H.funcI _ (by omega) (by omega))) (by decide)⟩
  split at hx; · rename_i h1; cases hx; exact ⟨by decide, hb h1 (by decide), Sp.wk ((H.structI _ (by omega) (by omega))) (by decide)⟩
  split at hx; · rename_i h1; cases hx; exact ⟨by decide, hb h1 (by decide), Sp.wk ((H.enumI _ (by omega) (by omega))) (by decide)⟩
  split at hx; · rename_i h1; cases hx; exact ⟨by decide, hb h1 (by decide), Sp.wk ((H.traitI _ (by omega) (by omega))) (by decide)⟩
  split at hx; · rename_i h1; cases hx; exact ⟨by decide, hb h1 (by decide), Sp.wk ((H.implI _ (by omega) (by omega))) (by decide)⟩
  split at hx; · rename_i h1; cases hx; exact ⟨by decide, hb h1 (by decide), Sp.wk ((H.constI _ (by omega) (by omega))) (by decide)⟩
  split at hx; · rename_i h1; cases hx; exact ⟨by decide, hb h1 (by decide), Sp.wk ((H.macroI _ (by omega) (by omega))) (by decide)⟩
  cases hx

theorem s_one {n : Nat} (H : I n) {M : Nat} (h : 44 + 45 * M ≤ n + 1) (hM : M ≤ 2000) : Sp M 1 (fun s => Tt s ∧ atEnd s = false) (fun s => match itemOf (keyword s) with | none => node 46 (run n .skip) s | some x => node x.1 (seq [accept [112, 117, 98], take, run n x.2]) s) (-4) 2 1 true := by
  intro s hp hv hM2 hq
  cases hk : itemOf (keyword s) with
  | none =>
    have := Sp.wk (q' := 1) (c' := -4) (e' := 2) (m' := 1) (o' := true) (Sp.node (M := M) 46 (by decide) (by omega) (fun _ h => h) ((H.skip _ (by omega) (by omega)))) (by decide)
    obtain ⟨s', new, w, a, r⟩ := this s (sig_end hp.2) hv hM2 hq
    exact ⟨s', new, w, by simp only [hk]; exact a, r⟩
  | some x =>
    have hx : 1 ≤ M → x.1 < 100 ∧ keyword s ≠ [] ∧ Sp (M - 1) 20 Tt (run n x.2) 10 3 0 false := fun _ => s_item H (by omega) (by omega) hk
    have hs := sig_end hp.2
    have hM1 : 1 ≤ M := by
      obtain ⟨a, t, r, _, h2, _, h4⟩ := split_ok hs
      have h5 := (hv t (by rw [h2]; simp [h4])).2
      have h6 := mem_wt h4
      rw [h2, wt_append] at hM2
      omega
    obtain ⟨x1, x2, x3⟩ := hx hM1
    have key : ∃ s' new w, node x.1 (seq [accept [112, 117, 98], take, run n x.2]) s = some s' ∧ Rr s s' new w ∧ 1 ≤ w ∧ (sizes new : Int) ≤ 16 * w + (-4) ∧ (heights new : Int) ≤ 2 * w + 2 ∧ (true = true → new.length = 1) := by
      cases hpub : atB [112, 117, 98] s with
      | true =>
        have hk1 : keyword s = (pk s.rest 1).2 := if_pos hpub
        rw [hk1] at x2
        have e1 : Sp M 20 (fun s => atB [112, 117, 98] s = true ∧ (pk s.rest 1).2 ≠ []) (seq [accept [112, 117, 98], take, run n x.2]) (-5) 1 1 false := by
          intro s h
          have e2 : seq [accept [112, 117, 98], take, run n x.2] s = seq [take, take, run n x.2] s := by simp only [seq, accept, h.1, if_true]
          have := Sp.wk (q' := 20) (c' := -5) (e' := 1) (m' := 1) (o' := false) (Sp.takeThen (M := M) (p := fun s => atB [112, 117, 98] s = true ∧ (pk s.rest 1).2 ≠ []) (p2 := fun s => sigs s.rest ≠ []) (tk [112, 117, 98] 1 (fun _ h => h.1)) (fun s s' h hs => by
            rw [← pk_tail hs 0] at h
            exact sig_text (beq_self_eq_true _) h.2) (fun _ => Sp.seq (tkS (fun _ h => h)) (fun _ => Sp.last (s_item H (M := M - 1 - 1) (by omega) (by omega) hk).2.2))) (by decide)
          intro hv hM2 hq
          rw [e2]
          exact this s h hv hM2 hq
        exact Sp.wk (q' := 1) (c' := -4) (e' := 2) (m' := 1) (o' := true) (Sp.node x.1 x1 (by omega) (fun _ h => h) e1) (by decide) s ⟨hpub, x2⟩ hv hM2 hq
      | false =>
        have e1 : Sp M 20 (fun s => atB [112, 117, 98] s = false ∧ sigs s.rest ≠ []) (seq [accept [112, 117, 98], take, run n x.2]) (-5) 1 1 false := by
          intro s h
          have e2 : seq [accept [112, 117, 98], take, run n x.2] s = seq [take, run n x.2] s := by simp [seq, accept, h.1]
          have := Sp.wk (q' := 20) (c' := -5) (e' := 1) (m' := 1) (o' := false) (Sp.seq (M := M) (p := fun s => sigs s.rest ≠ []) (tkS (fun _ h => h)) (fun _ => Sp.last x3)) (by decide)
          intro hv hM2 hq
          rw [e2]
          exact this s h.2 hv hM2 hq
        exact Sp.wk (q' := 1) (c' := -4) (e' := 2) (m' := 1) (o' := true) (Sp.node x.1 x1 (by omega) (fun _ h => h) e1) (by decide) s ⟨hpub, hs⟩ hv hM2 hq
    obtain ⟨s', new, w, a, r⟩ := key
    exact ⟨s', new, w, by simp only [hk]; exact a, r⟩

theorem s_file {n : Nat} (H : I n) : ∀ M, 44 + 45 * M ≤ (n + 1) → M ≤ 2000 → Sp M 1 Tt (run (n + 1) .file) 0 2 0 false := by
  intro M h hM
  show Sp M 1 Tt (cond atEnd takeAll (seq [fun s => match itemOf (keyword s) with | none => node 46 (run n .skip) s | some x => node x.1 (seq [accept [112, 117, 98], take, run n x.2]) s, run n .file])) 0 2 0 false
  exact Sp.wk (Sp.cd (Sp.any (takeAll_sp _)) (Sp.seq (s_one H h hM) (fun _ => Sp.last ((H.file _ (by omega) (by omega)))))) (by decide)

theorem step {n : Nat} (H : I n) : I (n + 1) where
  seg := s_seg H
  segN := s_segN H
  tseg := s_tseg H
  tsegN := s_tsegN H
  segLoop := s_segLoop H
  segPath := s_segPath H
  segPathN := s_segPathN H
  tsegLoop := s_tsegLoop H
  tsegPath := s_tsegPath H
  tsegPathN := s_tsegPathN H
  typ := s_typ H
  typP := s_typP H
  optTyp := s_optTyp H
  typs := s_typs H
  tparams := s_tparams H
  tparam := s_tparam H
  bounds := s_bounds H
  list := s_list H
  params := s_params H
  param := s_param H
  block := s_block H
  blockP := s_blockP H
  blockLoop := s_blockLoop H
  stmt := s_stmt H
  estmt := s_estmt H
  letS := s_letS H
  whileS := s_whileS H
  returnS := s_returnS H
  pat := s_pat H
  patP := s_patP H
  vmatch := s_vmatch H
  expr := s_expr H
  exprP := s_exprP H
  oper := s_oper H
  operP := s_operP H
  operLoop := s_operLoop H
  operLoopP := s_operLoopP H
  unary := s_unary H
  unaryP := s_unaryP H
  posf := s_posf H
  posfP := s_posfP H
  postLoop := s_postLoop H
  postLoopP := s_postLoopP H
  args := s_args H
  member := s_member H
  prim := s_prim H
  primP := s_primP H
  pathMac := s_pathMac H
  paren := s_paren H
  ifE := s_ifE H
  matchE := s_matchE H
  arm := s_arm H
  structLit := s_structLit H
  finit := s_finit H
  lambda := s_lambda H
  sigN := s_sigN H
  funcI := s_funcI H
  structI := s_structI H
  field := s_field H
  enumI := s_enumI H
  variant := s_variant H
  traitI := s_traitI H
  implI := s_implI H
  members := s_members H
  membersLoop := s_membersLoop H
  assoc := s_assoc H
  method := s_method H
  constI := s_constI H
  macroI := s_macroI H
  useI := s_useI H
  useLoop := s_useLoop H
  skip := s_skip H
  skipLoop := s_skipLoop H
  file := s_file H

theorem all_I : ∀ n, I n
  | 0 => by constructor <;> (intros; omega)
  | n + 1 => step (all_I n)

/-- The plain parser ends: with 44 + 45 for each byte fuel is left. -/
theorem file_ends {n : Nat} {s : S} (hv : Valid s.rest) (hM : wt s.rest ≤ 2000) (hn : 44 + 45 * wt s.rest ≤ n) (hc : s.ch = []) : ∃ z, run n .file s = some z ∧ wfs z.ch = true ∧ sizes z.ch ≤ 16 * wt s.rest ∧ heights z.ch ≤ 2 * wt s.rest + 2 := by
  obtain ⟨z, new, w, a, r, _, z1, y1, _⟩ := (all_I n).file (wt s.rest) hn hM s trivial hv (Nat.le_refl _) (by rw [hc]; show 0 + _ + 1 ≤ _; omega)
  have h1 := r.ch
  rw [hc, List.nil_append] at h1
  have := r.wt
  exact ⟨z, a, by rw [h1]; exact r.wf, by rw [h1]; omega, by rw [h1]; omega⟩
end Go.Proofs.YtcpojagfnpajeaaGreatDoorR.Ps

namespace Go.Proofs.YtcpojagfnpajeaaGreatDoorR.Ps
open Go.RowKit

theorem sigs_append (a b : List Tk) : sigs (a ++ b) = sigs a ++ sigs b := by unfold sigs; rw [List.filter_append]

/-- Nothing, or it ends with a significant token. -/
def En (u : List Tk) : Prop := u = [] ∨ ∃ x t, u = x ++ [t] ∧ sigB t = true
theorem En.append {u v : List Tk} (hu : En u) (hv : En v) : En (u ++ v) := by
  rcases hv with rfl | ⟨x, t, rfl, h⟩
  · rw [List.append_nil]; exact hu
  · exact Or.inr ⟨u ++ x, t, by rw [List.append_assoc], h⟩

/-- What stands behind w is z and z', and two significant tokens are in w where they differ. -/
def Ah (w z z' : List Tk) : Prop := z' = z ∨ 2 ≤ (sigs w).length
theorem Ah.more {w z z' : List Tk} (h : Ah w z z') (u : List Tk) : Ah (u ++ w) z z' := by
  rcases h with h | h
  · exact Or.inl h
  · exact Or.inr (by rw [sigs_append, List.length_append]; omega)
theorem Ah.pk {w z z' : List Tk} (h : Ah w z z') {n : Nat} (hn : n ≤ 1) : pk (w ++ z') n = pk (w ++ z) n := by
  rcases h with rfl | h
  · rfl
  · unfold Ps.pk
    rw [sigs_append, sigs_append, List.getElem?_append_left (by omega), List.getElem?_append_left (by omega)]
theorem Ah.fin {w z z' : List Tk} (h : Ah w z z') : (sigs (w ++ z')).isEmpty = (sigs (w ++ z)).isEmpty := by
  rcases h with rfl | h
  · rfl
  · rw [sigs_append, sigs_append]
    cases hs : sigs w with
    | nil => rw [hs] at h; simp at h
    | cons a l => rfl

/-- The two actions do the same, whatever the flag (where e is false), behind the two tokens next, and the fuel. -/
def Lc (e : Bool) (a a2 : PA) : Prop :=
  ∀ s s', a s = some s' → ∃ u, s.rest = u ++ s'.rest ∧ En u ∧ ∀ w z z' b, s'.rest = w ++ z → Ah w z z' → (e = true → b = s.val) →
    ∃ b', a2 ⟨s.ch, u ++ w ++ z', b⟩ = some ⟨s'.ch, w ++ z', b'⟩ ∧ (b = s.val → b' = s'.val)

/-- A question that two tokens answer. -/
def Cq (c : S → Bool) : Prop := ∀ ch w z z' b b', Ah w z z' → c ⟨ch, w ++ z', b'⟩ = c ⟨ch, w ++ z, b⟩

theorem Lc.eq {a a2 : PA} (h : Lc false a a2) : Lc true a a2 := by
  intro s s' hs
  obtain ⟨u, h1, h2, h3⟩ := h s s' hs
  exact ⟨u, h1, h2, fun w z z' b e1 e2 _ => h3 w z z' b e1 e2 (fun e => by cases e)⟩
theorem Lc.low {e : Bool} {a a2 : PA} (h : Lc false a a2) : Lc e a a2 := by
  cases e with
  | false => exact h
  | true => exact h.eq

theorem Lc.nil (e : Bool) : Lc e (some : PA) (some : PA) := by
  intro s s' hs
  cases hs
  refine ⟨[], rfl, Or.inl rfl, fun w z z' b e1 _ _ => ⟨b, ?_, fun h => h⟩⟩
  simp

theorem Lc.cons {e : Bool} {a a2 : PA} {l l2 : List PA} (h1 : Lc e a a2) (h2 : Lc e (seq l) (seq l2)) : Lc e (seq (a :: l)) (seq (a2 :: l2)) := by
  intro s s' hs
  obtain ⟨m, ha, hl⟩ := seq_some hs
  obtain ⟨u, p1, p2, p3⟩ := h1 s m ha
  obtain ⟨v, q1, q2, q3⟩ := h2 m s' hl
  refine ⟨u ++ v, by rw [p1, q1, List.append_assoc], p2.append q2, fun w z z' b e1 e2 e3 => ?_⟩
  obtain ⟨b1, r1, r2⟩ := p3 (v ++ w) z z' b (by rw [q1, e1, List.append_assoc]) (e2.more v) e3
  obtain ⟨b2, t1, t2⟩ := q3 w z z' b1 e1 e2 (fun he => r2 (e3 he))
  refine ⟨b2, ?_, fun hb => t2 (r2 hb)⟩
  have hr : u ++ v ++ w ++ z' = u ++ (v ++ w) ++ z' := by simp only [List.append_assoc]
  show (a2 ⟨s.ch, u ++ v ++ w ++ z', b⟩).bind (seq l2) = _
  rw [hr, r1]
  exact t1
theorem Lc.bind {e : Bool} {a a2 b b2 : PA} (h1 : Lc e a a2) (h2 : Lc e b b2) : Lc e (fun s => (a s).bind b) (fun s => (a2 s).bind b2) := by
  have hs : ∀ c : PA, seq [c] = c := fun c => by
    funext s
    show (c s).bind (seq []) = c s
    cases c s <;> rfl
  have h := Lc.cons h1 (l := [b]) (l2 := [b2]) (by rw [hs, hs]; exact h2)
  have h3 : ∀ c d : PA, seq [c, d] = fun s => (c s).bind d := fun c d => by
    funext s
    show (c s).bind (seq [d]) = _
    rw [hs]
  rw [h3, h3] at h
  exact h

theorem Lc.cond {e : Bool} {c : S → Bool} {a a2 b b2 : PA} (hc : Cq c) (h1 : Lc e a a2) (h2 : Lc e b b2) : Lc e (Ps.cond c a b) (Ps.cond c a2 b2) := by
  intro s s' hs
  unfold Ps.cond at hs
  cases hcs : c s with
  | true =>
    rw [if_pos hcs] at hs
    obtain ⟨u, p1, p2, p3⟩ := h1 s s' hs
    refine ⟨u, p1, p2, fun w z z' bb e1 e2 e3 => ?_⟩
    have hq : c ⟨s.ch, u ++ w ++ z', bb⟩ = true := by
      have := hc s.ch (u ++ w) z z' s.val bb (e2.more u)
      rw [this, ← hcs]
      congr 1
      cases s
      simp only [S.mk.injEq, true_and, and_true]
      simp only at p1
      rw [p1, e1, List.append_assoc]
    obtain ⟨b', r1, r2⟩ := p3 w z z' bb e1 e2 e3
    exact ⟨b', by unfold Ps.cond; rw [if_pos hq]; exact r1, r2⟩
  | false =>
    rw [if_neg (by rw [hcs]; decide)] at hs
    obtain ⟨u, p1, p2, p3⟩ := h2 s s' hs
    refine ⟨u, p1, p2, fun w z z' bb e1 e2 e3 => ?_⟩
    have hq : c ⟨s.ch, u ++ w ++ z', bb⟩ = false := by
      have := hc s.ch (u ++ w) z z' s.val bb (e2.more u)
      rw [this, ← hcs]
      congr 1
      cases s
      simp only [S.mk.injEq, true_and, and_true]
      simp only at p1
      rw [p1, e1, List.append_assoc]
    obtain ⟨b', r1, r2⟩ := p3 w z z' bb e1 e2 e3
    exact ⟨b', by unfold Ps.cond; rw [if_neg (by rw [hq]; decide)]; exact r1, r2⟩

/-- The flag itself is asked. -/
theorem Lc.flag {a a2 b b2 : PA} (h1 : Lc true a a2) (h2 : Lc true b b2) : Lc true (Ps.cond S.val a b) (Ps.cond S.val a2 b2) := by
  intro s s' hs
  unfold Ps.cond at hs
  cases hcs : s.val with
  | true =>
    rw [if_pos hcs] at hs
    obtain ⟨u, p1, p2, p3⟩ := h1 s s' hs
    refine ⟨u, p1, p2, fun w z z' bb e1 e2 e3 => ?_⟩
    obtain ⟨b', r1, r2⟩ := p3 w z z' bb e1 e2 (fun h => by rw [e3 h, hcs])
    exact ⟨b', by unfold Ps.cond; rw [if_pos (e3 rfl)]; exact r1, fun h => r2 (by rw [h, hcs])⟩
  | false =>
    rw [if_neg (by rw [hcs]; decide)] at hs
    obtain ⟨u, p1, p2, p3⟩ := h2 s s' hs
    refine ⟨u, p1, p2, fun w z z' bb e1 e2 e3 => ?_⟩
    obtain ⟨b', r1, r2⟩ := p3 w z z' bb e1 e2 (fun h => by rw [e3 h, hcs])
    exact ⟨b', by unfold Ps.cond; rw [if_neg (by rw [show S.val ⟨s.ch, u ++ w ++ z', bb⟩ = bb from rfl, e3 rfl]; decide)]; exact r1, fun h => r2 (by rw [h, hcs])⟩

/-- Behind a store of the flag it is the same on both sides. -/
theorem Lc.set {e : Bool} {l l2 : List PA} (c : Bool) (h : Lc true (seq l) (seq l2)) : Lc e (seq (setVal c :: l)) (seq (setVal c :: l2)) := by
  intro s s' hs
  obtain ⟨m, ha, hl⟩ := seq_some hs
  cases ha
  obtain ⟨u, p1, p2, p3⟩ := h _ s' hl
  refine ⟨u, p1, p2, fun w z z' b e1 e2 _ => ?_⟩
  obtain ⟨b', r1, r2⟩ := p3 w z z' c e1 e2 (fun _ => rfl)
  exact ⟨b', r1, fun _ => r2 rfl⟩
theorem Lc.setv (e c : Bool) : Lc e (setVal c) (setVal c) := by
  intro s s' hs
  cases hs
  refine ⟨[], rfl, Or.inl rfl, fun w z z' b e1 _ _ => ⟨c, by simp [setVal], fun _ => rfl⟩⟩

theorem Lc.add (e : Bool) (x : Tree) : Lc e (Ps.add x) (Ps.add x) := by
  intro s s' hs
  unfold Ps.add at hs
  split at hs
  · rename_i hl
    cases hs
    refine ⟨[], rfl, Or.inl rfl, fun w z z' b e1 _ _ => ⟨b, ?_, fun h => h⟩⟩
    unfold Ps.add
    rw [if_pos hl]
    simp
  · cases hs

theorem split_app {l a r : List Tk} (h : split l = some (a, r)) (X : List Tk) : split (a ++ X) = some (a, X) := by
  induction l generalizing a r with
  | nil => simp [split] at h
  | cons x q ih =>
    unfold split at h
    cases hx : sigB x with
    | true =>
      rw [hx] at h
      simp at h
      obtain ⟨rfl, rfl⟩ := h
      simp [split, hx]
    | false =>
      rw [hx] at h
      simp only [Bool.false_eq_true, if_false] at h
      cases hq : split q with
      | none => rw [hq] at h; simp at h
      | some y =>
        rw [hq] at h
        simp at h
        obtain ⟨rfl, rfl⟩ := h
        have := ih (a := y.1) (r := y.2) hq
        simp [split, hx, this]
theorem split_parts {l a r : List Tk} (h : split l = some (a, r)) : l = a ++ r ∧ ∃ x t, a = x ++ [t] ∧ sigB t = true ∧ sigs x = [] := by
  induction l generalizing a r with
  | nil => simp [split] at h
  | cons x q ih =>
    unfold split at h
    cases hx : sigB x with
    | true =>
      rw [hx] at h
      simp at h
      obtain ⟨rfl, rfl⟩ := h
      exact ⟨rfl, [], x, rfl, hx, rfl⟩
    | false =>
      rw [hx] at h
      simp only [Bool.false_eq_true, if_false] at h
      cases hq : split q with
      | none => rw [hq] at h; simp at h
      | some y =>
        rw [hq] at h
        simp at h
        obtain ⟨rfl, rfl⟩ := h
        obtain ⟨h1, x', t, h2, h3, h4⟩ := ih (a := y.1) (r := y.2) hq
        exact ⟨by rw [List.cons_append, ← h1], x :: x', t, by rw [h2]; rfl, h3, by simpa [sigs, hx] using h4⟩

theorem take_is {s s' : S} (h : take s = some s') : ∃ a r, split s.rest = some (a, r) ∧ s.ch.length + a.length < LIM ∧ s' = { s with ch := s.ch ++ a.map tokTree, rest := r } := by
  unfold take at h
  cases hs : split s.rest with
  | none => simp [hs] at h
  | some x =>
    simp only [hs, Option.bind_some] at h
    split at h
    · rename_i q; exact ⟨x.1, x.2, rfl, q, (Option.some.inj h).symm⟩
    · cases h

theorem Lc.take (e : Bool) : Lc e Ps.take Ps.take := by
  intro s s' hs
  obtain ⟨a, r, h1, h2, rfl⟩ := take_is hs
  obtain ⟨h3, x, t, h4, h5, _⟩ := split_parts h1
  refine ⟨a, h3, Or.inr ⟨x, t, h4, h5⟩, fun w z z' b e1 _ _ => ⟨b, ?_, fun h => h⟩⟩
  unfold Ps.take
  simp only
  rw [List.append_assoc, split_app h1]
  simp only [Option.bind_some]
  rw [if_pos h2]

theorem Cq.of {c : S → Bool} (f : Tk → Tk → Bool → Bool) (h : ∀ s, c s = f (pk s.rest 0) (pk s.rest 1) (sigs s.rest).isEmpty) : Cq c := by
  intro ch w z z' b b' ha
  rw [h, h]
  simp only
  rw [ha.pk (by omega), ha.pk (by omega), ha.fin]
theorem Cq.at (x : List UInt8) : Cq (atB x) := Cq.of (fun t _ _ => t.2 == x) (fun _ => rfl)

theorem Lc.accept (e : Bool) (x : List UInt8) : Lc e (Ps.accept x) (Ps.accept x) := Lc.cond (Cq.at x) (Lc.take e) (Lc.nil e)
theorem Lc.expect (e : Bool) (x : List UInt8) : Lc e (Ps.expect x) (Ps.expect x) := Lc.cond (Cq.at x) (Lc.take e) (Lc.add e _)
theorem Cq.name : Cq atName := Cq.of (fun t _ _ => t.1 == 103) (fun _ => rfl)
theorem Lc.expName (e : Bool) : Lc e Ps.expName Ps.expName := Lc.cond Cq.name (Lc.take e) (Lc.add e _)
theorem Lc.onAcc {e : Bool} (x : List UInt8) {a a2 b b2 : PA} (h1 : Lc e a a2) (h2 : Lc e b b2) : Lc e (Ps.onAcc x a b) (Ps.onAcc x a2 b2) := Lc.cond (Cq.at x) (Lc.bind (Lc.take e) h1) h2

theorem Lc.node {e : Bool} (k : Int) {a a2 : PA} (h : Lc e a a2) : Lc e (Ps.node k a) (Ps.node k a2) := by
  intro s s' hs
  unfold Ps.node at hs
  cases ha : a { s with ch := [] } with
  | none => simp [ha] at hs
  | some m =>
    simp only [ha, Option.bind_some] at hs
    split at hs
    · rename_i hl
      cases hs
      obtain ⟨u, p1, p2, p3⟩ := h _ m ha
      refine ⟨u, p1, p2, fun w z z' b e1 e2 e3 => ?_⟩
      obtain ⟨b', r1, r2⟩ := p3 w z z' b e1 e2 e3
      refine ⟨b', ?_, r2⟩
      unfold Ps.node
      simp only at r1 ⊢
      rw [r1]
      simp only [Option.bind_some]
      rw [if_pos hl]
    · cases hs
theorem Lc.wrap {e : Bool} (k : Int) {a a2 : PA} (h : Lc e a a2) : Lc e (Ps.wrap k a) (Ps.wrap k a2) := by
  intro s s' hs
  unfold Ps.wrap at hs
  cases hx : s.ch.getLast? with
  | none => simp [hx] at hs
  | some x =>
    simp only [hx, Option.bind_some] at hs
    have hs1 : ∀ c : PA, seq [c] = c := fun c => by
      funext s
      show (c s).bind (seq []) = c s
      cases c s <;> rfl
    obtain ⟨u, p1, p2, p3⟩ := Lc.node k (Lc.cons (Lc.add e x) (l := [a]) (l2 := [a2]) (by rw [hs1, hs1]; exact h)) _ s' hs
    refine ⟨u, p1, p2, fun w z z' b e1 e2 e3 => ?_⟩
    obtain ⟨b', r1, r2⟩ := p3 w z z' b e1 e2 e3
    refine ⟨b', ?_, r2⟩
    unfold Ps.wrap
    simp only [hx, Option.bind_some]
    exact r1
theorem Lc.insNone (e : Bool) (i : Nat) : Lc e (Ps.insNone i) (Ps.insNone i) := by
  intro s s' hs
  unfold Ps.insNone at hs
  split at hs
  · rename_i hl
    cases hs
    refine ⟨[], rfl, Or.inl rfl, fun w z z' b e1 _ _ => ⟨b, ?_, fun h => h⟩⟩
    unfold Ps.insNone
    rw [if_pos hl]
    simp
  · cases hs
/-- What is done next hangs on the children. -/
theorem Lc.ch {e : Bool} {a a2 : PA} {f f2 : List Tree → PA} (h1 : Lc e a a2) (h2 : ∀ c, Lc e (f c) (f2 c)) : Lc e (fun s => (a s).bind fun m => f m.ch m) (fun s => (a2 s).bind fun m => f2 m.ch m) := by
  intro s s' hs
  cases ha : a s with
  | none => simp [ha] at hs
  | some m =>
    simp only [ha, Option.bind_some] at hs
    obtain ⟨u, p1, p2, p3⟩ := h1 s m ha
    obtain ⟨v, q1, q2, q3⟩ := h2 m.ch m s' hs
    refine ⟨u ++ v, by rw [p1, q1, List.append_assoc], p2.append q2, fun w z z' b e1 e2 e3 => ?_⟩
    obtain ⟨b1, r1, r2⟩ := p3 (v ++ w) z z' b (by rw [q1, e1, List.append_assoc]) (e2.more v) e3
    obtain ⟨b2, t1, t2⟩ := q3 w z z' b1 e1 e2 (fun he => r2 (e3 he))
    refine ⟨b2, ?_, fun hb => t2 (r2 hb)⟩
    have hr : u ++ v ++ w ++ z' = u ++ (v ++ w) ++ z' := by simp only [List.append_assoc]
    simp only [hr]
    rw [r1]
    simp only [Option.bind_some]
    exact t1
/-- An action that hangs on what two tokens tell. -/
theorem Lc.by {e : Bool} {α : Type} (q : S → α) (hq : ∀ ch w z z' b b', Ah w z z' → q ⟨ch, w ++ z', b'⟩ = q ⟨ch, w ++ z, b⟩) {f f2 : α → PA} (h : ∀ x, Lc e (f x) (f2 x)) : Lc e (fun s => f (q s) s) (fun s => f2 (q s) s) := by
  intro s s' hs
  obtain ⟨u, p1, p2, p3⟩ := h (q s) s s' hs
  refine ⟨u, p1, p2, fun w z z' b e1 e2 e3 => ?_⟩
  obtain ⟨b', r1, r2⟩ := p3 w z z' b e1 e2 e3
  refine ⟨b', ?_, r2⟩
  have hq' : q ⟨s.ch, u ++ w ++ z', b⟩ = q s := by
    rw [hq s.ch (u ++ w) z z' s.val b (e2.more u)]
    congr 1
    cases s
    simp only [S.mk.injEq, true_and, and_true]
    simp only at p1
    rw [p1, e1, List.append_assoc]
  show f2 (q ⟨s.ch, u ++ w ++ z', b⟩) ⟨s.ch, u ++ w ++ z', b⟩ = _
  rw [hq']
  exact r1
end Go.Proofs.YtcpojagfnpajeaaGreatDoorR.Ps

namespace Go.Proofs.YtcpojagfnpajeaaGreatDoorR.Ps
open Go.RowKit

theorem Cq.or {c d : S → Bool} (h1 : Cq c) (h2 : Cq d) : Cq (fun s => c s || d s) := fun ch w z z' b b' h => by simp only [h1 ch w z z' b b' h, h2 ch w z z' b b' h]
theorem Cq.and {c d : S → Bool} (h1 : Cq c) (h2 : Cq d) : Cq (fun s => c s && d s) := fun ch w z z' b b' h => by simp only [h1 ch w z z' b b' h, h2 ch w z z' b b' h]
theorem Cq.not {c : S → Bool} (h1 : Cq c) : Cq (fun s => !c s) := fun ch w z z' b b' h => by simp only [h1 ch w z z' b b' h]
theorem Cq.kind (k : Int) : Cq (fun s => (pk s.rest 0).1 == k) := Cq.of (fun t _ _ => t.1 == k) (fun _ => rfl)
theorem Cq.next (x : List UInt8) : Cq (fun s => (pk s.rest 1).2 == x) := Cq.of (fun _ t _ => t.2 == x) (fun _ => rfl)
theorem Cq.nextNot (x : List UInt8) : Cq (fun s => (pk s.rest 1).2 != x) := Cq.of (fun _ t _ => t.2 != x) (fun _ => rfl)
theorem Cq.fin : Cq atEnd := Cq.of (fun _ _ e => e) (fun _ => rfl)
theorem Cq.item : Cq atItem := Cq.of (fun t _ _ => startsI t.2) (fun _ => rfl)
theorem Cq.prec (k : Nat) : Cq (fun s => Ps.prec (pk s.rest 0).2 == k) := Cq.of (fun t _ _ => Ps.prec t.2 == k) (fun _ => rfl)
theorem Cq.expr : Cq atExpr := Cq.of (fun t _ _ => exprKind t.1 || exprText t.2 || decide (0 < Ps.prec t.2)) (fun _ => rfl)
theorem Cq.type : Cq atType := Cq.or (Cq.or (Cq.at _) (Cq.at _)) Cq.name
theorem Cq.lit : Cq atLit := Cq.or (Cq.or (Cq.kind _) (Cq.at _)) (Cq.at _)
theorem Cq.pat : Cq atPat := Cq.or (Cq.or Cq.name (Cq.at _)) Cq.lit
theorem Cq.goOn (cl : List UInt8) : Cq (goOn cl) := Cq.and (Cq.and (Cq.not (Cq.at _)) (Cq.not Cq.fin)) (Cq.or (Cq.at _) (Cq.not Cq.item))
theorem Cq.stmtOn : Cq stmtOn := Cq.and (Cq.and (Cq.not (Cq.at _)) (Cq.not Cq.fin)) (Cq.not Cq.item)
theorem Cq.starts (e : El) : Cq (starts e) := by
  cases e
  case typ => exact Cq.type
  case expr => exact Cq.expr
  case pat => exact Cq.pat
  case arm => exact Cq.pat
  all_goals exact Cq.name

/-- As Lc, at one state. -/
def Ls (e : Bool) (a2 : PA) (s s' : S) : Prop :=
  ∃ u, s.rest = u ++ s'.rest ∧ En u ∧ ∀ w z z' b, s'.rest = w ++ z → Ah w z z' → (e = true → b = s.val) →
    ∃ b', a2 ⟨s.ch, u ++ w ++ z', b⟩ = some ⟨s'.ch, w ++ z', b'⟩ ∧ (b = s.val → b' = s'.val)

theorem Lc.condP {e : Bool} {c : S → Bool} {a a2 b b2 : PA} (hc : Cq c) (h1 : ∀ s s', c s = true → a s = some s' → Ls e a2 s s') (h2 : Lc e b b2) : Lc e (Ps.cond c a b) (Ps.cond c a2 b2) := by
  intro s s' hs
  unfold Ps.cond at hs
  cases hcs : c s with
  | true =>
    rw [if_pos hcs] at hs
    obtain ⟨u, p1, p2, p3⟩ := h1 s s' hcs hs
    refine ⟨u, p1, p2, fun w z z' bb e1 e2 e3 => ?_⟩
    have hq : c ⟨s.ch, u ++ w ++ z', bb⟩ = true := by
      have := hc s.ch (u ++ w) z z' s.val bb (e2.more u)
      rw [this, ← hcs]
      congr 1
      cases s
      simp only [S.mk.injEq, true_and, and_true]
      simp only at p1
      rw [p1, e1, List.append_assoc]
    obtain ⟨b', r1, r2⟩ := p3 w z z' bb e1 e2 e3
    exact ⟨b', by unfold Ps.cond; rw [if_pos hq]; exact r1, r2⟩
  | false =>
    have h := Lc.cond hc (a := b) (a2 := b2) h2 h2 s s' (by unfold Ps.cond; rw [hcs]; rw [hcs] at hs; exact hs)
    obtain ⟨u, p1, p2, p3⟩ := h
    refine ⟨u, p1, p2, fun w z z' bb e1 e2 e3 => ?_⟩
    have hq : c ⟨s.ch, u ++ w ++ z', bb⟩ = false := by
      have := hc s.ch (u ++ w) z z' s.val bb (e2.more u)
      rw [this, ← hcs]
      congr 1
      cases s
      simp only [S.mk.injEq, true_and, and_true]
      simp only at p1
      rw [p1, e1, List.append_assoc]
    obtain ⟨b', r1, r2⟩ := p3 w z z' bb e1 e2 e3
    unfold Ps.cond at r1 ⊢
    rw [hq] at r1 ⊢
    exact ⟨b', r1, r2⟩

theorem memK_same {ch : List Tree} {u w z z' : List Tk} {b b' : Bool} (hu : 1 ≤ (sigs u).length) (h : Ah w z z') : memK ⟨ch, u ++ w ++ z', b'⟩ = memK ⟨ch, u ++ w ++ z, b⟩ := by
  rcases h with rfl | h
  · rfl
  · have hl : 3 ≤ (sigs (u ++ w)).length := by rw [sigs_append, List.length_append]; omega
    have e : ∀ n, n ≤ 2 → pk (u ++ w ++ z') n = pk (u ++ w ++ z) n := fun n hn => by
      unfold pk
      rw [sigs_append, sigs_append (u ++ w) z, List.getElem?_append_left (by omega), List.getElem?_append_left (by omega)]
    unfold memK
    simp only [e 1 (by omega), e 2 (by omega)]

theorem wrap_is {k : Int} {a : PA} {s s' : S} (h : wrap k a s = some s') : ∃ s1 s2, s1.rest = s.rest ∧ a s1 = some s2 ∧ s2.rest = s'.rest := by
  unfold wrap at h
  cases hx : s.ch.getLast? with
  | none => simp [hx] at h
  | some x =>
    simp only [hx, Option.bind_some] at h
    unfold node at h
    cases ha : seq [add x, a] { s with ch := [] } with
    | none => simp [ha] at h
    | some m =>
      simp only [ha, Option.bind_some] at h
      split at h
      · cases h
        obtain ⟨m1, p1, p2⟩ := seq_some ha
        obtain ⟨m2, p3, p4⟩ := seq_some p2
        have := seq_nil p4
        subst this
        unfold add at p1
        split at p1
        · cases p1
          refine ⟨_, _, ?_, p3, rfl⟩
          rfl
        · cases p1
      · cases h

section
variable {r r2 : NT → PA}

theorem postLoop_lc (h : ∀ nt, nt ≠ .file → Lc false (r nt) (r2 nt)) (hm : ∀ s s', atB [46] s = true → r .member s = some s' → (sigs s'.rest).length < (sigs s.rest).length) :
    Lc false (body r .postLoop) (body r2 .postLoop) := by
  show Lc false (cond _ _ _) (cond _ _ _)
  refine Lc.cond (Cq.at _) (Lc.cons (Lc.wrap _ (h _ (by intro q; cases q))) (Lc.cons (h _ (by intro q; cases q)) (Lc.nil _))) (Lc.condP (Cq.at _) ?_ (Lc.nil _))
  intro s s' hc hs
  obtain ⟨m, h1, h2⟩ := seq_some hs
  obtain ⟨s1, s2, q1, q2, q3⟩ := wrap_is h1
  have hlt := hm s1 s2 (by unfold atB; rw [q1]; exact hc) q2
  rw [q1, q3] at hlt
  obtain ⟨u, p1, p2, p3⟩ := Lc.wrap (memK s) (h .member (by intro q; cases q)) s m h1
  have hu : 1 ≤ (sigs u).length := by
    rw [p1, sigs_append, List.length_append] at hlt
    omega
  obtain ⟨v, t1, t2, t3⟩ := Lc.cons (e := false) (l := []) (l2 := []) (h .postLoop (by intro q; cases q)) (Lc.nil _) m s' h2
  refine ⟨u ++ v, by rw [p1, t1, List.append_assoc], p2.append t2, fun w z z' b e1 e2 e3 => ?_⟩
  obtain ⟨b1, r1, r2'⟩ := p3 (v ++ w) z z' b (by rw [t1, e1, List.append_assoc]) (e2.more v) e3
  obtain ⟨b2, x1, x2⟩ := t3 w z z' b1 e1 e2 (fun he => by cases he)
  refine ⟨b2, ?_, fun hb => x2 (r2' hb)⟩
  have hr : u ++ v ++ w ++ z' = u ++ (v ++ w) ++ z' := by simp only [List.append_assoc]
  have hk : memK ⟨s.ch, u ++ (v ++ w) ++ z', b⟩ = memK s := by
    rw [memK_same (z := z) (b := s.val) hu (e2.more v)]
    congr 1
    cases s
    simp only [S.mk.injEq, true_and, and_true]
    simp only at p1
    rw [p1, t1, e1]
    simp only [List.append_assoc]
  show ((fun s => wrap (memK s) (r2 .member) s) ⟨s.ch, u ++ v ++ w ++ z', b⟩).bind (seq [r2 .postLoop]) = _
  rw [hr]
  simp only [hk]
  rw [r1]
  exact x1

set_option maxHeartbeats 2000000 in
theorem body_lc (h : ∀ nt, nt ≠ .file → Lc false (r nt) (r2 nt)) (hm : ∀ s s', atB [46] s = true → r .member s = some s' → (sigs s'.rest).length < (sigs s.rest).length) :
    ∀ nt, nt ≠ .file → Lc false (body r nt) (body r2 nt) := by
  intro nt hnt
  have H : ∀ e nt, nt ≠ .file → Lc e (r nt) (r2 nt) := fun e nt hn => (h nt hn).low
  cases nt
  case file => exact absurd rfl hnt
  case postLoop => exact postLoop_lc h hm
  case block => exact Lc.node _ (Lc.cons (Lc.expect _ _) (Lc.set _ (Lc.cons (H _ _ (by intro q; cases q)) (Lc.cons (Lc.flag (Lc.nil _) (Lc.add _ _)) (Lc.cons (Lc.expect _ _) (Lc.nil _))))))
  case oper k =>
    show Lc false (if 5 < k then _ else _) (if 5 < k then _ else _)
    split
    · exact H _ _ (by intro q; cases q)
    · exact Lc.cons (H _ _ (by intro q; cases q)) (Lc.cons (H _ _ (by intro q; cases q)) (Lc.nil _))
  case operLoop k =>
    refine Lc.cond (Cq.prec k) (Lc.cons (Lc.wrap _ (Lc.cons (Lc.take _) (Lc.cons (H _ _ (by intro q; cases q)) (Lc.nil _)))) (Lc.cons ?_ (Lc.nil _))) (Lc.nil _)
    split
    · exact Lc.nil _
    · exact H _ _ (by intro q; cases q)
  case list cl e =>
    refine Lc.cond (Cq.goOn cl) (Lc.cons (Lc.cond (Cq.starts e) (H _ _ (by intro q; cases e <;> cases q)) (Lc.node _ (Lc.take _))) (Lc.cons (Lc.cond (Cq.at _) (Lc.nil _) (Lc.expect _ _)) (Lc.cons (H _ _ (by intro q; cases q)) (Lc.nil _)))) (Lc.expect _ _)
  case implI => exact Lc.ch (f := fun c => seq [r .typ, onAcc [102, 111, 114] (r .typ) (insNone c.length), r .members]) (f2 := fun c => seq [r2 .typ, onAcc [102, 111, 114] (r2 .typ) (insNone c.length), r2 .members]) (H _ _ (by intro q; cases q)) (fun c => Lc.cons (H _ _ (by intro q; cases q)) (Lc.cons (Lc.onAcc _ (H _ _ (by intro q; cases q)) (Lc.insNone _ _)) (Lc.cons (H _ _ (by intro q; cases q)) (Lc.nil _))))
  case sg g =>
    cases g
    · exact Lc.node _ (Lc.expName _)
    · exact Lc.node _ (Lc.cons (Lc.expName _) (Lc.cons (Lc.onAcc _ (H _ _ (by intro q; cases q)) (Lc.nil _)) (Lc.nil _)))
  case pat =>
    refine Lc.cond (Cq.at _) (Lc.node _ (Lc.take _)) (Lc.cond (Cq.at _) (Lc.node _ (Lc.cons (Lc.take _) (Lc.cons (Lc.expName _) (Lc.nil _)))) (Lc.cond (Cq.and Cq.name (Cq.or (Cq.next _) (Cq.next _))) (Lc.node _ (H _ _ (by intro q; cases q))) (Lc.cond Cq.name (Lc.node _ (Lc.take _)) (Lc.cond Cq.lit (H _ _ (by intro q; cases q)) (Lc.add _ _)))))
  all_goals simp only [body]
  all_goals repeat' (first
    | exact Lc.nil _
    | exact Lc.take _
    | exact Lc.expName _
    | exact Lc.setv _ _
    | exact H _ _ (by intro q; cases q)
    | exact Cq.at _ | exact Cq.name | exact Cq.expr | exact Cq.type | exact Cq.stmtOn | exact Cq.kind _ | exact Cq.next _ | exact Cq.nextNot _ | exact Cq.fin | exact Cq.item
    | refine Lc.cons ?_ ?_
    | exact Lc.accept _ _
    | exact Lc.expect _ _
    | refine Lc.onAcc _ ?_ ?_
    | refine Lc.wrap _ ?_
    | refine Lc.node _ ?_
    | exact Lc.add _ _
    | refine Lc.cond ?_ ?_ ?_
    | refine Cq.or ?_ ?_ | refine Cq.and ?_ ?_ | refine Cq.not ?_)
end

theorem take_less {s s' : S} (h : take s = some s') : (sigs s'.rest).length < (sigs s.rest).length := by
  obtain ⟨a, r, h1, _, rfl⟩ := take_is h
  obtain ⟨h3, x, t, h4, h5, _⟩ := split_parts h1
  rw [h3, sigs_append, List.length_append, h4, sigs_append, List.length_append]
  have : (sigs [t]).length = 1 := by simp [sigs, h5]
  show (sigs r).length < _
  omega
theorem Lc.le {e : Bool} {a a2 : PA} (h : Lc e a a2) {s s' : S} (hs : a s = some s') : (sigs s'.rest).length ≤ (sigs s.rest).length := by
  obtain ⟨u, h1, _⟩ := h s s' hs
  rw [h1, sigs_append, List.length_append]
  omega

theorem run_lc : ∀ (n m : Nat), n ≤ m → ∀ nt, nt ≠ .file → Lc false (run n nt) (run m nt)
  | 0, _, _, nt, _ => by
    intro s s' hs
    cases hs
  | n + 1, 0, h, _, _ => absurd h (by omega)
  | n + 1, m + 1, h, nt, hnt => by
    have ih := run_lc n m (by omega)
    refine body_lc ih ?_ nt hnt
    intro s s' _ hs
    cases n with
    | zero => cases hs
    | succ n =>
      obtain ⟨m1, p1, p2⟩ := seq_some (a := take) (l := [expName, cond (atB [40]) (run n .args) some]) hs
      have h1 := take_less p1
      have ihn := run_lc n n (Nat.le_refl _)
      have h2 := Lc.le (e := false) (Lc.cons (l := [cond (atB [40]) (run n .args) some]) (l2 := [cond (atB [40]) (run n .args) some]) (Lc.expName _) (Lc.cons (l := []) (l2 := []) (Lc.cond (Cq.at _) (ihn .args (by intro q; cases q)) (Lc.nil _)) (Lc.nil _))) p2
      omega
end Go.Proofs.YtcpojagfnpajeaaGreatDoorR.Ps

namespace Go.Proofs.YtcpojagfnpajeaaGreatDoorR.Ps
open Go.RowKit

mutual
/-- The source of a tree: the texts of its tokens. -/
def srcT : Tree → List UInt8
  | .node k t c => (if k < 100 then [] else Lx.L t) ++ srcs c
def srcs : List Tree → List UInt8
  | [] => []
  | x :: r => srcT x ++ srcs r
end
def tokB (t : Tk) : List UInt8 := if t.1 < 100 then [] else t.2
def bytes (ρ : List Tk) : List UInt8 := ρ.flatMap tokB

theorem srcs_append (a b : List Tree) : srcs (a ++ b) = srcs a ++ srcs b := by
  induction a with
  | nil => simp [srcs]
  | cons x r ih => simp [srcs, ih]
theorem bytes_append (a b : List Tk) : bytes (a ++ b) = bytes a ++ bytes b := List.flatMap_append ..
theorem srcT_tok (t : Tk) : srcT (tokTree t) = tokB t := by
  unfold tokTree srcT tokB
  simp [srcs, Lx.L_bs]
theorem srcs_toks (l : List Tk) : srcs (l.map tokTree) = bytes l := by
  induction l with
  | nil => rfl
  | cons t r ih => simp only [List.map_cons, srcs, srcT_tok, ih]; rfl
theorem srcT_inner {k : Int} (hk : k < 100) (c : List Tree) : srcT (inner k c) = srcs c := by
  unfold inner srcT
  simp [hk]
theorem srcT_leaf (k : Int) : srcT (leaf k) = [] := by
  unfold leaf srcT
  simp [srcs, Lx.L]
theorem srcT_eq (x : Tree) : srcT x = (if x.k < 100 then [] else Lx.L x.t) ++ srcs x.c := by cases x; rfl

/-- Nothing is lost. -/
def Cs (a : PA) : Prop := ∀ s s', a s = some s' → srcs s'.ch ++ bytes s'.rest = srcs s.ch ++ bytes s.rest

theorem Cs.nil : Cs (seq []) := fun s s' h => by cases h; rfl
theorem Cs.cons {a : PA} {l : List PA} (h1 : Cs a) (h2 : Cs (seq l)) : Cs (seq (a :: l)) := by
  intro s s' h
  obtain ⟨m, p, q⟩ := seq_some h
  rw [h2 m s' q, h1 s m p]
theorem Cs.cond {c : S → Bool} {a b : PA} (h1 : Cs a) (h2 : Cs b) : Cs (Ps.cond c a b) := by
  intro s s' h
  unfold Ps.cond at h
  split at h
  · exact h1 s s' h
  · exact h2 s s' h
theorem Cs.bind {a b : PA} (h1 : Cs a) (h2 : Cs b) : Cs (fun s => (a s).bind b) := by
  intro s s' h
  cases ha : a s with
  | none => simp [ha] at h
  | some m =>
    simp only [ha, Option.bind_some] at h
    rw [h2 m s' h, h1 s m ha]
theorem Cs.add {x : Tree} (hx : srcT x = []) : Cs (Ps.add x) := by
  intro s s' h
  unfold Ps.add at h
  split at h
  · cases h; simp [srcs_append, srcs, hx]
  · cases h
theorem Cs.take : Cs Ps.take := by
  intro s s' h
  obtain ⟨a, r, h1, _, rfl⟩ := take_is h
  rw [(split_parts h1).1]
  simp [srcs_append, srcs_toks, bytes_append]
theorem Cs.takeAll : Cs Ps.takeAll := by
  intro s s' h
  unfold Ps.takeAll at h
  split at h
  · cases h; simp [srcs_append, srcs_toks, bytes]
  · cases h
theorem Cs.setv (b : Bool) : Cs (setVal b) := fun s s' h => by cases h; rfl
theorem Cs.accept (x : List UInt8) : Cs (Ps.accept x) := Cs.cond Cs.take Cs.nil
theorem Cs.expect (x : List UInt8) : Cs (Ps.expect x) := Cs.cond Cs.take (Cs.add (srcT_leaf _))
theorem Cs.expName : Cs Ps.expName := Cs.cond Cs.take (Cs.add (srcT_leaf _))
theorem Cs.onAcc (x : List UInt8) {a b : PA} (h1 : Cs a) (h2 : Cs b) : Cs (Ps.onAcc x a b) := Cs.cond (Cs.bind Cs.take h1) h2
theorem Cs.node {k : Int} (hk : k < 100) {a : PA} (h : Cs a) : Cs (Ps.node k a) := by
  intro s s' hs
  unfold Ps.node at hs
  cases ha : a { s with ch := [] } with
  | none => simp [ha] at hs
  | some m =>
    simp only [ha, Option.bind_some] at hs
    split at hs
    · cases hs
      have h1 := h _ m ha
      simp only [srcs, List.nil_append] at h1
      simp only [srcs_append, srcs, srcT_inner hk, List.append_nil, List.append_assoc]
      rw [h1]
    · cases hs
theorem Cs.wrap {k : Int} (hk : k < 100) {a : PA} (h : Cs a) : Cs (Ps.wrap k a) := by
  intro s s' hs
  unfold Ps.wrap at hs
  cases hx : s.ch.getLast? with
  | none => simp [hx] at hs
  | some x =>
    simp only [hx, Option.bind_some] at hs
    have hch : s.ch = s.ch.dropLast ++ [x] := by
      have hne : s.ch ≠ [] := fun e => by rw [e] at hx; cases hx
      rw [List.getLast?_eq_some_getLast hne] at hx
      rw [← Option.some.inj hx]
      exact (List.dropLast_concat_getLast hne).symm
    unfold Ps.node at hs
    cases ha : seq [Ps.add x, a] { s with ch := [] } with
    | none => simp [ha] at hs
    | some m =>
      simp only [ha, Option.bind_some] at hs
      split at hs
      · cases hs
        obtain ⟨m1, p1, p2⟩ := seq_some ha
        obtain ⟨m2, p3, p4⟩ := seq_some p2
        have := seq_nil p4
        subst this
        unfold Ps.add at p1
        split at p1
        · cases p1
          have h1 := h _ m p3
          simp only [srcs, List.nil_append, List.append_nil] at h1
          simp only [srcs_append, srcs, srcT_inner hk, List.append_nil, List.append_assoc]
          rw [h1, hch]
          simp [srcs_append, srcs]
        · cases p1
      · cases hs
theorem Cs.insNone (i : Nat) : Cs (Ps.insNone i) := by
  intro s s' h
  unfold Ps.insNone at h
  split at h
  · cases h
    simp only [srcs_append, srcs, srcT_leaf, List.nil_append]
    rw [← srcs_append, List.take_append_drop]
  · cases h

theorem itemOf_kind {x : List UInt8} {p : Int × NT} (h : itemOf x = some p) : p.1 < 100 ∧ p.2 ≠ .file := by
  unfold itemOf at h
  (repeat' split at h) <;> first | (cases h; exact ⟨by decide, by intro q; cases q⟩) | cases h

/-- An item of a file. -/
def itemA (r : NT → PA) : PA := fun s => match itemOf (keyword s) with | none => node 46 (r .skip) s | some x => node x.1 (seq [Ps.accept [112, 117, 98], Ps.take, r x.2]) s

section
variable {r : NT → PA}
theorem itemA_cs (h : ∀ nt, Cs (r nt)) : Cs (itemA r) := by
  intro s s' hs
  unfold itemA at hs
  split at hs
  · exact Cs.node (by decide) (h _) s s' hs
  · rename_i x hx
    exact Cs.node (itemOf_kind hx).1 (Cs.cons (Cs.accept _) (Cs.cons Cs.take (Cs.cons (l := []) (h _) Cs.nil))) s s' hs

set_option maxHeartbeats 2000000 in
theorem body_cs (h : ∀ nt, Cs (r nt)) : ∀ nt, Cs (body r nt) := by
  intro nt
  cases nt
  case file => exact Cs.cond Cs.takeAll (Cs.cons (itemA_cs h) (Cs.cons (h _) Cs.nil))
  case postLoop => exact Cs.cond (Cs.cons (Cs.wrap (by decide) (h _)) (Cs.cons (h _) Cs.nil)) (Cs.cond (Cs.cons (fun s s' hs => Cs.wrap (memK_lt s) (h .member) s s' hs) (Cs.cons (h _) Cs.nil)) Cs.nil)
  case oper k =>
    show Cs (if 5 < k then _ else _)
    split
    · exact h _
    · exact Cs.cons (h _) (Cs.cons (h _) Cs.nil)
  case operLoop k =>
    refine Cs.cond (Cs.cons (Cs.wrap (by decide) (Cs.cons Cs.take (Cs.cons (h _) Cs.nil))) (Cs.cons ?_ Cs.nil)) Cs.nil
    split
    · exact Cs.nil
    · exact h _
  case implI =>
    intro s s' hs
    exact Cs.bind (b := fun m => seq [r .typ, Ps.onAcc [102, 111, 114] (r .typ) (Ps.insNone m.ch.length), r .members] m) (h .tparams) (fun m m' hm => Cs.cons (h _) (Cs.cons (Cs.onAcc _ (h _) (Cs.insNone _)) (Cs.cons (l := []) (h _) Cs.nil)) m m' hm) s s' hs
  case sg g => cases g <;> simp only [body] <;> first | exact Cs.node (by decide) Cs.expName | exact Cs.node (by decide) (Cs.cons Cs.expName (Cs.cons (Cs.onAcc _ (h _) Cs.nil) Cs.nil))
  all_goals simp only [body]
  all_goals repeat' (first
    | exact Cs.nil
    | exact Cs.take
    | exact Cs.expName
    | exact Cs.setv _
    | exact h _
    | refine Cs.cons ?_ ?_
    | exact Cs.accept _
    | exact Cs.expect _
    | exact Cs.add (srcT_leaf _)
    | refine Cs.onAcc _ ?_ ?_
    | refine Cs.wrap (by decide) ?_
    | refine Cs.node (by decide) ?_
    | refine Cs.cond ?_ ?_)
end

theorem run_cs : ∀ n nt, Cs (run n nt)
  | 0, _ => fun s s' h => by cases h
  | n + 1, nt => body_cs (run_cs n) nt
end Go.Proofs.YtcpojagfnpajeaaGreatDoorR.Ps
