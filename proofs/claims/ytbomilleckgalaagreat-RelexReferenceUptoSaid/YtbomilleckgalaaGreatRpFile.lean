/-
  A file is its items, one behind the other: the items whose next two significant tokens stay are the same items of another source (no program).
-/
import Derived.Test.YtbomilleckgalaaGreatRpCons
namespace Go.Proofs.YtbomilleckgalaaGreat.Ps
open Go.RowKit

theorem Lc.mono {a a2 : PA} (h : Lc false a a2) {s s' : S} (hs : a s = some s') : a2 s = some s' := by
  obtain ⟨u, h1, _, h3⟩ := h s s' hs
  obtain ⟨b', r1, r2⟩ := h3 s'.rest [] [] s.val (by simp) (Or.inl rfl) (fun e => by cases e)
  rw [List.append_nil, List.append_nil, ← h1, r2 rfl] at r1
  exact r1

def itemF (r : NT → PA) (o : Option (Int × NT)) : PA := fun s => match o with | none => node 46 (r .skip) s | some x => node x.1 (seq [Ps.accept [112, 117, 98], Ps.take, r x.2]) s
theorem itemA_eq (r : NT → PA) : itemA r = fun s => itemF r (itemOf (keyword s)) s := rfl

theorem item_lc (n m : Nat) (h : n ≤ m) : Lc false (itemA (run n)) (itemA (run m)) := by
  rw [itemA_eq, itemA_eq]
  refine Lc.by (α := { o : Option (Int × NT) // ∀ x, o = some x → x.2 ≠ .file }) (fun s => ⟨itemOf (keyword s), fun x hx => (itemOf_kind hx).2⟩) ?_ (f := fun o => itemF (run n) o.1) (f2 := fun o => itemF (run m) o.1) ?_
  · intro ch w z z' b b' ha
    apply Subtype.ext
    simp only
    unfold keyword
    simp only
    rw [ha.pk (by omega), ha.pk (by omega)]
  · rintro ⟨o, ho⟩
    cases o with
    | none => exact Lc.node 46 (run_lc n m h .skip (by intro q; cases q))
    | some x => exact Lc.node x.1 (Lc.cons (Lc.accept _ _) (Lc.cons (Lc.take _) (Lc.cons (l := []) (l2 := []) (run_lc n m h x.2 (ho x rfl)) (Lc.nil _))))

theorem node_ch {k : Int} {a : PA} {s s' : S} (h : node k a s = some s') : ∃ c, s'.ch = s.ch ++ [inner k c] ∧ s.ch.length < LIM ∧ (∃ m, a { s with ch := [] } = some m ∧ m.rest = s'.rest) ∧
    ∀ ch, ch.length < LIM → node k a ⟨ch, s.rest, s.val⟩ = some ⟨ch ++ [inner k c], s'.rest, s'.val⟩ := by
  unfold node at h
  cases ha : a { s with ch := [] } with
  | none => simp [ha] at h
  | some m =>
    simp only [ha, Option.bind_some] at h
    split at h
    · rename_i hl
      cases h
      refine ⟨m.ch, rfl, hl, ⟨m, rfl, rfl⟩, fun ch hc => ?_⟩
      unfold node
      simp only
      have ha' : a ⟨[], s.rest, s.val⟩ = some m := ha
      rw [ha']
      simp only [Option.bind_some]
      rw [if_pos hc]
    · cases h

/-- An item adds one tree, whatever the children, and takes a significant token. -/
theorem item_one {n : Nat} {s s' : S} (h : itemA (run n) s = some s') : ∃ t : Tree, s'.ch = s.ch ++ [t] ∧ t.k < 100 ∧ s.ch.length < LIM ∧ (sigs s'.rest).length < (sigs s.rest).length ∧
    ∀ ch, ch.length < LIM → itemA (run n) ⟨ch, s.rest, s.val⟩ = some ⟨ch ++ [t], s'.rest, s'.val⟩ := by
  rw [itemA_eq] at h
  simp only at h
  cases ho : itemOf (keyword s) with
  | none =>
    rw [ho] at h
    change node 46 (run n .skip) s = some s' at h
    obtain ⟨c, h1, h2, ⟨m, h3, h4⟩, h5⟩ := node_ch h
    refine ⟨inner 46 c, h1, by show (46 : Int) < 100; decide, h2, ?_, fun ch hc => ?_⟩
    · cases n with
      | zero => cases h3
      | succ n =>
        obtain ⟨m1, p1, p2⟩ := seq_some (a := Ps.take) (l := [run n .skipLoop]) h3
        have e1 := take_less p1
        have e2 := Lc.le (e := false) (Lc.cons (l := []) (l2 := []) (run_lc n n (Nat.le_refl _) .skipLoop (by intro q; cases q)) (Lc.nil _)) p2
        rw [h4] at e2
        exact Nat.lt_of_le_of_lt e2 e1
    · rw [itemA_eq]
      have : itemOf (keyword ⟨ch, s.rest, s.val⟩) = none := ho
      simp only [this]
      exact h5 ch hc
  | some x =>
    rw [ho] at h
    change node x.1 (seq [Ps.accept [112, 117, 98], Ps.take, run n x.2]) s = some s' at h
    obtain ⟨c, h1, h2, ⟨m, h3, h4⟩, h5⟩ := node_ch h
    have hx := itemOf_kind ho
    refine ⟨inner x.1 c, h1, hx.1, h2, ?_, fun ch hc => ?_⟩
    · obtain ⟨m1, p1, p2⟩ := seq_some h3
      obtain ⟨m2, p3, p4⟩ := seq_some p2
      have e0 := Lc.le (Lc.accept false _) p1
      have e1 := take_less p3
      have e2 := Lc.le (e := false) (Lc.cons (l := []) (l2 := []) (run_lc n n (Nat.le_refl _) x.2 hx.2) (Lc.nil _)) p4
      rw [h4] at e2
      exact Nat.lt_of_le_of_lt e2 (Nat.lt_of_lt_of_le e1 e0)
    · rw [itemA_eq]
      have : itemOf (keyword ⟨ch, s.rest, s.val⟩) = some x := ho
      simp only [this]
      exact h5 ch hc

/-- The tokens of items. -/
def flat (xs : List (Tree × List Tk)) : List Tk := xs.flatMap (·.2)
theorem flat_append (a b : List (Tree × List Tk)) : flat (a ++ b) = flat a ++ flat b := List.flatMap_append ..

/-- Items one behind the other, with tokens behind them; the flag ahead and behind. -/
def Chain (N : Nat) : List (Tree × List Tk) → List Tk → Bool → Bool → Prop
  | [], _, b, b' => b' = b
  | x :: xs, ρ, b, b' => 1 ≤ (sigs x.2).length ∧ En x.2 ∧ x.1.k < 100 ∧ ∃ c, itemA (run N) ⟨[], x.2 ++ (flat xs ++ ρ), b⟩ = some ⟨[x.1], flat xs ++ ρ, c⟩ ∧ Chain N xs ρ c b'

theorem chain_move {N M : Nat} (hN : N ≤ M) {w z z' : List Tk} (ha : Ah w z z') : ∀ {xs : List (Tree × List Tk)} {b b' : Bool}, Chain N xs (w ++ z) b b' → ∀ c, ∃ c', Chain M xs (w ++ z') c c' ∧ (c = b → c' = b')
  | [], b, b', h, c => ⟨c, rfl, fun e => by rw [e]; exact h.symm⟩
  | x :: xs, b, b', ⟨h1, h2, h3, d, h4, h5⟩, c => by
    obtain ⟨u, p1, _, p3⟩ := item_lc N M hN _ _ h4
    simp only at p1
    have hu : u = x.2 := (List.append_cancel_right p1).symm
    subst hu
    obtain ⟨d', r1, r2⟩ := p3 (flat xs ++ w) z z' c (by simp only [List.append_assoc]) (ha.more _) (fun e => by cases e)
    obtain ⟨c', t1, t2⟩ := chain_move hN ha h5 d'
    refine ⟨c', ⟨h1, h2, h3, d', ?_, t1⟩, fun e => t2 (r2 e)⟩
    simp only [List.append_assoc] at r1
    exact r1
theorem chain_up {N M : Nat} (hN : N ≤ M) {xs : List (Tree × List Tk)} {ρ : List Tk} {b b' : Bool} (h : Chain N xs ρ b b') : Chain M xs ρ b b' := by
  obtain ⟨c', h1, h2⟩ := chain_move (w := []) (z := ρ) (z' := ρ) hN (Or.inl rfl) h b
  rw [h2 rfl] at h1
  exact h1
theorem chain_take {N : Nat} {ρ : List Tk} : ∀ {xs ys : List (Tree × List Tk)} {b b' : Bool}, Chain N (xs ++ ys) ρ b b' → ∃ c, Chain N xs (flat ys ++ ρ) b c
  | [], _, b, _, _ => ⟨b, rfl⟩
  | x :: xs, ys, b, b', ⟨h1, h2, h3, d, h4, h5⟩ => by
    obtain ⟨c, hc⟩ := chain_take h5
    refine ⟨c, h1, h2, h3, d, ?_, hc⟩
    have e : flat (xs.append ys) = flat xs ++ flat ys := flat_append xs ys
    rw [e, List.append_assoc] at h4
    exact h4
theorem chain_len {N : Nat} {ρ : List Tk} : ∀ {xs : List (Tree × List Tk)} {b b' : Bool}, Chain N xs ρ b b' → xs.length ≤ (flat xs).length
  | [], _, _, _ => Nat.zero_le _
  | x :: xs, b, b', ⟨h1, _, _, _, _, h5⟩ => by
    have := chain_len h5
    have h2 : 1 ≤ x.2.length := Nat.le_trans h1 (List.length_filter_le _ _)
    show xs.length + 1 ≤ (x.2 ++ flat xs).length
    rw [List.length_append]
    omega

theorem sigs_fin {l : List Tk} (h : 1 ≤ (sigs l).length) (ρ : List Tk) : (sigs (l ++ ρ)).isEmpty = false := by
  rw [sigs_append]
  cases hs : sigs l with
  | nil => rw [hs] at h; simp at h
  | cons a r => rfl

theorem file_of_chain {N m : Nat} (hN : N ≤ m) {ρ : List Tk} {b' : Bool} {z : S} : ∀ {xs : List (Tree × List Tk)} {ch : List Tree} {b : Bool}, Chain N xs ρ b b' → ch.length + xs.length ≤ LIM →
    run m .file ⟨ch ++ xs.map Prod.fst, ρ, b'⟩ = some z → run (m + xs.length) .file ⟨ch, flat xs ++ ρ, b⟩ = some z
  | [], ch, b, h, _, hz => by
    have : b' = b := h
    rw [this, List.map_nil, List.append_nil] at hz
    exact hz
  | x :: xs, ch, b, ⟨h1, h2, h3, d, h4, h5⟩, hl, hz => by
    simp only [List.length_cons] at hl
    have ih := file_of_chain hN (ch := ch ++ [x.1]) h5 (by rw [List.length_append]; simp; omega) (by rw [List.map_cons] at hz; rw [List.append_assoc]; exact hz)
    have h4' := Lc.mono (item_lc N (m + xs.length) (by omega)) h4
    obtain ⟨t, e1, _, _, _, e5⟩ := item_one h4'
    have et : t = x.1 := by simpa using e1.symm
    have h6 := e5 ch (by omega)
    rw [et] at h6
    show run ((m + xs.length) + 1) .file ⟨ch, (x.2 ++ flat xs) ++ ρ, b⟩ = some z
    show cond atEnd takeAll (seq [itemA (run (m + xs.length)), run (m + xs.length) .file]) ⟨ch, (x.2 ++ flat xs) ++ ρ, b⟩ = some z
    rw [List.append_assoc]
    unfold cond
    have hE : atEnd ⟨ch, x.2 ++ (flat xs ++ ρ), b⟩ = false := sigs_fin h1 _
    rw [hE]
    simp only [Bool.false_eq_true, if_false]
    simp only at h6
    simp only [seq, h6, Option.bind_some]
    rw [ih]
    rfl

theorem file_end {m : Nat} {ch : List Tree} {tl : List Tk} {b : Bool} (h : sigs tl = []) (hl : ch.length + tl.length < LIM) : run (m + 1) .file ⟨ch, tl, b⟩ = some ⟨ch ++ tl.map tokTree, [], b⟩ := by
  show cond atEnd takeAll _ ⟨ch, tl, b⟩ = _
  unfold cond
  have hE : atEnd ⟨ch, tl, b⟩ = true := by unfold atEnd; rw [h]; rfl
  rw [hE]
  simp only [if_true]
  unfold takeAll
  rw [if_pos hl]

theorem file_chain : ∀ (n : Nat) (s z : S), run n .file s = some z → ∃ xs tl b', s.rest = flat xs ++ tl ∧ sigs tl = [] ∧ z = ⟨s.ch ++ xs.map Prod.fst ++ tl.map tokTree, [], b'⟩ ∧ Chain n xs tl s.val b'
  | 0, s, z, h => by cases h
  | n + 1, s, z, h => by
    change cond atEnd takeAll (seq [itemA (run n), run n .file]) s = some z at h
    unfold cond at h
    cases hE : atEnd s with
    | true =>
      rw [hE, if_pos rfl] at h
      refine ⟨[], s.rest, s.val, by simp [flat], by unfold atEnd at hE; simpa using hE, ?_, rfl⟩
      unfold takeAll at h
      split at h
      · cases h; simp
      · cases h
    | false =>
      rw [hE] at h
      simp only [Bool.false_eq_true, if_false] at h
      obtain ⟨m, h1, h2⟩ := seq_some h
      obtain ⟨m2, h3, h4⟩ := seq_some h2
      have := seq_nil h4
      subst this
      obtain ⟨xs, tl, b', r1, r2, r3, r4⟩ := file_chain n m z h3
      obtain ⟨u, p1, p2, _⟩ := item_lc n n (Nat.le_refl _) _ _ h1
      obtain ⟨t, e1, e2, e3, e4, e5⟩ := item_one h1
      refine ⟨(t, u) :: xs, tl, b', ?_, r2, ?_, ?_, p2, e2, m.val, ?_, chain_up (Nat.le_succ n) r4⟩
      · rw [p1, r1]; show u ++ (flat xs ++ tl) = (u ++ flat xs) ++ tl; rw [List.append_assoc]
      · rw [r3, e1]; simp
      · rw [p1, sigs_append, List.length_append] at e4
        show 1 ≤ (sigs u).length
        omega
      · have h5 := e5 [] (by unfold LIM; simp)
        rw [p1, r1] at h5
        exact Lc.mono (item_lc n (n + 1) (Nat.le_succ n)) h5

theorem file_mono : ∀ (n m : Nat) (s z : S), n ≤ m → run n .file s = some z → run m .file s = some z
  | 0, _, _, _, _, h => by cases h
  | n + 1, 0, _, _, hm, _ => absurd hm (by omega)
  | n + 1, m + 1, s, z, hm, h => by
    change cond atEnd takeAll (seq [itemA (run n), run n .file]) s = some z at h
    show cond atEnd takeAll (seq [itemA (run m), run m .file]) s = some z
    unfold cond at h ⊢
    cases hE : atEnd s with
    | true => rw [hE] at h; exact h
    | false =>
      rw [hE] at h
      simp only [Bool.false_eq_true, if_false] at h ⊢
      obtain ⟨m1, h1, h2⟩ := seq_some h
      obtain ⟨m2, h3, h4⟩ := seq_some h2
      have := seq_nil h4
      subst this
      simp [seq, Lc.mono (item_lc n m (by omega)) h1, file_mono n m m1 z (by omega) h3]
end Go.Proofs.YtbomilleckgalaaGreat.Ps
