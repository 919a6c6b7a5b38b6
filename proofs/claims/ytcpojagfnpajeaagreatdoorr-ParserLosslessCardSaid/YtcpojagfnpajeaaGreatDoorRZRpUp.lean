/-
  A file is its items, one behind the other: the items whose next two significant tokens stay are the same items of another source (no program).
  The tokens ahead of an edit stay, without any program: what chapter 6 rests on.
  What is parsed again behind the items that an edit cannot change: the new children are the old items and those of the rest (no program).
-/
import Derived.Test.YtcpojagfnpajeaaGreatDoorRZRpCore
import Derived.Test.YtcpojagfnpajeaaGreatDoorRZLxLow
namespace Go.Proofs.YtcpojagfnpajeaaGreatDoorR.Ps
open Go.RowKit

theorem Lc.mono {a a2 : PA} (h : Lc false a a2) {s s' : S} (hs : a s = some s') : a2 s = some s' := by
  obtain ⟨u, h1, _, h3⟩ := h s s' hs
  obtain ⟨b', r1, r2⟩ := h3 s'.rest [] [] s.val (by simp) (Or.inl rfl) (fun e => by cases e)
  rw [List.append_nil, List.append_nil, ← h1, r2 rfl] at r1
  exact r1

def itemF (r : NT → PA) (o : Option (Int × NT)) : PA := fun s => match o with | none => node 46 (r .skip) s | some x => node x.1 (seq [Ps.accept [112, 117, 98], Ps.take, r x.2]) s
theorem itemA_eq (r : NT → PA) : itemA r = fun s => itemF r (itemOf (keyword s)) s := rfl

theorem item_lc (n m : Nat) (h : n ≤ m) : Lc false (itemA (run n)) (itemA (run m)) := by
  rw [itemA_eq, itemA_eq]
  refine Lc.by (α := { o : Option (Int × NT) // ∀ x, o = some x → x.2 ≠ .file }) (fun s => ⟨itemOf (keyword s), fun x hx => (itemOf_kind hx).2⟩) ?_ (f := fun o => itemF (run n) o.1) (f2 := fun o => itemF (run m) o.1) ?_
  · intro ch w z z' b b' ha
    apply Subtype.ext
    simp only
    unfold keyword
    simp only
    rw [ha.pk (by omega), ha.pk (by omega)]
  · rintro ⟨o, ho⟩
    cases o with
    | none => exact Lc.node 46 (run_lc n m h .skip (by intro q; cases q))
    | some x => exact Lc.node x.1 (Lc.cons (Lc.accept _ _) (Lc.cons (Lc.take _) (Lc.cons (l := []) (l2 := []) (run_lc n m h x.2 (ho x rfl)) (Lc.nil _))))

theorem node_ch {k : Int} {a : PA} {s s' : S} (h : node k a s = some s') : ∃ c, s'.ch = s.ch ++ [inner k c] ∧ s.ch.length < LIM ∧ (∃ m, a { s with ch := [] } = some m ∧ m.rest = s'.rest) ∧
    ∀ ch, ch.length < LIM → node k a ⟨ch, s.rest, s.val⟩ = some ⟨ch ++ [inner k c], s'.rest, s'.val⟩ := by
  unfold node at h
  cases ha : a { s with ch := [] } with
  | none => simp [ha] at h
  | some m =>
    simp only [ha, Option.bind_some] at h
    split at h
    · rename_i hl
      cases h
      refine ⟨m.ch, rfl, hl, ⟨m, rfl, rfl⟩, fun ch hc => ?_⟩
      unfold node
      simp only
      have ha' : a ⟨[], s.rest, s.val⟩ = some m := ha
      rw [ha']
      simp only [Option.bind_some]
      rw [if_pos hc]
    · cases h

/-- An item adds one tree, whatever the children, and takes a significant token. -/
theorem item_one {n : Nat} {s s' : S} (h : itemA (run n) s = some s') : ∃ t : Tree, s'.ch = s.ch ++ [t] ∧ t.k < 100 ∧ s.ch.length < LIM ∧ (sigs s'.rest).length < (sigs s.rest).length ∧
    ∀ ch, ch.length < LIM → itemA (run n) ⟨ch, s.rest, s.val⟩ = some ⟨ch ++ [t], s'.rest, s'.val⟩ := by
  rw [itemA_eq] at h
  simp only at h
  cases ho : itemOf (keyword s) with
  | none =>
    rw [ho] at h
    change node 46 (run n .skip) s = some s' at h
    obtain ⟨c, h1, h2, ⟨m, h3, h4⟩, h5⟩ := node_ch h
    refine ⟨inner 46 c, h1, by show (46 : Int) < 100; decide, h2, ?_, fun ch hc => ?_⟩
    · cases n with
      | zero => cases h3
      | succ n =>
        obtain ⟨m1, p1, p2⟩ := seq_some (a := Ps.take) (l := [run n .skipLoop]) h3
        have e1 := take_less p1
        have e2 := Lc.le (e := false) (Lc.cons (l := []) (l2 := []) (run_lc n n (Nat.le_refl _) .skipLoop (by intro q; cases q)) (Lc.nil _)) p2
        rw [h4] at e2
        exact Nat.lt_of_le_of_lt e2 e1
    · rw [itemA_eq]
      have : itemOf (keyword ⟨ch, s.rest, s.val⟩) = none := ho
      simp only [this]
      exact h5 ch hc
  | some x =>
    rw [ho] at h
    change node x.1 (seq [Ps.accept [112, 117, 98], Ps.take, run n x.2]) s = some s' at h
    obtain ⟨c, h1, h2, ⟨m, h3, h4⟩, h5⟩ := node_ch h
    have hx := itemOf_kind ho
    refine ⟨inner x.1 c, h1, hx.1, h2, ?_, fun ch hc => ?_⟩
    · obtain ⟨m1, p1, p2⟩ := seq_some h3
      obtain ⟨m2, p3, p4⟩ := seq_some p2
      have e0 := Lc.le (Lc.accept false _) p1
      have e1 := take_less p3
      have e2 := Lc.le (e := false) (Lc.cons (l := []) (l2 := []) (run_lc n n (Nat.le_refl _) x.2 hx.2) (Lc.nil _)) p4
      rw [h4] at e2
      exact Nat.lt_of_le_of_lt e2 (Nat.lt_of_lt_of_le e1 e0)
    · rw [itemA_eq]
      have : itemOf (keyword ⟨ch, s.rest, s.val⟩) = some x := ho
      simp only [this]
      exact h5 ch hc

/-- The tokens of items. -/
def flat (xs : List (Tree × List Tk)) : List Tk := xs.flatMap (·.2)
theorem flat_append (a b : List (Tree × List Tk)) : flat (a ++ b) = flat a ++ flat b := List.flatMap_append ..

/-- Items one behind the other, with tokens behind them; the flag ahead and behind. -/
def Chain (N : Nat) : List (Tree × List Tk) → List Tk → Bool → Bool → Prop
  | [], _, b, b' => b' = b
  | x :: xs, ρ, b, b' => 1 ≤ (sigs x.2).length ∧ En x.2 ∧ x.1.k < 100 ∧ ∃ c, itemA (run N) ⟨[], x.2 ++ (flat xs ++ ρ), b⟩ = some ⟨[x.1], flat xs ++ ρ, c⟩ ∧ Chain N xs ρ c b'

theorem chain_move {N M : Nat} (hN : N ≤ M) {w z z' : List Tk} (ha : Ah w z z') : ∀ {xs : List (Tree × List Tk)} {b b' : Bool}, Chain N xs (w ++ z) b b' → ∀ c, ∃ c', Chain M xs (w ++ z') c c' ∧ (c = b → c' = b')
  | [], b, b', h, c => ⟨c, rfl, fun e => by rw [e]; exact h.symm⟩
  | x :: xs, b, b', ⟨h1, h2, h3, d, h4, h5⟩, c => by
    obtain ⟨u, p1, _, p3⟩ := item_lc N M hN _ _ h4
    simp only at p1
    have hu : u = x.2 := (List.append_cancel_right p1).symm
    subst hu
    obtain ⟨d', r1, r2⟩ := p3 (flat xs ++ w) z z' c (by simp only [List.append_assoc]) (ha.more _) (fun e => by cases e)
    obtain ⟨c', t1, t2⟩ := chain_move hN ha h5 d'
    refine ⟨c', ⟨h1, h2, h3, d', ?_, t1⟩, fun e => t2 (r2 e)⟩
    simp only [List.append_assoc] at r1
    exact r1
theorem chain_up {N M : Nat} (hN : N ≤ M) {xs : List (Tree × List Tk)} {ρ : List Tk} {b b' : Bool} (h : Chain N xs ρ b b') : Chain M xs ρ b b' := by
  obtain ⟨c', h1, h2⟩ := chain_move (w := []) (z := ρ) (z' := ρ) hN (Or.inl rfl) h b
  rw [h2 rfl] at h1
  exact h1
theorem chain_take {N : Nat} {ρ : List Tk} : ∀ {xs ys : List (Tree × List Tk)} {b b' : Bool}, Chain N (xs ++ ys) ρ b b' → ∃ c, Chain N xs (flat ys ++ ρ) b c
  | [], _, b, _, _ => ⟨b, rfl⟩
  | x :: xs, ys, b, b', ⟨h1, h2, h3, d, h4, h5⟩ => by
    obtain ⟨c, hc⟩ := chain_take h5
    refine ⟨c, h1, h2, h3, d, ?_, hc⟩
    have e : flat (xs.append ys) = flat xs ++ flat ys := flat_append xs ys
    rw [e, List.append_assoc] at h4
    exact h4
theorem chain_len {N : Nat} {ρ : List Tk} : ∀ {xs : List (Tree × List Tk)} {b b' : Bool}, Chain N xs ρ b b' → xs.length ≤ (flat xs).length
  | [], _, _, _ => Nat.zero_le _
  | x :: xs, b, b', ⟨h1, _, _, _, _, h5⟩ => by
    have := chain_len h5
    have h2 : 1 ≤ x.2.length := Nat.le_trans h1 (List.length_filter_le _ _)
    show xs.length + 1 ≤ (x.2 ++ flat xs).length
    rw [List.length_append]
    omega

theorem sigs_fin {l : List Tk} (h : 1 ≤ (sigs l).length) (ρ : List Tk) : (sigs (l ++ ρ)).isEmpty = false := by
  rw [sigs_append]
  cases hs : sigs l with
  | nil => rw [hs] at h; simp at h
  | cons a r => rfl

theorem file_of_chain {N m : Nat} (hN : N ≤ m) {ρ : List Tk} {b' : Bool} {z : S} : ∀ {xs : List (Tree × List Tk)} {ch : List Tree} {b : Bool}, Chain N xs ρ b b' → ch.length + xs.length ≤ LIM →
    run m .file ⟨ch ++ xs.map Prod.fst, ρ, b'⟩ = some z → run (m + xs.length) .file ⟨ch, flat xs ++ ρ, b⟩ = some z
  | [], ch, b, h, _, hz => by
    have : b' = b := h
    rw [this, List.map_nil, List.append_nil] at hz
    exact hz
  | x :: xs, ch, b, ⟨h1, h2, h3, d, h4, h5⟩, hl, hz => by
    simp only [List.length_cons] at hl
    have ih := file_of_chain hN (ch := ch ++ [x.1]) h5 (by rw [List.length_append]; simp; omega) (by rw [List.map_cons] at hz; rw [List.append_assoc]; exact hz)
    have h4' := Lc.mono (item_lc N (m + xs.length) (by omega)) h4
    obtain ⟨t, e1, _, _, _, e5⟩ := item_one h4'
    have et : t = x.1 := by simpa using e1.symm
    have h6 := e5 ch (by omega)
    rw [et] at h6
    show run ((m + xs.length) + 1) .file ⟨ch, (x.2 ++ flat xs) ++ ρ, b⟩ = some z
    show cond atEnd takeAll (seq [itemA (run (m + xs.length)), run (m + xs.length) .file]) ⟨ch, (x.2 ++ flat xs) ++ ρ, b⟩ = some z
    rw [List.append_assoc]
    unfold cond
    have hE : atEnd ⟨ch, x.2 ++ (flat xs ++ ρ), b⟩ = false := sigs_fin h1 _
    rw [hE]
    simp only [Bool.false_eq_true, if_false]
    simp only at h6
    simp only [seq, h6, Option.bind_some]
    rw [ih]
    rfl

theorem file_end {m : Nat} {ch : List Tree} {tl : List Tk} {b : Bool} (h : sigs tl = []) (hl : ch.length + tl.length < LIM) : run (m + 1) .file ⟨ch, tl, b⟩ = some ⟨ch ++ tl.map tokTree, [], b⟩ := by
  show cond atEnd takeAll _ ⟨ch, tl, b⟩ = _
  unfold cond
  have hE : atEnd ⟨ch, tl, b⟩ = true := by unfold atEnd; rw [h]; rfl
  rw [hE]
  simp only [if_true]
  unfold takeAll
  rw [if_pos hl]

theorem file_chain : ∀ (n : Nat) (s z : S), run n .file s = some z → ∃ xs tl b', s.rest = flat xs ++ tl ∧ sigs tl = [] ∧ z = ⟨s.ch ++ xs.map Prod.fst ++ tl.map tokTree, [], b'⟩ ∧ Chain n xs tl s.val b'
  | 0, s, z, h => by cases h
  | n + 1, s, z, h => by
    change cond atEnd takeAll (seq [itemA (run n), run n .file]) s = some z at h
    unfold cond at h
    cases hE : atEnd s with
    | true =>
      rw [hE, if_pos rfl] at h
      refine ⟨[], s.rest, s.val, by simp [flat], by unfold atEnd at hE; simpa using hE, ?_, rfl⟩
      unfold takeAll at h
      split at h
      · cases h; simp
      · cases h
    | false =>
      rw [hE] at h
      simp only [Bool.false_eq_true, if_false] at h
      obtain ⟨m, h1, h2⟩ := seq_some h
      obtain ⟨m2, h3, h4⟩ := seq_some h2
      have := seq_nil h4
      subst this
      obtain ⟨xs, tl, b', r1, r2, r3, r4⟩ := file_chain n m z h3
      obtain ⟨u, p1, p2, _⟩ := item_lc n n (Nat.le_refl _) _ _ h1
      obtain ⟨t, e1, e2, e3, e4, e5⟩ := item_one h1
      refine ⟨(t, u) :: xs, tl, b', ?_, r2, ?_, ?_, p2, e2, m.val, ?_, chain_up (Nat.le_succ n) r4⟩
      · rw [p1, r1]; show u ++ (flat xs ++ tl) = (u ++ flat xs) ++ tl; rw [List.append_assoc]
      · rw [r3, e1]; simp
      · rw [p1, sigs_append, List.length_append] at e4
        show 1 ≤ (sigs u).length
        omega
      · have h5 := e5 [] (by unfold LIM; simp)
        rw [p1, r1] at h5
        exact Lc.mono (item_lc n (n + 1) (Nat.le_succ n)) h5

theorem file_mono : ∀ (n m : Nat) (s z : S), n ≤ m → run n .file s = some z → run m .file s = some z
  | 0, _, _, _, _, h => by cases h
  | n + 1, 0, _, _, hm, _ => absurd hm (by omega)
  | n + 1, m + 1, s, z, hm, h => by
    change cond atEnd takeAll (seq [itemA (run n), run n .file]) s = some z at h
    show cond atEnd takeAll (seq [itemA (run m), run m .file]) s = some z
    unfold cond at h ⊢
    cases hE : atEnd s with
    | true => rw [hE] at h; exact h
    | false =>
      rw [hE] at h
      simp only [Bool.false_eq_true, if_false] at h ⊢
      obtain ⟨m1, h1, h2⟩ := seq_some h
      obtain ⟨m2, h3, h4⟩ := seq_some h2
      have := seq_nil h4
      subst this
      simp [seq, Lc.mono (item_lc n m (by omega)) h1, file_mono n m m1 z (by omega) h3]
end Go.Proofs.YtcpojagfnpajeaaGreatDoorR.Ps

namespace Go.Proofs.YtcpojagfnpajeaaGreatDoorR.Lx

theorem run_same {p : Int → Bool} {a b : List UInt8} (b' : List UInt8) (h : run p (a ++ b) < a.length) : run p a < a.length ∧ run p (a ++ b') = run p (a ++ b) := by
  have hle := run_le p a
  by_cases hl : run p a < a.length
  · exact ⟨hl, by rw [run_before b' a hl, run_before b a hl]⟩
  · have := run_all b a (run_full (p := p) a (by omega))
    omega

theorem lit_same (b b' : List UInt8) : ∀ (a : List UInt8) (k : Nat) (q : Bool), lit (a ++ b) k q ≠ 0 → lit (a ++ b) k q ≤ a.length + k → lit (a ++ b') k q = lit (a ++ b) k q := by
  intro a
  induction a with
  | nil =>
    intro k q h1 h2
    have := lit_gt b k q
    simp at h1 h2
    omega
  | cons c r ih =>
    intro k q h1 h2
    rw [List.cons_append, lit] at h1 h2 ⊢
    rw [List.cons_append, lit]
    split
    · rfl
    · rename_i hc
      rw [if_neg hc] at h1 h2
      split
      · rfl
      · rename_i hq
        rw [if_neg hq] at h1 h2
        exact ih _ _ h1 (by simp at h2; omega)

theorem lit_line (b b' : List UInt8) : ∀ (a : List UInt8) (k : Nat) (q : Bool), run nnI a < a.length → lit (a ++ b') k q = lit (a ++ b) k q := by
  intro a
  induction a with
  | nil => intro k q h; simp at h
  | cons c r ih =>
    intro k q h
    rw [List.cons_append, lit, List.cons_append, lit]
    split
    · rfl
    · rename_i hc
      split
      · rfl
      · refine ih _ _ ?_
        have hn : nnI c.toNat = true := by
          simp only [nnI, Bool.not_eq_true', decide_eq_false_iff_not]
          intro e
          exact hc (UInt8.toNat_inj.1 (by show c.toNat = 10; omega))
        rw [run_cons hn, List.length_cons] at h
        omega

theorem tok0_same {a b : List UInt8} (b' : List UInt8) (h : tokN (a ++ b) < a.length) : tok0 (a ++ b') = tok0 (a ++ b) := by
  match a, h with
  | [], h => simp at h
  | [c], h =>
    have := (tokN_bound (l := [c] ++ b) (by simp)).1
    simp at h
    simp at this
    omega
  | c :: d :: r, h =>
    unfold tokN at h
    have e2 : ∀ x : List UInt8, ((c :: d :: r) ++ x).take 2 = [c, d] := fun x => by simp
    have e3 : ∀ x : List UInt8, (c :: d :: r) ++ x = c :: (d :: r ++ x) := fun x => rfl
    have t0 : ∀ x : List UInt8, tok0 ((c :: d :: r) ++ x) = (
      if spI c.toNat then (101, run spI ((c :: d :: r) ++ x))
      else if [c, d] = [47, 47] then (102, run nnI ((c :: d :: r) ++ x))
      else if dgI c.toNat then (105, run dgI ((c :: d :: r) ++ x))
      else if wdI c.toNat then (103, run wdI ((c :: d :: r) ++ x))
      else if c = 34 then (if lit (d :: r ++ x) 1 false = 0 then (108, run nnI ((c :: d :: r) ++ x)) else (106, lit (d :: r ++ x) 1 false))
      else if pairs.contains [c, d] then (107, 2)
      else if singles.contains c then (107, 1)
      else (108, 1)) := fun x => by
      rw [← e2 x]
      rw [e3 x, tok0]
    rw [t0] at h ⊢
    rw [t0]
    split
    · rename_i g; rw [if_pos g] at h; rw [(run_same b' h).2]
    · rename_i g; rw [if_neg g] at h
      split
      · rename_i g; rw [if_pos g] at h; rw [(run_same b' h).2]
      · rename_i g; rw [if_neg g] at h
        split
        · rename_i g; rw [if_pos g] at h; rw [(run_same b' h).2]
        · rename_i g; rw [if_neg g] at h
          split
          · rename_i g; rw [if_pos g] at h; rw [(run_same b' h).2]
          · rename_i g; rw [if_neg g] at h
            split
            · rename_i g
              rw [if_pos g] at h
              by_cases hz : lit (d :: r ++ b) 1 false = 0
              · rw [if_pos hz] at h
                obtain ⟨h1, h2⟩ := run_same b' h
                have hl : run nnI (d :: r) < (d :: r).length := by
                  have hn : nnI c.toNat = true := by subst g; rfl
                  rw [run_cons hn] at h1
                  simp only [List.length_cons] at h1 ⊢
                  omega
                have := lit_line b b' (d :: r) 1 false hl
                rw [this, if_pos hz, if_pos hz, h2]
              · rw [if_neg hz] at h
                have := lit_same b b' (d :: r) 1 false hz (by simp only [List.length_cons] at h ⊢; omega)
                rw [this, if_neg hz, if_neg hz]
            · rfl

theorem tokN_same {a b : List UInt8} (b' : List UInt8) (h : tokN (a ++ b) < a.length) : tokN (a ++ b') = tokN (a ++ b) := by
  have := tok0_same b' h
  unfold tokN
  rw [this]

theorem take_same {a b : List UInt8} (b' : List UInt8) (h : tokN (a ++ b) < a.length) : (a ++ b').take (tokN (a ++ b')) = (a ++ b).take (tokN (a ++ b)) := by
  rw [tokN_same b' h, List.take_append_of_le_length (by omega), List.take_append_of_le_length (by omega)]

theorem tokK_same {a b : List UInt8} (b' : List UInt8) (h : tokN (a ++ b) < a.length) : tokK (a ++ b') = tokK (a ++ b) := by
  unfold tokK
  rw [take_same b' h, tok0_same b' h]

theorem glue_cons (x : Int × List UInt8) (t : List (Int × List UInt8)) : glue (x :: t) = x.2 ++ glue t := rfl
theorem glue_append (a b : List (Int × List UInt8)) : glue (a ++ b) = glue a ++ glue b := List.flatMap_append ..

/-- Tokens that end before the first change are tokens of both; behind them both go on by themselves. -/
theorem T_keep {b : List UInt8} (b' : List UInt8) (rest : List (Int × List UInt8)) : ∀ (pre : List (Int × List UInt8)) (a : List UInt8), T (a ++ b) = pre ++ rest → (pre = [] ∨ (glue pre).length < a.length) →
    T (a ++ b') = pre ++ T ((a ++ b').drop (glue pre).length) := by
  intro pre
  induction pre with
  | nil => intro a _ _; simp [glue]
  | cons x pre ih =>
    intro a hT hl
    have hl : (glue (x :: pre)).length < a.length := hl.resolve_left (by simp)
    rw [glue_cons, List.length_append] at hl
    have hne : a ++ b ≠ [] := by
      intro e
      rw [e, T_nil] at hT
      simp at hT
    rw [T_cons hne, List.cons_append] at hT
    obtain ⟨hx, hr⟩ := List.cons.inj hT
    have hn := tokN_bound hne
    have hx2 : x.2.length = tokN (a ++ b) := by rw [← hx]; simp only [List.length_take]; omega
    have hlt : tokN (a ++ b) < a.length := by omega
    have hne' : a ++ b' ≠ [] := by
      intro e
      have := congrArg List.length e
      simp at this
      simp [this.1] at hlt
    rw [T_cons hne', tokK_same b' hlt, take_same b' hlt, tokN_same b' hlt, hx, List.cons_append, glue_cons, List.length_append, hx2, ← List.drop_drop]
    congr 1
    rw [List.drop_append_of_le_length (by omega)] at hr ⊢
    refine ih (a.drop (tokN (a ++ b))) hr ?_
    right
    rw [List.length_drop]
    omega

theorem glue_split (l : List (Int × List UInt8)) (k : Nat) : (glue l).length = (glue (l.take k)).length + (glue (l.drop k)).length := by
  rw [← List.length_append, ← glue_append, List.take_append_drop]

theorem glue_pos {l : List (Int × List UInt8)} (hl : l ≠ []) (h : ∀ x ∈ l, x.2 ≠ []) : 1 ≤ (glue l).length := by
  cases l with
  | nil => exact absurd rfl hl
  | cons x r =>
    rw [glue_cons, List.length_append]
    have := List.length_pos_iff.2 (h x (by simp))
    omega

/-- Leading and trailing tokens that are no longer together than the whole don't overlap. -/
theorem apart {l : List (Int × List UInt8)} (h : ∀ x ∈ l, x.2 ≠ []) {p k : Nat} (hp : p ≤ l.length) (hk : k ≤ l.length)
    (hg : (glue (l.take p)).length + (glue (l.drop (l.length - k))).length ≤ (glue l).length) : p + k ≤ l.length := by
  rcases Nat.lt_or_ge l.length (p + k) with hlt | hge
  · have e1 := glue_split l (l.length - k)
    have e2 := glue_split (l.take p) (l.length - k)
    rw [List.take_take, Nat.min_eq_left (by omega)] at e2
    have h3 : 1 ≤ (glue ((l.take p).drop (l.length - k))).length := by
      refine glue_pos ?_ ?_
      · intro e
        have := congrArg List.length e
        rw [List.length_drop, List.length_take, List.length_nil] at this
        omega
      · intro x hx
        exact h x (List.mem_of_mem_take (List.mem_of_mem_drop hx))
    omega
  · exact hge

/-- The new list of tokens, put together of the leading ones, fresh ones and the trailing ones. -/
theorem T_update {l t : List UInt8} {s e p k : Nat} {old fresh : List (Int × List UInt8)} (ho : old = T l) (hs : s ≤ l.length)
    (hp : p = 0 ∨ (glue (old.take p)).length < s) (hf : fresh = T ((l.take s ++ (t ++ l.drop e)).drop (glue (old.take p)).length))
    (hk : old.drop (old.length - k) = fresh.drop (fresh.length - k)) :
    old.take p ++ (fresh.take (fresh.length - k) ++ old.drop (old.length - k)) = T (l.take s ++ (t ++ l.drop e)) ∧ (T (l.take s ++ (t ++ l.drop e))).length = (old.take p).length + fresh.length := by
  have h1 := T_keep (b := l.drop s) (t ++ l.drop e) (old.drop p) (old.take p) (l.take s) (by rw [List.take_append_drop, List.take_append_drop, ho]) (by
    rcases hp with rfl | hp
    · left; rw [List.take_zero]
    · right; rw [List.length_take]; omega)
  rw [← hf] at h1
  rw [hk, List.take_append_drop, h1]
  exact ⟨rfl, List.length_append⟩
end Go.Proofs.YtcpojagfnpajeaaGreatDoorR.Lx

namespace Go.Proofs.YtcpojagfnpajeaaGreatDoorR.Ps
open Go.RowKit

theorem tok_lowK (l : List UInt8) : 101 ≤ Lx.tokK l := by
  have h0 : ∀ l, 101 ≤ (Lx.tok0 l).1 ∧ (Lx.tok0 l).1 ≤ 108 := by
    intro l
    cases l with
    | nil => exact ⟨by decide, by decide⟩
    | cons c r =>
      unfold Lx.tok0
      (repeat' split) <;> (constructor <;> (dsimp only; omega))
  have := h0 l
  unfold Lx.tokK
  split <;> omega
theorem toks_lowK (n : Nat) : ∀ l : List UInt8, l.length ≤ n → ∀ t, t ∈ Lx.T l → 101 ≤ t.1 := by
  induction n with
  | zero => intro l h x hx; have : l = [] := List.eq_nil_of_length_eq_zero (by omega); subst this; simp [Lx.T_nil] at hx
  | succ n ih =>
    intro l h x hx
    by_cases hl : l = []
    · subst hl; simp [Lx.T_nil] at hx
    · rw [Lx.T_cons hl] at hx
      have hb := Lx.tokN_bound hl
      rcases List.mem_cons.1 hx with rfl | hx
      · exact tok_lowK l
      · exact ih _ (by rw [List.length_drop]; omega) x hx
theorem valid_T (l : List UInt8) : Valid (Lx.T l) := fun t ht => ⟨by have := toks_lowK _ _ (Nat.le_refl _) t ht; omega, List.length_pos_iff.2 (Lx.T_some _ _ (Nat.le_refl _) t ht)⟩
theorem wt_glueT (t : List Tk) : wt t = (Lx.glue t).length := by
  induction t with
  | nil => rfl
  | cons x r ih => simp [wt, Lx.glue] at ih ⊢; rw [ih]
theorem bytes_glue {t : List Tk} (h : Valid t) : bytes t = Lx.glue t := by
  induction t with
  | nil => rfl
  | cons x r ih =>
    have h1 := (h x (by simp)).1
    have : tokB x = x.2 := by unfold tokB; rw [if_neg (by omega)]
    show tokB x ++ bytes r = x.2 ++ Lx.glue r
    rw [this, ih (fun y hy => h y (by simp [hy]))]
theorem Valid.left {a b : List Tk} (h : Valid (a ++ b)) : Valid a := fun t ht => h t (by simp [ht])
theorem Valid.right {a b : List Tk} (h : Valid (a ++ b)) : Valid b := fun t ht => h t (by simp [ht])
theorem bytes_len {t : List Tk} (h : Valid t) : (bytes t).length = wt t := by rw [bytes_glue h, wt_glueT]
theorem wt_T (l : List UInt8) : wt (Lx.T l) = l.length := by rw [wt_glueT, Lx.glue_T _ _ (Nat.le_refl _)]

def FU : Nat := 90044
theorem parse_some {l : List UInt8} (h : l.length ≤ 2000) : ∃ z, run FU .file ⟨[], Lx.T l, false⟩ = some z ∧ wfs z.ch = true ∧ sizes z.ch ≤ 16 * l.length ∧ heights z.ch ≤ 2 * l.length + 2 := by
  have hw := wt_T l
  obtain ⟨z, h1, h2, h3, h4⟩ := file_ends (s := ⟨[], Lx.T l, false⟩) (n := FU) (valid_T l) (by show wt (Lx.T l) ≤ _; omega) (by show 44 + 45 * wt (Lx.T l) ≤ _; unfold FU; omega) rfl
  refine ⟨z, h1, h2, ?_, ?_⟩
  · have : sizes z.ch ≤ 16 * wt (Lx.T l) := h3
    omega
  · have : heights z.ch ≤ 2 * wt (Lx.T l) + 2 := h4
    omega
/-- The children of the file of a source. -/
def parseC (l : List UInt8) : List Tree := ((run FU .file ⟨[], Lx.T l, false⟩).map S.ch).getD []
theorem parseC_is {l : List UInt8} {z : S} (h : run FU .file ⟨[], Lx.T l, false⟩ = some z) : z.ch = parseC l := by unfold parseC; rw [h]; rfl
theorem parseC_src {l : List UInt8} (h : l.length ≤ 2000) : srcs (parseC l) = l := by
  obtain ⟨z, h1, _⟩ := parse_some h
  have h2 := run_cs FU .file _ z h1
  obtain ⟨xs, tl, b', _, _, r3, _⟩ := file_chain FU _ z h1
  have hz : z.rest = [] := by rw [r3]
  rw [hz] at h2
  simp only [srcs, List.nil_append] at h2
  rw [bytes_glue (valid_T l), Lx.glue_T _ _ (Nat.le_refl _)] at h2
  rw [← parseC_is h1]
  simpa [bytes] using h2
theorem parse_parts {l : List UInt8} (h : l.length ≤ 2000) : ∃ xs tl b, Lx.T l = flat xs ++ tl ∧ sigs tl = [] ∧ parseC l = xs.map Prod.fst ++ tl.map tokTree ∧ Chain FU xs tl false b := by
  obtain ⟨z, h1, _⟩ := parse_some h
  obtain ⟨xs, tl, b', r1, r2, r3, r4⟩ := file_chain FU _ z h1
  exact ⟨xs, tl, b', r1, r2, by rw [← parseC_is h1, r3]; simp, r4⟩

theorem parse_join {l' l'' : List UInt8} (h' : l'.length ≤ 2000) (h'' : l''.length ≤ 2000) {xs ys : List (Tree × List Tk)} {tl w z z' : List Tk} {b : Bool} (hc : Chain FU (xs ++ ys) tl false b) (hw : flat ys ++ tl = w ++ z) (ha : Ah w z z')
    (h1 : Lx.T l' = flat xs ++ (w ++ z')) (h2 : Lx.T l'' = w ++ z') : parseC l' = xs.map Prod.fst ++ parseC l'' := by
  obtain ⟨c, hc1⟩ := chain_take hc
  rw [hw] at hc1
  obtain ⟨c', hc2, _⟩ := chain_move (Nat.le_refl FU) ha hc1 false
  obtain ⟨vs, tl2, b2, e1, e2, e3, e4⟩ := parse_parts h''
  obtain ⟨c'', hc3, _⟩ := chain_move (w := []) (z := tl2) (z' := tl2) (Nat.le_refl FU) (Or.inl rfl) e4 c'
  have n1 := chain_len hc2
  have n2 := chain_len hc3
  have n3 := Lx.T_length _ l' (Nat.le_refl _)
  have n4 : (Lx.T l').length = (flat xs).length + ((flat vs).length + tl2.length) := by rw [h1, List.length_append, ← h2, e1, List.length_append]
  have hend := file_end (m := FU) (ch := xs.map Prod.fst ++ vs.map Prod.fst) (tl := tl2) (b := c'') e2 (by rw [List.length_append, List.length_map, List.length_map]; unfold LIM; omega)
  have hf1 := file_of_chain (m := FU + 1) (Nat.le_succ _) (ch := xs.map Prod.fst) hc3 (by rw [List.length_map]; unfold LIM; omega) hend
  have hwz : w ++ z' = flat vs ++ ([] ++ tl2) := by rw [← h2, e1]; rfl
  rw [← hwz] at hf1
  have hf2 := file_of_chain (m := FU + 1 + vs.length) (by omega) (ch := []) hc2 (by simp; unfold LIM; omega) hf1
  rw [← h1] at hf2
  obtain ⟨q, hq, _⟩ := parse_some h'
  have hq2 := file_mono FU (FU + 1 + vs.length + xs.length) _ q (by omega) hq
  rw [hf2] at hq2
  cases hq2
  rw [← parseC_is hq, e3]
  simp

theorem chain_src {N : Nat} {ρ : List Tk} : ∀ {xs : List (Tree × List Tk)} {b b' : Bool}, Chain N xs ρ b b' → ∀ x ∈ xs, srcT x.1 = bytes x.2 ∧ 1 ≤ (sigs x.2).length ∧ En x.2 ∧ x.1.k < 100
  | [], _, _, _ => fun x hx => by simp at hx
  | y :: xs, b, b', ⟨h1, h2, h3, c, h4, h5⟩ => by
    intro x hx
    rcases List.mem_cons.1 hx with rfl | hx
    · refine ⟨?_, h1, h2, h3⟩
      have h := itemA_cs (run_cs N) _ _ h4
      simp only [srcs, List.append_nil, List.nil_append, bytes_append] at h
      exact List.append_cancel_right h
    · exact chain_src h5 x hx

/-! ### what is ahead of an edit -/

/-- The tokens that end ahead of start; the first of them stands at e. -/
def ahead (start : Nat) : Nat → List Tk → List Tk
  | _, [] => []
  | e, t :: r => if start ≤ e + t.2.length then [] else t :: ahead start (e + t.2.length) r
/-- Where the significant tokens end. -/
def ends : Nat → List Tk → List Nat
  | _, [] => []
  | e, t :: r => if sigB t then (e + t.2.length) :: ends (e + t.2.length) r else ends (e + t.2.length) r
/-- How far the items cannot change. -/
def stable (toks : List Tk) (start : Nat) : Nat :=
  if (ends 0 (ahead start 0 toks)).length ≤ 2 then 0 else ((ends 0 (ahead start 0 toks))[(ends 0 (ahead start 0 toks)).length - 3]?).getD 0
/-- How many of the trees end within len bytes, and where the last of them ends. -/
def within (len : Nat) : List Tree → Nat → Nat × Nat
  | [], e => (0, e)
  | c :: cs, e => if len < e + (srcT c).length then (0, e) else ((within len cs (e + (srcT c).length)).1 + 1, (within len cs (e + (srcT c).length)).2)

theorem ahead_pre (start : Nat) : ∀ (toks : List Tk) (e : Nat), ∃ r, toks = ahead start e toks ++ r ∧ (ahead start e toks = [] ∨ e + wt (ahead start e toks) < start)
  | [], e => ⟨[], rfl, Or.inl rfl⟩
  | t :: q, e => by
    unfold ahead
    split
    · exact ⟨t :: q, rfl, Or.inl rfl⟩
    · obtain ⟨r, h1, h2⟩ := ahead_pre start q (e + t.2.length)
      refine ⟨r, by rw [List.cons_append, ← h1], Or.inr ?_⟩
      rcases h2 with h2 | h2
      · rw [h2]; simp [wt]; omega
      · simp only [wt]; omega
theorem ends_len : ∀ (ρ : List Tk) (e : Nat), (ends e ρ).length = (sigs ρ).length
  | [], _ => rfl
  | t :: r, e => by
    unfold ends sigs
    cases h : sigB t with
    | true => simp [h, ends_len r, sigs]
    | false => simp [h, ends_len r, sigs]
theorem ends_append : ∀ (a b : List Tk) (e : Nat), ends e (a ++ b) = ends e a ++ ends (e + wt a) b
  | [], b, e => by simp [ends, wt]
  | t :: r, b, e => by
    simp only [List.cons_append, ends, wt]
    rw [ends_append r b, Nat.add_assoc]
    split <;> simp
theorem ends_in : ∀ {ρ : List Tk} {e v : Nat}, Valid ρ → v ∈ ends e ρ → e < v ∧ v ≤ e + wt ρ
  | [], e, v, _, h => by simp [ends] at h
  | t :: r, e, v, hv, h => by
    have h1 := (hv t (by simp)).2
    have hr : Valid r := fun x hx => hv x (by simp [hx])
    unfold ends at h
    split at h
    · rcases List.mem_cons.1 h with rfl | h
      · simp only [wt]; omega
      · have := ends_in hr h
        simp only [wt]; omega
    · have := ends_in hr h
      simp only [wt]; omega
theorem ends_up {a b : List Tk} {e : Nat} (hv : Valid (a ++ b)) {i j v u : Nat} (hi : (ends e a)[i]? = some v) (hj : (ends (e + wt a) b)[j]? = some u) : v < u := by
  have h1 := ends_in hv.left (List.mem_of_getElem? hi)
  have h2 := ends_in hv.right (List.mem_of_getElem? hj)
  omega
theorem ends_mono : ∀ {ρ : List Tk} {e : Nat}, Valid ρ → ∀ {i j v u : Nat}, i < j → (ends e ρ)[i]? = some v → (ends e ρ)[j]? = some u → v < u
  | [], e, _, i, j, v, u, _, h, _ => by simp [ends] at h
  | t :: r, e, hv, i, j, v, u, hij, h1, h2 => by
    have hr : Valid r := fun x hx => hv x (by simp [hx])
    unfold ends at h1 h2
    split at h1
    · rename_i hs
      rw [if_pos hs] at h2
      cases j with
      | zero => omega
      | succ j =>
        rw [List.getElem?_cons_succ] at h2
        cases i with
        | zero =>
          simp at h1
          have := ends_in hr (List.mem_of_getElem? h2)
          omega
        | succ i =>
          rw [List.getElem?_cons_succ] at h1
          exact ends_mono hr (by omega) h1 h2
    · rename_i hs
      rw [if_neg hs] at h2
      exact ends_mono hr hij h1 h2

theorem pre_of_wt {a b c d : List Tk} (h : a ++ b = c ++ d) (hv : Valid a) (hw : wt a ≤ wt c) : ∃ w, c = a ++ w ∧ b = w ++ d := by
  rcases List.append_eq_append_iff.1 h with ⟨a', h1, h2⟩ | ⟨c', h1, h2⟩
  · exact ⟨a', h1, h2⟩
  · have : c' = [] := by
      cases c' with
      | nil => rfl
      | cons t r =>
        have h3 := (hv t (by rw [h1]; simp)).2
        rw [h1, wt_append] at hw
        simp only [wt] at hw
        omega
    subst this
    rw [List.append_nil] at h1
    exact ⟨[], by rw [h1, List.append_nil], by rw [h2]; rfl⟩

/-- Tokens that end within the stable length are followed by two significant ones ahead of start. -/
theorem stable_ahead {toks U V : List Tk} {start : Nat} (hv : Valid toks) (h : toks = U ++ V) (h1 : 1 ≤ wt U) (h2 : wt U ≤ stable toks start) :
    ∃ w z, V = w ++ z ∧ 2 ≤ (sigs w).length ∧ U ++ w = ahead start 0 toks := by
  obtain ⟨r, e1, _⟩ := ahead_pre start toks 0
  unfold stable at h2
  generalize ahead start 0 toks = A at *
  have hA : Valid A := by rw [e1] at hv; exact hv.left
  split at h2
  · omega
  · rename_i hm
    have hget : (ends 0 A)[(ends 0 A).length - 3]? = some (ends 0 A)[(ends 0 A).length - 3] := List.getElem?_eq_getElem (by omega)
    rw [hget] at h2
    simp only [Option.getD_some] at h2
    have hb := ends_in hA (List.mem_of_getElem? hget)
    obtain ⟨w, p1, p2⟩ := pre_of_wt (a := U) (b := V) (c := A) (d := r) (by rw [← h, ← e1]) (by rw [h] at hv; exact hv.left) (by omega)
    refine ⟨w, r, p2, ?_, p1.symm⟩
    rcases Nat.lt_or_ge (sigs w).length 2 with hlt | hge
    · exfalso
      have hl : (ends 0 A).length = (ends 0 U).length + (sigs w).length := by rw [p1, ends_append, List.length_append, ends_len w]
      have hi : (ends 0 A)[(ends 0 A).length - 2]? = (ends 0 U)[(ends 0 A).length - 2]? := by
        have : ends 0 A = ends 0 U ++ ends (0 + wt U) w := by rw [p1, ends_append]
        rw [this, List.getElem?_append_left (by rw [← this]; omega)]
      have hu : (ends 0 U)[(ends 0 A).length - 2]? = some (ends 0 U)[(ends 0 A).length - 2] := List.getElem?_eq_getElem (by omega)
      have hlt2 := ends_mono hA (show (ends 0 A).length - 3 < (ends 0 A).length - 2 by omega) hget (hi.trans hu)
      have hb2 := ends_in (by rw [h] at hv; exact hv.left) (List.mem_of_getElem? hu)
      omega
    · exact hge

theorem within_le (len : Nat) : ∀ (cs : List Tree) (e : Nat), (within len cs e).1 ≤ cs.length ∧ (within len cs e).2 = e + (srcs (cs.take (within len cs e).1)).length ∧ (e ≤ len → (within len cs e).2 ≤ len)
  | [], e => ⟨Nat.le_refl _, rfl, fun h => h⟩
  | c :: cs, e => by
    unfold within
    split
    · exact ⟨Nat.zero_le _, by simp [srcs], fun h => h⟩
    · obtain ⟨h1, h2, h3⟩ := within_le len cs (e + (srcT c).length)
      refine ⟨by simp only [List.length_cons]; omega, ?_, fun _ => h3 (by omega)⟩
      simp only [List.take_succ_cons, srcs, List.length_append]
      rw [h2]
      omega
theorem within_pre (len : Nat) : ∀ (cs : List Tree) (e k : Nat), k ≤ cs.length → e + (srcs (cs.take k)).length ≤ len → k ≤ (within len cs e).1
  | [], e, k, hk, _ => hk
  | c :: cs, e, 0, _, _ => Nat.zero_le _
  | c :: cs, e, k + 1, hk, h => by
    simp only [List.take_succ_cons, srcs, List.length_append] at h
    unfold within
    rw [if_neg (by omega)]
    have := within_pre len cs (e + (srcT c).length) k (by simpa using hk) (by omega)
    show k + 1 ≤ _ + 1
    omega
end Go.Proofs.YtcpojagfnpajeaaGreatDoorR.Ps
