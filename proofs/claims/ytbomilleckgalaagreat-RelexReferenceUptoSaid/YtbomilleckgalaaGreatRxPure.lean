/-
  The tokens ahead of an edit stay, without any program: what chapter 6 rests on.
-/
import Derived.Test.YtbomilleckgalaaGreatLxLex
namespace Go.Proofs.YtbomilleckgalaaGreat.Lx

theorem run_same {p : Int → Bool} {a b : List UInt8} (b' : List UInt8) (h : run p (a ++ b) < a.length) : run p a < a.length ∧ run p (a ++ b') = run p (a ++ b) := by
  have hle := run_le p a
  by_cases hl : run p a < a.length
  · exact ⟨hl, by rw [run_before b' a hl, run_before b a hl]⟩
  · have := run_all b a (run_full (p := p) a (by omega))
    omega

theorem lit_same (b b' : List UInt8) : ∀ (a : List UInt8) (k : Nat) (q : Bool), lit (a ++ b) k q ≠ 0 → lit (a ++ b) k q ≤ a.length + k → lit (a ++ b') k q = lit (a ++ b) k q := by
  intro a
  induction a with
  | nil =>
    intro k q h1 h2
    have := lit_gt b k q
    simp at h1 h2
    omega
  | cons c r ih =>
    intro k q h1 h2
    rw [List.cons_append, lit] at h1 h2 ⊢
    rw [List.cons_append, lit]
    split
    · rfl
    · rename_i hc
      rw [if_neg hc] at h1 h2
      split
      · rfl
      · rename_i hq
        rw [if_neg hq] at h1 h2
        exact ih _ _ h1 (by simp at h2; omega)

theorem lit_line (b b' : List UInt8) : ∀ (a : List UInt8) (k : Nat) (q : Bool), run nnI a < a.length → lit (a ++ b') k q = lit (a ++ b) k q := by
  intro a
  induction a with
  | nil => intro k q h; simp at h
  | cons c r ih =>
    intro k q h
    rw [List.cons_append, lit, List.cons_append, lit]
    split
    · rfl
    · rename_i hc
      split
      · rfl
      · refine ih _ _ ?_
        have hn : nnI c.toNat = true := by
          simp only [nnI, Bool.not_eq_true', decide_eq_false_iff_not]
          intro e
          exact hc (UInt8.toNat_inj.1 (by show c.toNat = 10; omega))
        rw [run_cons hn, List.length_cons] at h
        omega

theorem tok0_same {a b : List UInt8} (b' : List UInt8) (h : tokN (a ++ b) < a.length) : tok0 (a ++ b') = tok0 (a ++ b) := by
  match a, h with
  | [], h => simp at h
  | [c], h =>
    have := (tokN_bound (l := [c] ++ b) (by simp)).1
    simp at h
    simp at this
    omega
  | c :: d :: r, h =>
    unfold tokN at h
    have e2 : ∀ x : List UInt8, ((c :: d :: r) ++ x).take 2 = [c, d] := fun x => by simp
    have e3 : ∀ x : List UInt8, (c :: d :: r) ++ x = c :: (d :: r ++ x) := fun x => rfl
    have t0 : ∀ x : List UInt8, tok0 ((c :: d :: r) ++ x) = (
      if spI c.toNat then (101, run spI ((c :: d :: r) ++ x))
      else if [c, d] = [47, 47] then (102, run nnI ((c :: d :: r) ++ x))
      else if dgI c.toNat then (105, run dgI ((c :: d :: r) ++ x))
      else if wdI c.toNat then (103, run wdI ((c :: d :: r) ++ x))
      else if c = 34 then (if lit (d :: r ++ x) 1 false = 0 then (108, run nnI ((c :: d :: r) ++ x)) else (106, lit (d :: r ++ x) 1 false))
      else if pairs.contains [c, d] then (107, 2)
      else if singles.contains c then (107, 1)
      else (108, 1)) := fun x => by
      rw [← e2 x]
      rw [e3 x, tok0]
    rw [t0] at h ⊢
    rw [t0]
    split
    · rename_i g; rw [if_pos g] at h; rw [(run_same b' h).2]
    · rename_i g; rw [if_neg g] at h
      split
      · rename_i g; rw [if_pos g] at h; rw [(run_same b' h).2]
      · rename_i g; rw [if_neg g] at h
        split
        · rename_i g; rw [if_pos g] at h; rw [(run_same b' h).2]
        · rename_i g; rw [if_neg g] at h
          split
          · rename_i g; rw [if_pos g] at h; rw [(run_same b' h).2]
          · rename_i g; rw [if_neg g] at h
            split
            · rename_i g
              rw [if_pos g] at h
              by_cases hz : lit (d :: r ++ b) 1 false = 0
              · rw [if_pos hz] at h
                obtain ⟨h1, h2⟩ := run_same b' h
                have hl : run nnI (d :: r) < (d :: r).length := by
                  have hn : nnI c.toNat = true := by subst g; rfl
                  rw [run_cons hn] at h1
                  simp only [List.length_cons] at h1 ⊢
                  omega
                have := lit_line b b' (d :: r) 1 false hl
                rw [this, if_pos hz, if_pos hz, h2]
              · rw [if_neg hz] at h
                have := lit_same b b' (d :: r) 1 false hz (by simp only [List.length_cons] at h ⊢; omega)
                rw [this, if_neg hz, if_neg hz]
            · rfl

theorem tokN_same {a b : List UInt8} (b' : List UInt8) (h : tokN (a ++ b) < a.length) : tokN (a ++ b') = tokN (a ++ b) := by
  have := tok0_same b' h
  unfold tokN
  rw [this]

theorem take_same {a b : List UInt8} (b' : List UInt8) (h : tokN (a ++ b) < a.length) : (a ++ b').take (tokN (a ++ b')) = (a ++ b).take (tokN (a ++ b)) := by
  rw [tokN_same b' h, List.take_append_of_le_length (by omega), List.take_append_of_le_length (by omega)]

theorem tokK_same {a b : List UInt8} (b' : List UInt8) (h : tokN (a ++ b) < a.length) : tokK (a ++ b') = tokK (a ++ b) := by
  unfold tokK
  rw [take_same b' h, tok0_same b' h]

theorem glue_cons (x : Int × List UInt8) (t : List (Int × List UInt8)) : glue (x :: t) = x.2 ++ glue t := rfl
theorem glue_append (a b : List (Int × List UInt8)) : glue (a ++ b) = glue a ++ glue b := List.flatMap_append ..

/-- Tokens that end before the first change are tokens of both; behind them both go on by themselves. -/
theorem T_keep {b : List UInt8} (b' : List UInt8) (rest : List (Int × List UInt8)) : ∀ (pre : List (Int × List UInt8)) (a : List UInt8), T (a ++ b) = pre ++ rest → (pre = [] ∨ (glue pre).length < a.length) →
    T (a ++ b') = pre ++ T ((a ++ b').drop (glue pre).length) := by
  intro pre
  induction pre with
  | nil => intro a _ _; simp [glue]
  | cons x pre ih =>
    intro a hT hl
    have hl : (glue (x :: pre)).length < a.length := hl.resolve_left (by simp)
    rw [glue_cons, List.length_append] at hl
    have hne : a ++ b ≠ [] := by
      intro e
      rw [e, T_nil] at hT
      simp at hT
    rw [T_cons hne, List.cons_append] at hT
    obtain ⟨hx, hr⟩ := List.cons.inj hT
    have hn := tokN_bound hne
    have hx2 : x.2.length = tokN (a ++ b) := by rw [← hx]; simp only [List.length_take]; omega
    have hlt : tokN (a ++ b) < a.length := by omega
    have hne' : a ++ b' ≠ [] := by
      intro e
      have := congrArg List.length e
      simp at this
      simp [this.1] at hlt
    rw [T_cons hne', tokK_same b' hlt, take_same b' hlt, tokN_same b' hlt, hx, List.cons_append, glue_cons, List.length_append, hx2, ← List.drop_drop]
    congr 1
    rw [List.drop_append_of_le_length (by omega)] at hr ⊢
    refine ih (a.drop (tokN (a ++ b))) hr ?_
    right
    rw [List.length_drop]
    omega

theorem glue_split (l : List (Int × List UInt8)) (k : Nat) : (glue l).length = (glue (l.take k)).length + (glue (l.drop k)).length := by
  rw [← List.length_append, ← glue_append, List.take_append_drop]

theorem glue_pos {l : List (Int × List UInt8)} (hl : l ≠ []) (h : ∀ x ∈ l, x.2 ≠ []) : 1 ≤ (glue l).length := by
  cases l with
  | nil => exact absurd rfl hl
  | cons x r =>
    rw [glue_cons, List.length_append]
    have := List.length_pos_iff.2 (h x (by simp))
    omega

/-- Leading and trailing tokens that are no longer together than the whole don't overlap. -/
theorem apart {l : List (Int × List UInt8)} (h : ∀ x ∈ l, x.2 ≠ []) {p k : Nat} (hp : p ≤ l.length) (hk : k ≤ l.length)
    (hg : (glue (l.take p)).length + (glue (l.drop (l.length - k))).length ≤ (glue l).length) : p + k ≤ l.length := by
  rcases Nat.lt_or_ge l.length (p + k) with hlt | hge
  · have e1 := glue_split l (l.length - k)
    have e2 := glue_split (l.take p) (l.length - k)
    rw [List.take_take, Nat.min_eq_left (by omega)] at e2
    have h3 : 1 ≤ (glue ((l.take p).drop (l.length - k))).length := by
      refine glue_pos ?_ ?_
      · intro e
        have := congrArg List.length e
        rw [List.length_drop, List.length_take, List.length_nil] at this
        omega
      · intro x hx
        exact h x (List.mem_of_mem_take (List.mem_of_mem_drop hx))
    omega
  · exact hge

/-- The new list of tokens, put together of the leading ones, fresh ones and the trailing ones. -/
theorem T_update {l t : List UInt8} {s e p k : Nat} {old fresh : List (Int × List UInt8)} (ho : old = T l) (hs : s ≤ l.length)
    (hp : p = 0 ∨ (glue (old.take p)).length < s) (hf : fresh = T ((l.take s ++ (t ++ l.drop e)).drop (glue (old.take p)).length))
    (hk : old.drop (old.length - k) = fresh.drop (fresh.length - k)) :
    old.take p ++ (fresh.take (fresh.length - k) ++ old.drop (old.length - k)) = T (l.take s ++ (t ++ l.drop e)) ∧ (T (l.take s ++ (t ++ l.drop e))).length = (old.take p).length + fresh.length := by
  have h1 := T_keep (b := l.drop s) (t ++ l.drop e) (old.drop p) (old.take p) (l.take s) (by rw [List.take_append_drop, List.take_append_drop, ho]) (by
    rcases hp with rfl | hp
    · left; rw [List.take_zero]
    · right; rw [List.length_take]; omega)
  rw [← hf] at h1
  rw [hk, List.take_append_drop, h1]
  exact ⟨rfl, List.length_append⟩
end Go.Proofs.YtbomilleckgalaaGreat.Lx
