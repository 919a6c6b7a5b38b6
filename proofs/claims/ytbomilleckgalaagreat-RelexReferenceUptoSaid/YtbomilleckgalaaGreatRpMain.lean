/-
  Update's plain answer is right, and it reuses the items that the document names (no program).
-/
import Derived.Test.YtbomilleckgalaaGreatRpUpd
namespace Go.Proofs.YtbomilleckgalaaGreat.Ps
open Go.RowKit

theorem srcs_items {xs : List (Tree × List Tk)} (h : ∀ x ∈ xs, srcT x.1 = bytes x.2) : srcs (xs.map Prod.fst) = bytes (flat xs) := by
  induction xs with
  | nil => rfl
  | cons x r ih =>
    simp only [List.map_cons, srcs]
    rw [h x (by simp), ih (fun y hy => h y (by simp [hy]))]
    show _ = bytes (x.2 ++ flat r)
    rw [bytes_append]
theorem take_src {xs : List (Tree × List Tk)} (tl : List Tk) (h : ∀ x ∈ xs, srcT x.1 = bytes x.2) (k : Nat) :
    srcs ((xs.map Prod.fst ++ tl.map tokTree).take k) = bytes (flat (xs.take k) ++ tl.take (k - xs.length)) := by
  rw [List.take_append, List.length_map, srcs_append, ← List.map_take, ← List.map_take, srcs_toks, bytes_append, srcs_items (fun x hx => h x (List.mem_of_mem_take hx))]
theorem cut_parts (xs : List (Tree × List Tk)) (tl : List Tk) (k : Nat) : flat xs ++ tl = (flat (xs.take k) ++ tl.take (k - xs.length)) ++ (flat (xs.drop k) ++ tl.drop (k - xs.length)) := by
  have h1 : flat xs = flat (xs.take k) ++ flat (xs.drop k) := by rw [← flat_append, List.take_append_drop]
  rcases Nat.lt_or_ge k xs.length with h | h
  · rw [show k - xs.length = 0 from by omega, h1]; simp
  · rw [List.drop_eq_nil_of_le h, List.take_of_length_le h]
    simp [flat]
theorem flat_some {xs : List (Tree × List Tk)} (h : ∀ x ∈ xs, 1 ≤ (sigs x.2).length) (hx : 1 ≤ xs.length) : 1 ≤ (flat xs).length := by
  cases xs with
  | nil => simp at hx
  | cons x r =>
    have := Nat.le_trans (h x (by simp)) (List.length_filter_le _ _)
    show 1 ≤ (x.2 ++ flat r).length
    rw [List.length_append]
    omega

/-- What the parts of a file are good for: k children within the stable length are items, and two significant tokens behind them stay. -/
theorem within_items {l : List UInt8} {xs : List (Tree × List Tk)} {tl : List Tk} {b : Bool} {k start : Nat} (e1 : Lx.T l = flat xs ++ tl) (e2 : sigs tl = []) (e4 : Chain FU xs tl false b)
    (hk : 1 ≤ k) (hk2 : k ≤ xs.length + tl.length) (hs : wt (flat (xs.take k) ++ tl.take (k - xs.length)) ≤ stable (Lx.T l) start) :
    k ≤ xs.length ∧ ∃ w z, flat (xs.drop k) ++ tl = w ++ z ∧ 2 ≤ (sigs w).length ∧ flat (xs.take k) ++ w = ahead start 0 (Lx.T l) := by
  have hc := chain_src e4
  have hcut := cut_parts xs tl k
  have hv := valid_T l
  have hU : 1 ≤ wt (flat (xs.take k) ++ tl.take (k - xs.length)) := by
    have hv2 : Valid (flat (xs.take k) ++ tl.take (k - xs.length)) := by rw [e1, hcut] at hv; exact hv.left
    refine Nat.le_trans ?_ (len_le_wt hv2)
    rw [List.length_append]
    rcases Nat.lt_or_ge xs.length 1 with h | h
    · have h0 : xs.length = 0 := by omega
      rw [List.length_take, h0]
      omega
    · have := flat_some (xs := xs.take k) (fun x hx => (hc x (List.mem_of_mem_take hx)).2.1) (by rw [List.length_take]; omega)
      omega
  obtain ⟨w, z, p1, p2, p3⟩ := stable_ahead hv (by rw [e1, hcut]) hU hs
  have hkx : k ≤ xs.length := by
    rcases Nat.lt_or_ge xs.length k with h | h
    · exfalso
      rw [List.drop_eq_nil_of_le (by omega)] at p1
      have h3 : sigs (w ++ z) = [] := by
        rw [← p1]
        show sigs ([] ++ tl.drop (k - xs.length)) = []
        have h4 : sigs (tl.take (k - xs.length) ++ tl.drop (k - xs.length)) = [] := by rw [List.take_append_drop]; exact e2
        rw [sigs_append] at h4
        exact (List.append_eq_nil_iff.1 h4).2
      rw [sigs_append] at h3
      rw [(List.append_eq_nil_iff.1 h3).1] at p2
      simp at p2
    · exact h
  rw [show k - xs.length = 0 from by omega] at p1 p3
  simp only [List.take_zero, List.drop_zero, List.append_nil] at p1 p3
  exact ⟨hkx, w, z, p1, p2, p3⟩

/-- What Update answers for the plain source l: how many children it keeps, and where it starts again. -/
def kept (l : List UInt8) (start : Nat) : Nat × Nat := within (stable (Lx.T l) start) (parseC l) 0

theorem reparse_ok {l t : List UInt8} {s e : Nat} (hs : s ≤ l.length) (hl : l.length ≤ 2000) (hl' : (l.take s ++ (t ++ l.drop e)).length ≤ 2000) :
    (kept l s).2 ≤ (l.take s ++ (t ++ l.drop e)).length ∧ (kept l s).1 ≤ (parseC l).length ∧
      parseC (l.take s ++ (t ++ l.drop e)) = (parseC l).take (kept l s).1 ++ parseC ((l.take s ++ (t ++ l.drop e)).drop (kept l s).2) := by
  obtain ⟨xs, tl, b, e1, e2, e3, e4⟩ := parse_parts hl
  obtain ⟨h1, h2, h3⟩ := within_le (stable (Lx.T l) s) (parseC l) 0
  change (kept l s).1 ≤ _ at h1
  change (kept l s).2 = 0 + (srcs ((parseC l).take (kept l s).1)).length at h2
  change 0 ≤ _ → (kept l s).2 ≤ _ at h3
  generalize kept l s = p at *
  have hc := chain_src e4
  have hv := valid_T l
  rw [e3, take_src tl (fun x hx => (hc x hx).1)] at h2
  have hcut := cut_parts xs tl p.1
  rw [bytes_len (by rw [e1, hcut] at hv; exact hv.left)] at h2
  rcases Nat.lt_or_ge p.1 1 with hk | hk
  · have h0 : p.1 = 0 := by omega
    rw [h0] at h2
    have h4 : p.2 = 0 := by rw [h2]; simp [flat, wt]
    exact ⟨by omega, h1, by rw [h0, h4]; simp⟩
  · have hlen : (parseC l).length = xs.length + tl.length := by rw [e3]; simp
    obtain ⟨hkx, w, z, p1, p2, p3⟩ := within_items (start := s) e1 e2 e4 hk (by omega) (by have := h3 (Nat.zero_le _); omega)
    obtain ⟨r, a1, a2⟩ := ahead_pre s (Lx.T l) 0
    rw [← p3] at a1 a2
    rw [show p.1 - xs.length = 0 from by omega] at h2
    simp only [List.take_zero, List.append_nil] at h2
    have ha2 : wt (flat (xs.take p.1) ++ w) < s := by
      rcases a2 with a2 | a2
      · rw [(List.append_eq_nil_iff.1 a2).2] at p2; simp [sigs] at p2
      · omega
    have hwt := wt_append (flat (xs.take p.1)) w
    have hsl : (l.take s).length = s := by rw [List.length_take]; omega
    have hk1 := Lx.T_keep (b := l.drop s) (t ++ l.drop e) r (flat (xs.take p.1) ++ w) (l.take s) (by rw [List.take_append_drop]; exact a1) (Or.inr (by rw [← wt_glueT, hsl]; exact ha2))
    generalize hz' : Lx.T ((l.take s ++ (t ++ l.drop e)).drop (Lx.glue (flat (xs.take p.1) ++ w)).length) = z' at hk1
    generalize hL : l.take s ++ (t ++ l.drop e) = l' at *
    have hl'' : p.2 ≤ l'.length := by
      have : (l.take s).length ≤ l'.length := by rw [← hL, List.length_append]; omega
      omega
    have hdrop : Lx.T (l'.drop p.2) = w ++ z' := by
      have hr := Lx.T_resumes (flat (xs.take p.1)).length l'
      have hd : (Lx.T l').drop (flat (xs.take p.1)).length = w ++ z' := by rw [hk1, List.append_assoc, List.drop_left]
      rw [hd] at hr
      have hg : l'.drop p.2 = Lx.glue (w ++ z') := by
        have := Lx.glue_T _ l' (Nat.le_refl _)
        rw [hk1, List.append_assoc, Lx.glue_append] at this
        rw [← this, h2, wt_glueT, Nat.zero_add, List.drop_left]
      rw [hg]
      exact hr
    refine ⟨hl'', h1, ?_⟩
    have hj := parse_join (l' := l') (l'' := l'.drop p.2) (xs := xs.take p.1) (ys := xs.drop p.1) (tl := tl) (w := w) (z := z) (z' := z') (b := b) hl' (by rw [List.length_drop]; omega) (by rw [List.take_append_drop]; exact e4) p1 (Or.inr p2) (by rw [hk1, List.append_assoc]) hdrop
    rw [hj, e3, List.take_append_of_le_length (by rw [List.length_map]; exact hkx), List.map_take]

/-! ### the items that have to be reused -/

/-- How many significant tokens stand at en or behind it and end ahead of start. -/
def afterF (start en : Nat) : Nat → List Tk → Nat
  | _, [] => 0
  | p, t :: r => (if en ≤ p ∧ p + t.2.length < start ∧ sigB t = true then 1 else 0) + afterF start en (p + t.2.length) r
/-- How many of the items are followed by two such tokens. -/
def leastF (toks : List Tk) (start : Nat) : Nat → List Tree → Nat
  | _, [] => 0
  | e, c :: cs => if 100 ≤ c.k then 0 else (if 2 ≤ afterF start (e + (srcT c).length) 0 toks then 1 else 0) + leastF toks start (e + (srcT c).length) cs

theorem after_none (start en : Nat) : ∀ (r : List Tk) (p : Nat), start ≤ p → afterF start en p r = 0
  | [], _, _ => rfl
  | t :: r, p, h => by
    unfold afterF
    rw [if_neg (by omega), after_none start en r _ (by omega)]
theorem after_skip {start en : Nat} : ∀ {u : List Tk} {v : List Tk} {p : Nat}, Valid u → p + wt u ≤ en → afterF start en p (u ++ v) = afterF start en (p + wt u) v
  | [], v, p, _, _ => by simp [wt]
  | t :: u, v, p, hv, h => by
    have h1 := (hv t (by simp)).2
    simp only [wt] at h
    simp only [List.cons_append, afterF, wt]
    rw [if_neg (by omega), after_skip (fun x hx => hv x (by simp [hx])) (by omega), Nat.add_assoc, Nat.zero_add]
theorem after_ahead {start en : Nat} : ∀ {v : List Tk} {p : Nat}, en ≤ p → afterF start en p v = (sigs (ahead start p v)).length
  | [], _, _ => rfl
  | t :: r, p, h => by
    unfold afterF ahead
    by_cases h2 : start ≤ p + t.2.length
    · rw [if_neg (by omega), if_pos h2, after_none start en r _ h2]; rfl
    · rw [if_neg h2, after_ahead (by omega)]
      unfold sigs
      cases hs : sigB t with
      | true => rw [if_pos ⟨h, by omega, rfl⟩]; simp [hs]; omega
      | false => rw [if_neg (by simp)]; simp [hs]
theorem ahead_skip {start : Nat} : ∀ {u v : List Tk} {p : Nat}, p + wt u < start → ahead start p (u ++ v) = u ++ ahead start (p + wt u) v
  | [], v, p, _ => by simp [wt]
  | t :: u, v, p, h => by
    simp only [wt] at h
    simp only [List.cons_append, ahead, wt]
    rw [if_neg (by omega), ahead_skip (by omega), Nat.add_assoc]

/-- Items with two significant tokens behind them lie within the stable length. -/
theorem stable_long {toks u v : List Tk} {start : Nat} (hv : Valid toks) (h : toks = u ++ v) (hu : En u) (hu2 : u ≠ []) (ha : 2 ≤ afterF start (wt u) 0 toks) : wt u ≤ stable toks start := by
  have hvu : Valid u := by rw [h] at hv; exact hv.left
  rw [h, after_skip hvu (by omega), Nat.zero_add, after_ahead (Nat.le_refl _)] at ha
  have hlt : wt u < start := by
    rcases Nat.lt_or_ge (wt u) start with h1 | h1
    · exact h1
    · exfalso
      cases v with
      | nil => simp [ahead, sigs] at ha
      | cons t r => simp only [ahead] at ha; rw [if_pos (by omega)] at ha; simp [sigs] at ha
  have hA : ahead start 0 toks = u ++ ahead start (wt u) v := by rw [h, ahead_skip (by omega), Nat.zero_add]
  obtain ⟨x, t, hx, ht⟩ : ∃ x t, u = x ++ [t] ∧ sigB t = true := hu.resolve_left hu2
  have hvA : Valid (ahead start 0 toks) := by
    obtain ⟨r, e1, _⟩ := ahead_pre start toks 0
    rw [e1] at hv
    exact hv.left
  have hE : ends 0 (ahead start 0 toks) = ends 0 x ++ (wt u :: ends (wt u) (ahead start (wt u) v)) := by
    rw [hA, hx, List.append_assoc, ends_append]
    simp only [List.cons_append, List.nil_append, ends, ht, if_true, wt_append, wt, Nat.zero_add, Nat.add_zero]
  have hl : (ends 0 (ahead start 0 toks)).length = (ends 0 x).length + (1 + (sigs (ahead start (wt u) v)).length) := by
    rw [hE, List.length_append, List.length_cons, ends_len (ahead start (wt u) v)]; omega
  unfold stable
  rw [if_neg (by omega)]
  have hget : (ends 0 (ahead start 0 toks))[(ends 0 (ahead start 0 toks)).length - 3]? = some (ends 0 (ahead start 0 toks))[(ends 0 (ahead start 0 toks)).length - 3] := List.getElem?_eq_getElem (by omega)
  rw [hget, Option.getD_some]
  have h0 : (ends 0 (ahead start 0 toks))[(ends 0 x).length]? = some (wt u) := by rw [hE, List.getElem?_append_right (Nat.le_refl _), Nat.sub_self]; rfl
  rcases Nat.lt_or_ge (ends 0 x).length ((ends 0 (ahead start 0 toks)).length - 3) with h1 | h1
  · exact Nat.le_of_lt (ends_mono hvA h1 h0 hget)
  · have : (ends 0 x).length = (ends 0 (ahead start 0 toks)).length - 3 := by omega
    rw [this, hget] at h0
    have := Option.some.inj h0
    omega

theorem flat_en {xs : List (Tree × List Tk)} (h : ∀ x ∈ xs, En x.2) : En (flat xs) := by
  induction xs with
  | nil => exact Or.inl rfl
  | cons x r ih => exact En.append (h x (by simp)) (ih fun y hy => h y (by simp [hy]))

theorem least_go {toks tl : List Tk} {start c : Nat} : ∀ {ys xs : List (Tree × List Tk)} {e : Nat}, (∀ x ∈ ys, srcT x.1 = bytes x.2) → Valid (flat ys) → e = wt (flat xs) → (∀ k, 1 ≤ k → k ≤ (xs ++ ys).length → 2 ≤ afterF start (wt (flat ((xs ++ ys).take k))) 0 toks → k ≤ c) →
    leastF toks start e (ys.map Prod.fst ++ tl.map tokTree) ≤ c - xs.length ∨ ∃ t ∈ tl, t.1 < 100
  | [], xs, e, _, _, _, _ => by
    cases tl with
    | nil => exact Or.inl (Nat.zero_le _)
    | cons t r =>
      by_cases ht : 100 ≤ t.1
      · refine Or.inl ?_
        show leastF toks start e (tokTree t :: r.map tokTree) ≤ _
        unfold leastF
        rw [if_pos (by exact ht)]
        exact Nat.zero_le _
      · exact Or.inr ⟨t, by simp, by omega⟩
  | y :: ys, xs, e, hy, hv, he, hc => by
    have hvy : Valid y.2 := Valid.left (b := flat ys) hv
    have hlen : (srcT y.1).length = wt y.2 := by rw [hy y (by simp), bytes_len hvy]
    have hnext : e + (srcT y.1).length = wt (flat (xs ++ [y])) := by rw [hlen, he, flat_append, wt_append]; show _ = _ + wt (y.2 ++ []); rw [List.append_nil]
    have ih := least_go (toks := toks) (tl := tl) (start := start) (c := c) (ys := ys) (xs := xs ++ [y]) (e := e + (srcT y.1).length) (fun x hx => hy x (by simp [hx])) (Valid.right (a := y.2) hv) hnext (by rw [List.append_assoc]; exact hc)
    rcases ih with ih | ih
    · refine Or.inl ?_
      show leastF toks start e (y.1 :: (ys.map Prod.fst ++ tl.map tokTree)) ≤ _
      unfold leastF
      split
      · exact Nat.zero_le _
      · rw [List.length_append] at ih
        simp only [List.length_cons, List.length_nil] at ih
        split
        · rename_i h2
          rw [hnext] at h2
          have hk := hc (xs.length + 1) (by omega) (by simp) (by
            have : (xs ++ y :: ys).take (xs.length + 1) = xs ++ [y] := by
              rw [List.take_append, List.take_of_length_le (by omega)]
              simp
            rw [this]; exact h2)
          omega
        · omega
    · exact Or.inr ih

theorem least_le {l : List UInt8} (hl : l.length ≤ 2000) (start : Nat) : leastF (Lx.T l) start 0 (parseC l) ≤ (kept l start).1 := by
  obtain ⟨xs, tl, b, e1, e2, e3, e4⟩ := parse_parts hl
  have hc := chain_src e4
  have hv := valid_T l
  have hvx : Valid (flat xs) := by rw [e1] at hv; exact hv.left
  have h := least_go (toks := Lx.T l) (tl := tl) (start := start) (c := (kept l start).1) (ys := xs) (xs := []) (e := 0) (fun x hx => (hc x hx).1) hvx rfl ?_
  · rcases h with h | ⟨t, ht, hlt⟩
    · rw [e3]; simpa using h
    · exfalso
      have := (hv t (by rw [e1]; simp [ht])).1
      omega
  · intro k hk hk2 ha
    rw [List.nil_append] at hk2 ha
    have hcut := cut_parts xs tl k
    rw [show k - xs.length = 0 from by omega] at hcut
    simp only [List.take_zero, List.drop_zero, List.append_nil] at hcut
    have hu : flat (xs.take k) ≠ [] := by
      intro e
      have := flat_some (xs := xs.take k) (fun x hx => (hc x (List.mem_of_mem_take hx)).2.1) (by rw [List.length_take]; omega)
      rw [e] at this
      simp at this
    have hst := stable_long hv (by rw [e1]; exact hcut) (flat_en fun x hx => (hc x (List.mem_of_mem_take hx)).2.2.1) hu ha
    refine within_pre _ _ 0 k (by rw [e3]; simp; omega) ?_
    rw [e3, take_src tl (fun x hx => (hc x hx).1), show k - xs.length = 0 from by omega]
    simp only [List.take_zero, List.append_nil]
    rw [bytes_len (by rw [hcut] at e1; rw [e1] at hv; exact hv.left)]
    omega
end Go.Proofs.YtbomilleckgalaaGreat.Ps
