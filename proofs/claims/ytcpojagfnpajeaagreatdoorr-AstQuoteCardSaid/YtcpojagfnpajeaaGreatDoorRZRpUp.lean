/-
  A file is its items, one behind the other: the items whose next two significant tokens stay are the same items of another source (no program).
  The tokens ahead of an edit stay, without any program: what chapter 6 rests on.
  What is parsed again behind the items that an edit cannot change: the new children are the old items and those of the rest (no program).
-/
import Derived.Test.YtcpojagfnpajeaaGreatDoorRZRpCore
import Derived.Test.YtcpojagfnpajeaaGreatDoorRZLxLow
namespace Go.Proofs.YtcpojagfnpajeaaGreatDoorR.Ps
open Go.RowKit

theorem Lc.mono {a a2 : PA} (h : Lc false a a2) {s s' : S} (hs : a s = some s') : a2 s = some s' := by
  obtain ⟨u, h1, _, h3⟩ := h s s' hs
  obtain ⟨b', r1, r2⟩ := h3 s'.rest [] [] s.val (by simp) (Or.inl rfl) (fun e => by cases e)
  rw [List.append_nil, List.append_nil, ← h1, r2 rfl] at r1
  exact r1

def itemF (r : NT → PA) (o : Option (Int × NT)) : PA := fun s => match o with | none => node 46 (r .skip) s | some x => node x.1 (seq [Ps.accept [112, 117, 98], Ps.take, r x.2]) s
theorem itemA_eq (r : NT → PA) : itemA r = fun s => itemF r (itemOf (keyword s)) s := rfl

theorem item_lc (n m : Nat) (h : n ≤ m) : Lc false (itemA (run n)) (itemA (run m)) := by
  rw [itemA_eq, itemA_eq]
  refine Lc.by (α := { o : Option (Int × NT) // ∀ x, o = some x → x.2 ≠ .file }) (fun s => ⟨itemOf (keyword s), fun x hx => (itemOf_kind hx).2⟩) ?_ (f := fun o => itemF (run n) o.1) (f2 := fun o => itemF (run m) o.1) ?_
  · intro ch w z z' b b' ha
    apply Subtype.ext
    simp only
    unfold keyword
    simp only
    rw [ha.pk (by omega), ha.pk (by omega)]
  · rintro ⟨o, ho⟩
    cases o with
    | none => exact Lc.node 46 (run_lc n m h .skip (by intro q; cases q))
    | some x => exact Lc.node x.1 (Lc.cons (Lc.accept _ _) (Lc.cons (Lc.take _) (Lc.cons (l := []) (l2 := []) (run_lc n m h x.2 (ho x rfl)) (Lc.nil _))))

theorem node_ch {k : Int} {a : PA} {s s' : S} (h : node k a s = some s') : ∃ c, s'.ch = s.ch ++ [inner k c] ∧ s.ch.length < LIM ∧ (∃ m, a { s with ch := [] } = some m ∧ m.rest = s'.rest) ∧
    ∀ ch, ch.length < LIM → node k a ⟨ch, s.rest, s.val⟩ = some ⟨ch ++ [inner k c], s'.rest, s'.val⟩ := by
  unfold node at h
  cases ha : a { s with ch := [] } with
  | none => simp [ha] at h
  | some m =>
    simp only [ha, Option.bind_some] at h
    split at h
    · rename_i hl
      cases h
      refine ⟨m.ch, rfl, hl, ⟨m, rfl, rfl⟩, fun ch hc => ?_⟩
      unfold node
      simp only
      have ha' : a ⟨[], s.rest, s.val⟩ = some m := ha
      rw [ha']
      simp only [Option.bind_some]
      rw [if_pos hc]
    · cases h

/-- An item adds one tree, whatever the children, and takes a significant token. -/
theorem item_one {n : Nat} {s s' : S} (h : itemA (run n) s = some s') : ∃ t : Tree, s'.ch = s.ch ++ [t] ∧ t.k < 100 ∧ s.ch.length < LIM ∧ (sigs s'.rest).length < (sigs s.rest).length ∧
    ∀ ch, ch.length < LIM → itemA (run n) ⟨ch, s.rest, s.val⟩ = some ⟨ch ++ [t], s'.rest, s'.val⟩ := by
  rw [itemA_eq] at h
  simp only at h
  cases ho : itemOf (keyword s) with
  | none =>
    rw [ho] at h
    change node 46 (run n .skip) s = some s' at h
    obtain ⟨c, h1, h2, ⟨m, h3, h4⟩, h5⟩ := node_ch h
    refine ⟨inner 46 c, h1, by show (46 : Int) < 100; decide, h2, ?_, fun ch hc => ?_⟩
    · cases n with
      | zero => cases h3
      | succ n =>
        obtain ⟨m1, p1, p2⟩ := seq_some (a := Ps.take) (l := [run n .skipLoop]) h3
        have e1 := take_less p1
        have e2 := Lc.le (e := false) (Lc.cons (l := []) (l2 := []) (run_lc n n (Nat.le_refl _) .skipLoop (by intro q; cases q)) (Lc.nil _)) p2
        rw [h4] at e2
        exact Nat.lt_of_le_of_lt e2 e1
    · rw [itemA_eq]
      have : itemOf (keyword ⟨ch, s.rest, s.val⟩) = none := ho
      simp only [this]
      exact h5 ch hc
  | some x =>
    rw [ho] at h
    change node x.1 (seq [Ps.accept [112, 117, 98], Ps.take, run n x.2]) s = some s' at h
    obtain ⟨c, h1, h2, ⟨m, h3, h4⟩, h5⟩ := node_ch h
    have hx := itemOf_kind ho
    refine ⟨inner x.1 c, h1, hx.1, h2, ?_, fun ch hc => ?_⟩
    · obtain ⟨m1, p1, p2⟩ := seq_some h3
      obtain ⟨m2, p3, p4⟩ := seq_some p2
      have e0 := Lc.le (Lc.accept false _) p1
      have e1 := take_less p3
      have e2 := Lc.le (e := false) (Lc.cons (l := []) (l2 := []) (run_lc n n (Nat.le_refl _) x.2 hx.2) (Lc.nil _)) p4
      rw [h4] at e2
      exact Nat.lt_of_le_of_lt e2 (Nat.lt_of_lt_of_le e1 e0)
    · rw [itemA_eq]
      have : itemOf (keyword ⟨ch, s.rest, s.val⟩) = some x := ho
      simp only [this]
      exact h5 ch hc

/-- The tokens of items. -/
def flat (xs : List (Tree × List Tk)) : List Tk := xs.flatMap (·.2)
/-- Items one behind the other, with tokens behind them; the flag ahead and behind. -/
def Chain (N : Nat) : List (Tree × List Tk) → List Tk → Bool → Bool → Prop
  | [], _, b, b' => b' = b
  | x :: xs, ρ, b, b' => 1 ≤ (sigs x.2).length ∧ En x.2 ∧ x.1.k < 100 ∧ ∃ c, itemA (run N) ⟨[], x.2 ++ (flat xs ++ ρ), b⟩ = some ⟨[x.1], flat xs ++ ρ, c⟩ ∧ Chain N xs ρ c b'

theorem chain_move {N M : Nat} (hN : N ≤ M) {w z z' : List Tk} (ha : Ah w z z') : ∀ {xs : List (Tree × List Tk)} {b b' : Bool}, Chain N xs (w ++ z) b b' → ∀ c, ∃ c', Chain M xs (w ++ z') c c' ∧ (c = b → c' = b')
  | [], b, b', h, c => ⟨c, rfl, fun e => by rw [e]; exact h.symm⟩
  | x :: xs, b, b', ⟨h1, h2, h3, d, h4, h5⟩, c => by
    obtain ⟨u, p1, _, p3⟩ := item_lc N M hN _ _ h4
    simp only at p1
    have hu : u = x.2 := (List.append_cancel_right p1).symm
    subst hu
    obtain ⟨d', r1, r2⟩ := p3 (flat xs ++ w) z z' c (by simp only [List.append_assoc]) (ha.more _) (fun e => by cases e)
    obtain ⟨c', t1, t2⟩ := chain_move hN ha h5 d'
    refine ⟨c', ⟨h1, h2, h3, d', ?_, t1⟩, fun e => t2 (r2 e)⟩
    simp only [List.append_assoc] at r1
    exact r1
theorem chain_up {N M : Nat} (hN : N ≤ M) {xs : List (Tree × List Tk)} {ρ : List Tk} {b b' : Bool} (h : Chain N xs ρ b b') : Chain M xs ρ b b' := by
  obtain ⟨c', h1, h2⟩ := chain_move (w := []) (z := ρ) (z' := ρ) hN (Or.inl rfl) h b
  rw [h2 rfl] at h1
  exact h1
theorem file_chain : ∀ (n : Nat) (s z : S), run n .file s = some z → ∃ xs tl b', s.rest = flat xs ++ tl ∧ sigs tl = [] ∧ z = ⟨s.ch ++ xs.map Prod.fst ++ tl.map tokTree, [], b'⟩ ∧ Chain n xs tl s.val b'
  | 0, s, z, h => by cases h
  | n + 1, s, z, h => by
    change cond atEnd takeAll (seq [itemA (run n), run n .file]) s = some z at h
    unfold cond at h
    cases hE : atEnd s with
    | true =>
      rw [hE, if_pos rfl] at h
      refine ⟨[], s.rest, s.val, by simp [flat], by unfold atEnd at hE; simpa using hE, ?_, rfl⟩
      unfold takeAll at h
      split at h
      · cases h; simp
      · cases h
    | false =>
      rw [hE] at h
      simp only [Bool.false_eq_true, if_false] at h
      obtain ⟨m, h1, h2⟩ := seq_some h
      obtain ⟨m2, h3, h4⟩ := seq_some h2
      have := seq_nil h4
      subst this
      obtain ⟨xs, tl, b', r1, r2, r3, r4⟩ := file_chain n m z h3
      obtain ⟨u, p1, p2, _⟩ := item_lc n n (Nat.le_refl _) _ _ h1
      obtain ⟨t, e1, e2, e3, e4, e5⟩ := item_one h1
      refine ⟨(t, u) :: xs, tl, b', ?_, r2, ?_, ?_, p2, e2, m.val, ?_, chain_up (Nat.le_succ n) r4⟩
      · rw [p1, r1]; show u ++ (flat xs ++ tl) = (u ++ flat xs) ++ tl; rw [List.append_assoc]
      · rw [r3, e1]; simp
      · rw [p1, sigs_append, List.length_append] at e4
        show 1 ≤ (sigs u).length
        omega
      · have h5 := e5 [] (by unfold LIM; simp)
        rw [p1, r1] at h5
        exact Lc.mono (item_lc n (n + 1) (Nat.le_succ n)) h5

end Go.Proofs.YtcpojagfnpajeaaGreatDoorR.Ps

namespace Go.Proofs.YtcpojagfnpajeaaGreatDoorR.Lx

theorem glue_cons (x : Int × List UInt8) (t : List (Int × List UInt8)) : glue (x :: t) = x.2 ++ glue t := rfl
theorem glue_append (a b : List (Int × List UInt8)) : glue (a ++ b) = glue a ++ glue b := List.flatMap_append ..

theorem glue_split (l : List (Int × List UInt8)) (k : Nat) : (glue l).length = (glue (l.take k)).length + (glue (l.drop k)).length := by
  rw [← List.length_append, ← glue_append, List.take_append_drop]

theorem glue_pos {l : List (Int × List UInt8)} (hl : l ≠ []) (h : ∀ x ∈ l, x.2 ≠ []) : 1 ≤ (glue l).length := by
  cases l with
  | nil => exact absurd rfl hl
  | cons x r =>
    rw [glue_cons, List.length_append]
    have := List.length_pos_iff.2 (h x (by simp))
    omega

/-- Leading and trailing tokens that are no longer together than the whole don't overlap. -/
theorem apart {l : List (Int × List UInt8)} (h : ∀ x ∈ l, x.2 ≠ []) {p k : Nat} (hp : p ≤ l.length) (hk : k ≤ l.length)
    (hg : (glue (l.take p)).length + (glue (l.drop (l.length - k))).length ≤ (glue l).length) : p + k ≤ l.length := by
  rcases Nat.lt_or_ge l.length (p + k) with hlt | hge
  · have e1 := glue_split l (l.length - k)
    have e2 := glue_split (l.take p) (l.length - k)
    rw [List.take_take, Nat.min_eq_left (by omega)] at e2
    have h3 : 1 ≤ (glue ((l.take p).drop (l.length - k))).length := by
      refine glue_pos ?_ ?_
      · intro e
        have := congrArg List.length e
        rw [List.length_drop, List.length_take, List.length_nil] at this
        omega
      · intro x hx
        exact h x (List.mem_of_mem_take (List.mem_of_mem_drop hx))
    omega
  · exact hge

end Go.Proofs.YtcpojagfnpajeaaGreatDoorR.Lx

namespace Go.Proofs.YtcpojagfnpajeaaGreatDoorR.Ps
open Go.RowKit

theorem tok_lowK (l : List UInt8) : 101 ≤ Lx.tokK l := by
  have h0 : ∀ l, 101 ≤ (Lx.tok0 l).1 ∧ (Lx.tok0 l).1 ≤ 108 := by
    intro l
    cases l with
    | nil => exact ⟨by decide, by decide⟩
    | cons c r =>
      unfold Lx.tok0
      (repeat' split) <;> (constructor <;> (dsimp only; omega))
  have := h0 l
  unfold Lx.tokK
  split <;> omega
theorem toks_lowK (n : Nat) : ∀ l : List UInt8, l.length ≤ n → ∀ t, t ∈ Lx.T l → 101 ≤ t.1 := by
  induction n with
  | zero => intro l h x hx; have : l = [] := List.eq_nil_of_length_eq_zero (by omega); subst this; simp [Lx.T_nil] at hx
  | succ n ih =>
    intro l h x hx
    by_cases hl : l = []
    · subst hl; simp [Lx.T_nil] at hx
    · rw [Lx.T_cons hl] at hx
      have hb := Lx.tokN_bound hl
      rcases List.mem_cons.1 hx with rfl | hx
      · exact tok_lowK l
      · exact ih _ (by rw [List.length_drop]; omega) x hx
theorem valid_T (l : List UInt8) : Valid (Lx.T l) := fun t ht => ⟨by have := toks_lowK _ _ (Nat.le_refl _) t ht; omega, List.length_pos_iff.2 (Lx.T_some _ _ (Nat.le_refl _) t ht)⟩
theorem wt_glueT (t : List Tk) : wt t = (Lx.glue t).length := by
  induction t with
  | nil => rfl
  | cons x r ih => simp [wt, Lx.glue] at ih ⊢; rw [ih]
theorem bytes_glue {t : List Tk} (h : Valid t) : bytes t = Lx.glue t := by
  induction t with
  | nil => rfl
  | cons x r ih =>
    have h1 := (h x (by simp)).1
    have : tokB x = x.2 := by unfold tokB; rw [if_neg (by omega)]
    show tokB x ++ bytes r = x.2 ++ Lx.glue r
    rw [this, ih (fun y hy => h y (by simp [hy]))]
theorem wt_T (l : List UInt8) : wt (Lx.T l) = l.length := by rw [wt_glueT, Lx.glue_T _ _ (Nat.le_refl _)]

def FU : Nat := 90044
theorem parse_some {l : List UInt8} (h : l.length ≤ 2000) : ∃ z, run FU .file ⟨[], Lx.T l, false⟩ = some z ∧ wfs z.ch = true ∧ sizes z.ch ≤ 16 * l.length ∧ heights z.ch ≤ 2 * l.length + 2 := by
  have hw := wt_T l
  obtain ⟨z, h1, h2, h3, h4⟩ := file_ends (s := ⟨[], Lx.T l, false⟩) (n := FU) (valid_T l) (by show wt (Lx.T l) ≤ _; omega) (by show 44 + 45 * wt (Lx.T l) ≤ _; unfold FU; omega) rfl
  refine ⟨z, h1, h2, ?_, ?_⟩
  · have : sizes z.ch ≤ 16 * wt (Lx.T l) := h3
    omega
  · have : heights z.ch ≤ 2 * wt (Lx.T l) + 2 := h4
    omega
/-- The children of the file of a source. -/
def parseC (l : List UInt8) : List Tree := ((run FU .file ⟨[], Lx.T l, false⟩).map S.ch).getD []
theorem parseC_is {l : List UInt8} {z : S} (h : run FU .file ⟨[], Lx.T l, false⟩ = some z) : z.ch = parseC l := by unfold parseC; rw [h]; rfl
theorem parseC_src {l : List UInt8} (h : l.length ≤ 2000) : srcs (parseC l) = l := by
  obtain ⟨z, h1, _⟩ := parse_some h
  have h2 := run_cs FU .file _ z h1
  obtain ⟨xs, tl, b', _, _, r3, _⟩ := file_chain FU _ z h1
  have hz : z.rest = [] := by rw [r3]
  rw [hz] at h2
  simp only [srcs, List.nil_append] at h2
  rw [bytes_glue (valid_T l), Lx.glue_T _ _ (Nat.le_refl _)] at h2
  rw [← parseC_is h1]
  simpa [bytes] using h2
/-! ### what is ahead of an edit -/

/-- The tokens that end ahead of start; the first of them stands at e. -/
def ahead (start : Nat) : Nat → List Tk → List Tk
  | _, [] => []
  | e, t :: r => if start ≤ e + t.2.length then [] else t :: ahead start (e + t.2.length) r
/-- Where the significant tokens end. -/
def ends : Nat → List Tk → List Nat
  | _, [] => []
  | e, t :: r => if sigB t then (e + t.2.length) :: ends (e + t.2.length) r else ends (e + t.2.length) r
/-- How far the items cannot change. -/
def stable (toks : List Tk) (start : Nat) : Nat :=
  if (ends 0 (ahead start 0 toks)).length ≤ 2 then 0 else ((ends 0 (ahead start 0 toks))[(ends 0 (ahead start 0 toks)).length - 3]?).getD 0
/-- How many of the trees end within len bytes, and where the last of them ends. -/
def within (len : Nat) : List Tree → Nat → Nat × Nat
  | [], e => (0, e)
  | c :: cs, e => if len < e + (srcT c).length then (0, e) else ((within len cs (e + (srcT c).length)).1 + 1, (within len cs (e + (srcT c).length)).2)

end Go.Proofs.YtcpojagfnpajeaaGreatDoorR.Ps
