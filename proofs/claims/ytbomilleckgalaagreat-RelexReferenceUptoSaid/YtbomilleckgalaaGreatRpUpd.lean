/-
  What is parsed again behind the items that an edit cannot change: the new children are the old items and those of the rest (no program).
-/
import Derived.Test.YtbomilleckgalaaGreatRpFile
import Derived.Test.YtbomilleckgalaaGreatRxPure
namespace Go.Proofs.YtbomilleckgalaaGreat.Ps
open Go.RowKit

theorem tok_lowK (l : List UInt8) : 101 ≤ Lx.tokK l := by
  have h0 : ∀ l, 101 ≤ (Lx.tok0 l).1 ∧ (Lx.tok0 l).1 ≤ 108 := by
    intro l
    cases l with
    | nil => exact ⟨by decide, by decide⟩
    | cons c r =>
      unfold Lx.tok0
      (repeat' split) <;> (constructor <;> (dsimp only; omega))
  have := h0 l
  unfold Lx.tokK
  split <;> omega
theorem toks_lowK (n : Nat) : ∀ l : List UInt8, l.length ≤ n → ∀ t, t ∈ Lx.T l → 101 ≤ t.1 := by
  induction n with
  | zero => intro l h x hx; have : l = [] := List.eq_nil_of_length_eq_zero (by omega); subst this; simp [Lx.T_nil] at hx
  | succ n ih =>
    intro l h x hx
    by_cases hl : l = []
    · subst hl; simp [Lx.T_nil] at hx
    · rw [Lx.T_cons hl] at hx
      have hb := Lx.tokN_bound hl
      rcases List.mem_cons.1 hx with rfl | hx
      · exact tok_lowK l
      · exact ih _ (by rw [List.length_drop]; omega) x hx
theorem valid_T (l : List UInt8) : Valid (Lx.T l) := fun t ht => ⟨by have := toks_lowK _ _ (Nat.le_refl _) t ht; omega, List.length_pos_iff.2 (Lx.T_some _ _ (Nat.le_refl _) t ht)⟩
theorem wt_glueT (t : List Tk) : wt t = (Lx.glue t).length := by
  induction t with
  | nil => rfl
  | cons x r ih => simp [wt, Lx.glue] at ih ⊢; rw [ih]
theorem bytes_glue {t : List Tk} (h : Valid t) : bytes t = Lx.glue t := by
  induction t with
  | nil => rfl
  | cons x r ih =>
    have h1 := (h x (by simp)).1
    have : tokB x = x.2 := by unfold tokB; rw [if_neg (by omega)]
    show tokB x ++ bytes r = x.2 ++ Lx.glue r
    rw [this, ih (fun y hy => h y (by simp [hy]))]
theorem Valid.left {a b : List Tk} (h : Valid (a ++ b)) : Valid a := fun t ht => h t (by simp [ht])
theorem Valid.right {a b : List Tk} (h : Valid (a ++ b)) : Valid b := fun t ht => h t (by simp [ht])
theorem bytes_len {t : List Tk} (h : Valid t) : (bytes t).length = wt t := by rw [bytes_glue h, wt_glueT]
theorem wt_T (l : List UInt8) : wt (Lx.T l) = l.length := by rw [wt_glueT, Lx.glue_T _ _ (Nat.le_refl _)]

def FU : Nat := 90044
theorem parse_some {l : List UInt8} (h : l.length ≤ 2000) : ∃ z, run FU .file ⟨[], Lx.T l, false⟩ = some z ∧ wfs z.ch = true ∧ sizes z.ch ≤ 16 * l.length ∧ heights z.ch ≤ 2 * l.length + 2 := by
  have hw := wt_T l
  obtain ⟨z, h1, h2, h3, h4⟩ := file_ends (s := ⟨[], Lx.T l, false⟩) (n := FU) (valid_T l) (by show wt (Lx.T l) ≤ _; omega) (by show 44 + 45 * wt (Lx.T l) ≤ _; unfold FU; omega) rfl
  refine ⟨z, h1, h2, ?_, ?_⟩
  · have : sizes z.ch ≤ 16 * wt (Lx.T l) := h3
    omega
  · have : heights z.ch ≤ 2 * wt (Lx.T l) + 2 := h4
    omega
/-- The children of the file of a source. -/
def parseC (l : List UInt8) : List Tree := ((run FU .file ⟨[], Lx.T l, false⟩).map S.ch).getD []
theorem parseC_is {l : List UInt8} {z : S} (h : run FU .file ⟨[], Lx.T l, false⟩ = some z) : z.ch = parseC l := by unfold parseC; rw [h]; rfl
theorem parseC_src {l : List UInt8} (h : l.length ≤ 2000) : srcs (parseC l) = l := by
  obtain ⟨z, h1, _⟩ := parse_some h
  have h2 := run_cs FU .file _ z h1
  obtain ⟨xs, tl, b', _, _, r3, _⟩ := file_chain FU _ z h1
  have hz : z.rest = [] := by rw [r3]
  rw [hz] at h2
  simp only [srcs, List.nil_append] at h2
  rw [bytes_glue (valid_T l), Lx.glue_T _ _ (Nat.le_refl _)] at h2
  rw [← parseC_is h1]
  simpa [bytes] using h2
theorem parse_parts {l : List UInt8} (h : l.length ≤ 2000) : ∃ xs tl b, Lx.T l = flat xs ++ tl ∧ sigs tl = [] ∧ parseC l = xs.map Prod.fst ++ tl.map tokTree ∧ Chain FU xs tl false b := by
  obtain ⟨z, h1, _⟩ := parse_some h
  obtain ⟨xs, tl, b', r1, r2, r3, r4⟩ := file_chain FU _ z h1
  exact ⟨xs, tl, b', r1, r2, by rw [← parseC_is h1, r3]; simp, r4⟩

theorem parse_join {l' l'' : List UInt8} (h' : l'.length ≤ 2000) (h'' : l''.length ≤ 2000) {xs ys : List (Tree × List Tk)} {tl w z z' : List Tk} {b : Bool} (hc : Chain FU (xs ++ ys) tl false b) (hw : flat ys ++ tl = w ++ z) (ha : Ah w z z')
    (h1 : Lx.T l' = flat xs ++ (w ++ z')) (h2 : Lx.T l'' = w ++ z') : parseC l' = xs.map Prod.fst ++ parseC l'' := by
  obtain ⟨c, hc1⟩ := chain_take hc
  rw [hw] at hc1
  obtain ⟨c', hc2, _⟩ := chain_move (Nat.le_refl FU) ha hc1 false
  obtain ⟨vs, tl2, b2, e1, e2, e3, e4⟩ := parse_parts h''
  obtain ⟨c'', hc3, _⟩ := chain_move (w := []) (z := tl2) (z' := tl2) (Nat.le_refl FU) (Or.inl rfl) e4 c'
  have n1 := chain_len hc2
  have n2 := chain_len hc3
  have n3 := Lx.T_length _ l' (Nat.le_refl _)
  have n4 : (Lx.T l').length = (flat xs).length + ((flat vs).length + tl2.length) := by rw [h1, List.length_append, ← h2, e1, List.length_append]
  have hend := file_end (m := FU) (ch := xs.map Prod.fst ++ vs.map Prod.fst) (tl := tl2) (b := c'') e2 (by rw [List.length_append, List.length_map, List.length_map]; unfold LIM; omega)
  have hf1 := file_of_chain (m := FU + 1) (Nat.le_succ _) (ch := xs.map Prod.fst) hc3 (by rw [List.length_map]; unfold LIM; omega) hend
  have hwz : w ++ z' = flat vs ++ ([] ++ tl2) := by rw [← h2, e1]; rfl
  rw [← hwz] at hf1
  have hf2 := file_of_chain (m := FU + 1 + vs.length) (by omega) (ch := []) hc2 (by simp; unfold LIM; omega) hf1
  rw [← h1] at hf2
  obtain ⟨q, hq, _⟩ := parse_some h'
  have hq2 := file_mono FU (FU + 1 + vs.length + xs.length) _ q (by omega) hq
  rw [hf2] at hq2
  cases hq2
  rw [← parseC_is hq, e3]
  simp

theorem chain_src {N : Nat} {ρ : List Tk} : ∀ {xs : List (Tree × List Tk)} {b b' : Bool}, Chain N xs ρ b b' → ∀ x ∈ xs, srcT x.1 = bytes x.2 ∧ 1 ≤ (sigs x.2).length ∧ En x.2 ∧ x.1.k < 100
  | [], _, _, _ => fun x hx => by simp at hx
  | y :: xs, b, b', ⟨h1, h2, h3, c, h4, h5⟩ => by
    intro x hx
    rcases List.mem_cons.1 hx with rfl | hx
    · refine ⟨?_, h1, h2, h3⟩
      have h := itemA_cs (run_cs N) _ _ h4
      simp only [srcs, List.append_nil, List.nil_append, bytes_append] at h
      exact List.append_cancel_right h
    · exact chain_src h5 x hx

/-! ### what is ahead of an edit -/

/-- The tokens that end ahead of start; the first of them stands at e. -/
def ahead (start : Nat) : Nat → List Tk → List Tk
  | _, [] => []
  | e, t :: r => if start ≤ e + t.2.length then [] else t :: ahead start (e + t.2.length) r
/-- Where the significant tokens end. -/
def ends : Nat → List Tk → List Nat
  | _, [] => []
  | e, t :: r => if sigB t then (e + t.2.length) :: ends (e + t.2.length) r else ends (e + t.2.length) r
/-- How far the items cannot change. -/
def stable (toks : List Tk) (start : Nat) : Nat :=
  if (ends 0 (ahead start 0 toks)).length ≤ 2 then 0 else ((ends 0 (ahead start 0 toks))[(ends 0 (ahead start 0 toks)).length - 3]?).getD 0
/-- How many of the trees end within len bytes, and where the last of them ends. -/
def within (len : Nat) : List Tree → Nat → Nat × Nat
  | [], e => (0, e)
  | c :: cs, e => if len < e + (srcT c).length then (0, e) else ((within len cs (e + (srcT c).length)).1 + 1, (within len cs (e + (srcT c).length)).2)

theorem ahead_pre (start : Nat) : ∀ (toks : List Tk) (e : Nat), ∃ r, toks = ahead start e toks ++ r ∧ (ahead start e toks = [] ∨ e + wt (ahead start e toks) < start)
  | [], e => ⟨[], rfl, Or.inl rfl⟩
  | t :: q, e => by
    unfold ahead
    split
    · exact ⟨t :: q, rfl, Or.inl rfl⟩
    · obtain ⟨r, h1, h2⟩ := ahead_pre start q (e + t.2.length)
      refine ⟨r, by rw [List.cons_append, ← h1], Or.inr ?_⟩
      rcases h2 with h2 | h2
      · rw [h2]; simp [wt]; omega
      · simp only [wt]; omega
theorem ends_len : ∀ (ρ : List Tk) (e : Nat), (ends e ρ).length = (sigs ρ).length
  | [], _ => rfl
  | t :: r, e => by
    unfold ends sigs
    cases h : sigB t with
    | true => simp [h, ends_len r, sigs]
    | false => simp [h, ends_len r, sigs]
theorem ends_append : ∀ (a b : List Tk) (e : Nat), ends e (a ++ b) = ends e a ++ ends (e + wt a) b
  | [], b, e => by simp [ends, wt]
  | t :: r, b, e => by
    simp only [List.cons_append, ends, wt]
    rw [ends_append r b, Nat.add_assoc]
    split <;> simp
theorem ends_in : ∀ {ρ : List Tk} {e v : Nat}, Valid ρ → v ∈ ends e ρ → e < v ∧ v ≤ e + wt ρ
  | [], e, v, _, h => by simp [ends] at h
  | t :: r, e, v, hv, h => by
    have h1 := (hv t (by simp)).2
    have hr : Valid r := fun x hx => hv x (by simp [hx])
    unfold ends at h
    split at h
    · rcases List.mem_cons.1 h with rfl | h
      · simp only [wt]; omega
      · have := ends_in hr h
        simp only [wt]; omega
    · have := ends_in hr h
      simp only [wt]; omega
theorem ends_up {a b : List Tk} {e : Nat} (hv : Valid (a ++ b)) {i j v u : Nat} (hi : (ends e a)[i]? = some v) (hj : (ends (e + wt a) b)[j]? = some u) : v < u := by
  have h1 := ends_in hv.left (List.mem_of_getElem? hi)
  have h2 := ends_in hv.right (List.mem_of_getElem? hj)
  omega
theorem ends_mono : ∀ {ρ : List Tk} {e : Nat}, Valid ρ → ∀ {i j v u : Nat}, i < j → (ends e ρ)[i]? = some v → (ends e ρ)[j]? = some u → v < u
  | [], e, _, i, j, v, u, _, h, _ => by simp [ends] at h
  | t :: r, e, hv, i, j, v, u, hij, h1, h2 => by
    have hr : Valid r := fun x hx => hv x (by simp [hx])
    unfold ends at h1 h2
    split at h1
    · rename_i hs
      rw [if_pos hs] at h2
      cases j with
      | zero => omega
      | succ j =>
        rw [List.getElem?_cons_succ] at h2
        cases i with
        | zero =>
          simp at h1
          have := ends_in hr (List.mem_of_getElem? h2)
          omega
        | succ i =>
          rw [List.getElem?_cons_succ] at h1
          exact ends_mono hr (by omega) h1 h2
    · rename_i hs
      rw [if_neg hs] at h2
      exact ends_mono hr hij h1 h2

theorem pre_of_wt {a b c d : List Tk} (h : a ++ b = c ++ d) (hv : Valid a) (hw : wt a ≤ wt c) : ∃ w, c = a ++ w ∧ b = w ++ d := by
  rcases List.append_eq_append_iff.1 h with ⟨a', h1, h2⟩ | ⟨c', h1, h2⟩
  · exact ⟨a', h1, h2⟩
  · have : c' = [] := by
      cases c' with
      | nil => rfl
      | cons t r =>
        have h3 := (hv t (by rw [h1]; simp)).2
        rw [h1, wt_append] at hw
        simp only [wt] at hw
        omega
    subst this
    rw [List.append_nil] at h1
    exact ⟨[], by rw [h1, List.append_nil], by rw [h2]; rfl⟩

/-- Tokens that end within the stable length are followed by two significant ones ahead of start. -/
theorem stable_ahead {toks U V : List Tk} {start : Nat} (hv : Valid toks) (h : toks = U ++ V) (h1 : 1 ≤ wt U) (h2 : wt U ≤ stable toks start) :
    ∃ w z, V = w ++ z ∧ 2 ≤ (sigs w).length ∧ U ++ w = ahead start 0 toks := by
  obtain ⟨r, e1, _⟩ := ahead_pre start toks 0
  unfold stable at h2
  generalize ahead start 0 toks = A at *
  have hA : Valid A := by rw [e1] at hv; exact hv.left
  split at h2
  · omega
  · rename_i hm
    have hget : (ends 0 A)[(ends 0 A).length - 3]? = some (ends 0 A)[(ends 0 A).length - 3] := List.getElem?_eq_getElem (by omega)
    rw [hget] at h2
    simp only [Option.getD_some] at h2
    have hb := ends_in hA (List.mem_of_getElem? hget)
    obtain ⟨w, p1, p2⟩ := pre_of_wt (a := U) (b := V) (c := A) (d := r) (by rw [← h, ← e1]) (by rw [h] at hv; exact hv.left) (by omega)
    refine ⟨w, r, p2, ?_, p1.symm⟩
    rcases Nat.lt_or_ge (sigs w).length 2 with hlt | hge
    · exfalso
      have hl : (ends 0 A).length = (ends 0 U).length + (sigs w).length := by rw [p1, ends_append, List.length_append, ends_len w]
      have hi : (ends 0 A)[(ends 0 A).length - 2]? = (ends 0 U)[(ends 0 A).length - 2]? := by
        have : ends 0 A = ends 0 U ++ ends (0 + wt U) w := by rw [p1, ends_append]
        rw [this, List.getElem?_append_left (by rw [← this]; omega)]
      have hu : (ends 0 U)[(ends 0 A).length - 2]? = some (ends 0 U)[(ends 0 A).length - 2] := List.getElem?_eq_getElem (by omega)
      have hlt2 := ends_mono hA (show (ends 0 A).length - 3 < (ends 0 A).length - 2 by omega) hget (hi.trans hu)
      have hb2 := ends_in (by rw [h] at hv; exact hv.left) (List.mem_of_getElem? hu)
      omega
    · exact hge

theorem within_le (len : Nat) : ∀ (cs : List Tree) (e : Nat), (within len cs e).1 ≤ cs.length ∧ (within len cs e).2 = e + (srcs (cs.take (within len cs e).1)).length ∧ (e ≤ len → (within len cs e).2 ≤ len)
  | [], e => ⟨Nat.le_refl _, rfl, fun h => h⟩
  | c :: cs, e => by
    unfold within
    split
    · exact ⟨Nat.zero_le _, by simp [srcs], fun h => h⟩
    · obtain ⟨h1, h2, h3⟩ := within_le len cs (e + (srcT c).length)
      refine ⟨by simp only [List.length_cons]; omega, ?_, fun _ => h3 (by omega)⟩
      simp only [List.take_succ_cons, srcs, List.length_append]
      rw [h2]
      omega
theorem within_pre (len : Nat) : ∀ (cs : List Tree) (e k : Nat), k ≤ cs.length → e + (srcs (cs.take k)).length ≤ len → k ≤ (within len cs e).1
  | [], e, k, hk, _ => hk
  | c :: cs, e, 0, _, _ => Nat.zero_le _
  | c :: cs, e, k + 1, hk, h => by
    simp only [List.take_succ_cons, srcs, List.length_append] at h
    unfold within
    rw [if_neg (by omega)]
    have := within_pre len cs (e + (srcT c).length) k (by simpa using hk) (by omega)
    show k + 1 ≤ _ + 1
    omega
end Go.Proofs.YtbomilleckgalaaGreat.Ps
