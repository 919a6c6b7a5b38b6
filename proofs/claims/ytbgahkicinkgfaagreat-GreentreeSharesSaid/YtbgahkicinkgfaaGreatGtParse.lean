/-
  parser.Parse of at most 80 bytes: a well made tree of bounded size and height, no error.
-/
import Derived.Test.YtbgahkicinkgfaaGreatPsParse
import Derived.Test.YtbgahkicinkgfaaGreatPsEnds
import Derived.Test.YtbgahkicinkgfaaGreatGtKeep
namespace Go.Proofs.YtbgahkicinkgfaaGreat
open Go.RowKit

theorem tok_low (l : List UInt8) : 101 ≤ Lx.tokK l := by
  have h0 : ∀ l, 101 ≤ (Lx.tok0 l).1 ∧ (Lx.tok0 l).1 ≤ 108 := by
    intro l
    cases l with
    | nil => exact ⟨by decide, by decide⟩
    | cons c r =>
      unfold Lx.tok0
      (repeat' split) <;> (constructor <;> (dsimp only; omega))
  have := h0 l
  unfold Lx.tokK
  split <;> omega

theorem toks_low (n : Nat) : ∀ l : List UInt8, l.length ≤ n → ∀ t, t ∈ Lx.T l → 101 ≤ t.1 := by
  induction n with
  | zero => intro l h x hx; have : l = [] := List.eq_nil_of_length_eq_zero (by omega); subst this; simp [Lx.T_nil] at hx
  | succ n ih =>
    intro l h x hx
    by_cases hl : l = []
    · subst hl; simp [Lx.T_nil] at hx
    · rw [Lx.T_cons hl] at hx
      have hb := Lx.tokN_bound hl
      rcases List.mem_cons.1 hx with rfl | hx
      · exact tok_low l
      · exact ih _ (by rw [List.length_drop]; omega) x hx

theorem wt_glue (t : List Ps.Tk) : Ps.wt t = (Lx.glue t).length := by
  induction t with
  | nil => rfl
  | cons x r ih => simp [Ps.wt, Lx.glue] at ih ⊢; rw [ih]

set_option maxRecDepth 100000 in
theorem parse_any (s : ByteArray) (w : World) (hs : s.size ≤ 80) : Calls Tryz.prog 7 #[.string s] w (ParsePost w) := by
  have hl : (Lx.L s).length = s.size := Lx.L_len s
  have hw : Ps.wt (Lx.T (Lx.L s)) = s.size := by rw [wt_glue, Lx.glue_T _ _ (Nat.le_refl _), hl]
  have hv : Ps.Valid (Lx.T (Lx.L s)) := fun t ht => ⟨by have := toks_low _ _ (Nat.le_refl _) t ht; omega, List.length_pos_iff.2 (Lx.T_some _ _ (Nat.le_refl _) t ht)⟩
  obtain ⟨z, hz, h1, h2, h3⟩ := Ps.file_ends (s := ⟨[], Lx.T (Lx.L s), false⟩) hv (by show Ps.wt (Lx.T (Lx.L s)) ≤ _; omega) (n := 44 + 45 * s.size) (by show 44 + 45 * Ps.wt (Lx.T (Lx.L s)) ≤ _; omega) rfl
  change Ps.S at z
  have h2' : sizes z.ch ≤ 16 * s.size := by rw [← hw]; exact h2
  have h3' : heights z.ch ≤ 2 * s.size + 2 := by rw [← hw]; exact h3
  refine (Ps.parse_run s w (by omega) _ z hz).mono ?_
  rintro e w' ⟨hb, m, ra, rc, he, hk, hc⟩
  refine ⟨hb, m, Ps.inner 1 z.ch, ra, rc, he, ⟨by show I64 1; unfold I64; omega, by show (0 : Nat) ≤ maxLen; exact Nat.zero_le _, hc⟩, ?_, ?_, ?_, hk⟩
  · simp [Ps.inner, Tree.wf, wfN, h1]; rfl
  · simp [Ps.inner, Tree.size]; omega
  · simp [Ps.inner, Tree.height]; omega
end Go.Proofs.YtbgahkicinkgfaaGreat
