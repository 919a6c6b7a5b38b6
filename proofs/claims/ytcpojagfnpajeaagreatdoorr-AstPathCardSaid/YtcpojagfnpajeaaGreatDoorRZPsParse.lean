/-
  parser.Parse of a source that is not too long, by its contract: the tree that the plain parser makes.
-/
import Derived.Test.YtcpojagfnpajeaaGreatDoorRZPsAll
import Derived.Test.YtcpojagfnpajeaaGreatDoorRZPsHead
import Derived.Test.YtcpojagfnpajeaaGreatDoorRZLxAll
namespace Go.Proofs.YtcpojagfnpajeaaGreatDoorR.Ps
open Go.RowKit Go.Shelf

theorem tok_kind (l : List UInt8) : I64 (Lx.tokK l) := by
  have h0 : ∀ l, 101 ≤ (Lx.tok0 l).1 ∧ (Lx.tok0 l).1 ≤ 108 := by
    intro l
    cases l with
    | nil => exact ⟨by decide, by decide⟩
    | cons c r =>
      unfold Lx.tok0
      (repeat' split) <;> (constructor <;> (dsimp only; omega))
  have := h0 l
  unfold Lx.tokK I64
  split <;> omega

theorem toks_ok (n : Nat) : ∀ l : List UInt8, l.length ≤ n → n ≤ maxLen → ∀ t, t ∈ Lx.T l → I64 t.1 ∧ t.2.length ≤ maxLen := by
  induction n with
  | zero => intro l h _ x hx; have : l = [] := List.eq_nil_of_length_eq_zero (by omega); subst this; simp [Lx.T_nil] at hx
  | succ n ih =>
    intro l h hm x hx
    by_cases hl : l = []
    · subst hl; simp [Lx.T_nil] at hx
    · rw [Lx.T_cons hl] at hx
      have hb := Lx.tokN_bound hl
      rcases List.mem_cons.1 hx with rfl | hx
      · exact ⟨tok_kind l, by show (l.take _).length ≤ _; rw [List.length_take]; omega⟩
      · exact ih _ (by rw [List.length_drop]; omega) (by omega) x hx

set_option maxRecDepth 100000 in
set_option maxHeartbeats 4000000 in
theorem parse_pl (s : ByteArray) (w : World) (hs : s.size ≤ 2000) (n : Nat) (z : S) (hr : run n .file ⟨[], Lx.T (Lx.L s), false⟩ = some z) :
    Calls Tryz.prog 15 #[.string s] w fun e w' => Below w.heap.size w w' ∧ ∃ m ra rc, e = .returned (.tuple #[tv (inner 1 z.ch) ra rc, .int .i64 0]) ∧ Kids w' (fun j => Pl w' j ∧ w.heap.size ≤ j) m ra z.ch ∧ z.ch.length ≤ maxLen ∧ z.ch.length ≤ rc ∧ (ra = none → rc = 0) := by
  have HR := Lib.hid hr
  have HTK := Lib.hid (toks_ok s.size (Lx.L s) (by rw [Lx.L_len]; exact Nat.le_refl _) (by unfold maxLen; omega))
  have HTL : Hid ((Lx.T (Lx.L s)).length ≤ 2000) := Nat.le_trans (Lx.T_length s.size (Lx.L s) (by rw [Lx.L_len]; exact Nat.le_refl _)) (by rw [Lx.L_len]; exact hs)
  have K1 := Lib.hid (fun W => Lx.tokenize_any s W hs)
  clear hr
  go_enter Tryz.func15, Tryz.ntmps15
  go_wp2_with fail
  refine (K1.out _).mono ?_
  rintro e w2 ⟨v, rfl, hown, hb2⟩
  obtain ⟨ta, tc, rfl, htc, htks, _⟩ := hown.tks
  have htcm : tc ≤ maxLen := by
    rcases hown.2 with ⟨e, _⟩ | ⟨g, c, cur, e, _, _, _, h2, _⟩
    · obtain ⟨_, _, e3⟩ := Value.slice.inj e; unfold maxLen; omega
    · obtain ⟨_, _, e3⟩ := Value.slice.inj e; omega
  generalize Lx.T (Lx.L s) = l at *
  have hB2 : Below w.heap.size w w2 := ((Below.refl w.heap.size w).alloc (Nat.le_refl _) _).trans (hb2.mono (by simp))
  have hbox : w2.heap[w.heap.size]? = some (.cells #[.int .i64 0, .string ⟨#[]⟩, .slice none 0 0] 25 (0, 0)) := (hb2.block w.heap.size (by simp)).trans (heap_alloc_new w _)
  have hr2 : w.heap.size < w2.heap.size := (Array.getElem?_eq_some_iff.1 hbox).1
  have K2 := Lib.hid (new_any w2 ta tc l (fun i x hx => htks i x hx) (by have := HTL.out; omega) htc htcm HTK.out)
  clear hown htks htc htcm K1 hb2
  go_wp2_with fail
  refine K2.out.mono ?_
  rintro e w3 ⟨rfl, h3, hb3⟩
  have K3 := Lib.hid (file_does (newEnv w2 w3 ta tc l) (specs _) n _ _ w3 _ z h3 HR.out)
  have hsz3 := hb3.size
  have hbox3 := (hb3.block _ hr2).trans hbox
  clear K2
  go_wp2_with fail
  refine K3.out.mono ?_
  rintro e w4 ⟨rfl, h4⟩
  obtain ⟨⟨k, aa, ac, pv, pl, pm, hp⟩, hf⟩ := h4
  have hbox4 : w4.heap[w.heap.size]? = some (.cells #[.int .i64 0, .string ⟨#[]⟩, .slice none 0 0] 25 (0, 0)) := (hf.block w.heap.size ⟨by omega, by omega⟩).trans hbox3
  have hB4 : Below w.heap.size w w4 := by
    refine (hB2.trans (hb3.mono hB2.size)).trans ⟨hf.os, hf.tape, hf.output, hf.size, fun j hj => hf.block j ⟨by omega, by omega⟩⟩
  obtain ⟨ra, rc, hv, hk⟩ := OwnsT.kids (S := fun j => (Pl w4 j ∧ w.heap.size ≤ j) ∧ j ≠ w.heap.size) hp.own (hp.sub.up (fun j hj => ⟨⟨hj.1.1, by have h9 : w3.heap.size ≤ j := hj.1.2; omega⟩, fun e => hj.2.2.2 (by show j < w2.heap.size; omega)⟩) (Nat.le_refl _)) (fun g hg => ⟨⟨OwnsT.pl hp.own hg, by have h9 : w3.heap.size ≤ g := hp.low hg; omega⟩, fun e => (hp.row g hg).1 (by rw [e]; exact ⟨by omega, by omega⟩)⟩)
  have hcp : pl.length ≤ rc ∧ (ra = none → rc = 0) := by
    rcases hp.own.2 with ⟨e, h0⟩ | ⟨g, c, cur, e, _, _, h1, _⟩
    · rw [hv] at e; obtain ⟨_, e2, e3⟩ := Value.slice.inj e; exact ⟨by omega, fun _ => e3⟩
    · rw [hv] at e; obtain ⟨e1, e2, e3⟩ := Value.slice.inj e; exact ⟨by omega, fun q => by rw [q] at e1; cases e1⟩
  rw [hp.ch] at hk
  have hpl : pl.length = z.ch.length := hp.len
  rw [hpl] at hv hcp
  subst hv
  have hzl : z.ch.length ≤ maxLen := by
    rcases hp.own.2 with ⟨_, h0⟩ | ⟨_, _, _, _, _, _, h1, h2, _⟩
    · omega
    · omega
  obtain ⟨_, _, _, c3, _⟩ := four_cells hp.hb
  have c3' : w4.cell? ⟨w2.heap.size, 3, none⟩ = some (.slice ra z.ch.length rc) := c3
  have hlb : w2.heap.size < w4.heap.size := hp.lb
  obtain ⟨e0, e1, e2, y0, y1, y2⟩ := three_facts hbox4
  have HS := Lib.hid (fun u0 u1 u2 => three_facts (set_three (u0 := u0) (u1 := u1) (u2 := u2) hbox4))
  have HB5 : Hid (∀ u0 u1 u2, Below w.heap.size w (((w4.setCell ⟨w.heap.size, 0, none⟩ u0).setCell ⟨w.heap.size, 1, none⟩ u1).setCell ⟨w.heap.size, 2, none⟩ u2)) := fun u0 u1 u2 =>
    ((hB4.setCell (p := ⟨w.heap.size, 0, none⟩) (Nat.le_refl _) u0).setCell (p := ⟨w.heap.size, 1, none⟩) (Nat.le_refl _) u1).setCell (p := ⟨w.heap.size, 2, none⟩) (Nat.le_refl _) u2
  have HK5 : Hid (∀ u0 u1 u2, Kids (((w4.setCell ⟨w.heap.size, 0, none⟩ u0).setCell ⟨w.heap.size, 1, none⟩ u1).setCell ⟨w.heap.size, 2, none⟩ u2) (fun j => Pl (((w4.setCell ⟨w.heap.size, 0, none⟩ u0).setCell ⟨w.heap.size, 1, none⟩ u1).setCell ⟨w.heap.size, 2, none⟩ u2) j ∧ w.heap.size ≤ j) (pm + 1) ra z.ch) := fun u0 u1 u2 => by
    refine (hk.kept fun j _ hj => World.cell?_of_block ?_).up (fun j hj => ⟨((hj.1.1.set _ _).set _ _).set _ _, hj.1.2⟩) (Nat.le_refl _)
    rw [heap_setCell_other _ ⟨w.heap.size, 2, none⟩ j u2 (fun e => hj.2 e), heap_setCell_other _ ⟨w.heap.size, 1, none⟩ j u1 (fun e => hj.2 e), heap_setCell_other _ ⟨w.heap.size, 0, none⟩ j u0 (fun e => hj.2 e)]
  clear hp hf hk hpl h3 K3 hb3 hB2 hbox hbox3 hbox4 hB4
  go_wp2_with fail
  obtain ⟨z0, z1, z2, _⟩ := HS.out (.int .i64 1) (.string ⟨#[]⟩) (.slice ra z.ch.length rc)
  refine bodyPost_ret (by simp [results, Tryz.results15, go_sem, z0, z1, z2]; try rfl) rfl ?_
  exact ⟨HB5.out _ _ _, pm + 1, ra, rc, rfl, HK5.out _ _ _, hzl, hcp⟩
end Go.Proofs.YtcpojagfnpajeaaGreatDoorR.Ps
