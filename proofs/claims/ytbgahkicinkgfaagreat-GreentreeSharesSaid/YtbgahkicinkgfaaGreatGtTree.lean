/-
  Tree of the program, by its contract.
-/
import Derived.Test.YtbgahkicinkgfaaGreatGtExpand
import Derived.Test.YtbgahkicinkgfaaGreatGtIndex
import Derived.Test.YtbgahkicinkgfaaGreatGtWidth
namespace Go.Proofs.YtbgahkicinkgfaaGreat
open Go.RowKit

/-- The empty tree and an error. -/
abbrev noTree (c : Int) : Ending := .returned (.tuple #[.agg #[.int .i64 0, .string ⟨#[]⟩, .slice none 0 0], .int .i64 c])

/-- What Tree leaves. -/
def TreePost (l : List N) (z : Int) (w : World) (e : Ending) (w' : World) : Prop :=
  Below w.heap.size w w' ∧
  ((¬ OkTo (gs l) l.length ∧ e = noTree 3) ∨
   (OkTo (gs l) l.length ∧ ¬ (0 ≤ z ∧ z < l.length) ∧ e = noTree 5) ∨
   (OkTo (gs l) l.length ∧ (0 ≤ z ∧ z < l.length) ∧ 4000 < szAt (gs l) z.toNat ∧ e = noTree 2) ∨
   (OkTo (gs l) l.length ∧ (0 ≤ z ∧ z < l.length) ∧ szAt (gs l) z.toNat ≤ 4000 ∧ ∃ ra rc, e = .returned (.tuple #[tv (trAt (gs l) z.toNat) ra rc, .int .i64 0]) ∧ Kids w' (· < w'.heap.size) (z.toNat + 1) ra (trAt (gs l) z.toNat).c ∧ (trAt (gs l) z.toNat).ok))

set_option maxRecDepth 100000 in
set_option maxHeartbeats 4000000 in
theorem tree_any (l : List N) (a : Option Addr) (cap : Nat) (z : Int) (w : World) (hlen : l.length ≤ 4000) (hn : Nodes w (· < w.heap.size) a l) :
    Calls Tryz.prog 10 #[.agg #[.slice a l.length cap], .int .i64 z] w (TreePost l z w) := by
  obtain ⟨W0, hW0⟩ : ∃ W0, W0 = (w.alloc (oneBox (.slice a l.length cap))).alloc (treeBox 0 ⟨#[]⟩ (.slice none 0 0)) := ⟨_, rfl⟩
  have HB0 : Hid (Below w.heap.size w W0) := by rw [hW0]; exact ((Below.refl _ _).alloc (Nat.le_refl _) _).alloc (by simp) _
  have HZ0 : Hid (W0.heap.size = w.heap.size + 2) := by show _ = _; rw [hW0]; simp
  have R0 : Hid (W0.heap[w.heap.size + 1]? = some (.cells #[.int .i64 0, .string ⟨#[]⟩, .slice none 0 0] 25 (0, 0))) := by
    have := heap_alloc_new (w.alloc (oneBox (.slice a l.length cap))) (treeBox 0 ⟨#[]⟩ (.slice none 0 0))
    rw [show (w.alloc (oneBox (.slice a l.length cap))).heap.size = w.heap.size + 1 from by simp] at this
    show _ = _
    rw [hW0]; exact this
  have A0 : Hid (W0.heap[w.heap.size]? = some (.cells #[.slice a l.length cap] 32 (0, 0))) := by
    show _ = _
    rw [hW0]; exact alloc_keeps _ (heap_alloc_new w _)
  have HN := Lib.hid (hn.to HB0.out)
  have HL := Lib.hid hlen
  have hll : (l.length : Int) ≤ 4000 := by omega
  clear hn hlen
  have HFIN : Hid (∀ w2, Below W0.heap.size W0 w2 → ∀ u0 u1 u2, Below w.heap.size w (((w2.setCell ⟨w.heap.size + 1, 0, none⟩ u0).setCell ⟨w.heap.size + 1, 1, none⟩ u1).setCell ⟨w.heap.size + 1, 2, none⟩ u2) ∧
      (((w2.setCell ⟨w.heap.size + 1, 0, none⟩ u0).setCell ⟨w.heap.size + 1, 1, none⟩ u1).setCell ⟨w.heap.size + 1, 2, none⟩ u2).cell? ⟨w.heap.size + 1, 0, none⟩ = some u0 ∧
      (((w2.setCell ⟨w.heap.size + 1, 0, none⟩ u0).setCell ⟨w.heap.size + 1, 1, none⟩ u1).setCell ⟨w.heap.size + 1, 2, none⟩ u2).cell? ⟨w.heap.size + 1, 1, none⟩ = some u1 ∧
      (((w2.setCell ⟨w.heap.size + 1, 0, none⟩ u0).setCell ⟨w.heap.size + 1, 1, none⟩ u1).setCell ⟨w.heap.size + 1, 2, none⟩ u2).cell? ⟨w.heap.size + 1, 2, none⟩ = some u2) := by
    intro w2 hb u0 u1 u2
    have hz := HZ0.out
    have R2 := keeps_below hb (by omega) R0.out
    obtain ⟨q0, q1, q2, _⟩ := three_facts (set_three (u0 := u0) (u1 := u1) (u2 := u2) R2)
    refine ⟨?_, q0, q1, q2⟩
    exact (((HB0.out.trans (hb.mono HB0.out.size)).setCell (p := ⟨w.heap.size + 1, 0, none⟩) (by simp) u0).setCell (p := ⟨w.heap.size + 1, 1, none⟩) (by simp) u1).setCell (p := ⟨w.heap.size + 1, 2, none⟩) (by simp) u2
  by_cases hok : OkTo (gs l) l.length
  · have HC := Lib.hid (check_ok l a cap W0 HL.out HN.out hok)
    have HOK := Lib.hid hok
    clear hok
    go_enter Tryz.func10, Tryz.ntmps10
    go_wp2_with fail
    subst hW0
    change Calls _ _ _ ((w.alloc (oneBox (.slice a l.length cap))).alloc (treeBox 0 ⟨#[]⟩ (.slice none 0 0))) _
    generalize (w.alloc (oneBox (.slice a l.length cap))).alloc (treeBox 0 ⟨#[]⟩ (.slice none 0 0)) = W0 at *
    refine HC.out.mono ?_
    rintro e w2 ⟨rfl, hb2⟩
    have HB2 : Hid (Below W0.heap.size W0 w2) := hb2
    have hz2 := hb2.size
    have hz0 := HZ0.out
    obtain ⟨a0, _⟩ := one_facts (keeps_below hb2 (by omega) A0.out)
    obtain ⟨r0, r1, r2, r3, r4, r5⟩ := three_facts (keeps_below hb2 (by omega) R0.out)
    clear hb2 HC
    by_cases hneg : z < 0
    · go_wp2_with fail
      obtain ⟨q, z0, z1, z2⟩ := HFIN.out w2 HB2.out (.int .i64 0) (.string ⟨#[]⟩) (.slice none 0 0)
      refine bodyPost_ret (by simp [results, Tryz.results10, go_sem, z0, z1, z2]; try rfl) rfl ?_
      exact ⟨q, Or.inr (Or.inl ⟨HOK.out, by omega, rfl⟩)⟩
    · by_cases hge : (l.length : Int) ≤ z
      · go_wp2_with fail
        obtain ⟨q, z0, z1, z2⟩ := HFIN.out w2 HB2.out (.int .i64 0) (.string ⟨#[]⟩) (.slice none 0 0)
        refine bodyPost_ret (by simp [results, Tryz.results10, go_sem, z0, z1, z2]; try rfl) rfl ?_
        exact ⟨q, Or.inr (Or.inl ⟨HOK.out, by omega, rfl⟩)⟩
      · obtain ⟨j, rfl⟩ : ∃ j : Nat, z = j := ⟨z.toNat, by omega⟩
        have hj : j < l.length := by omega
        have HG := Lib.hid (show Good (gs l) from OkTo.good (by rw [gs_len]; exact HOK.out))
        have HE := Lib.hid (exp_any l a cap HG.out.down j 4000 w2 hj (by omega) (by omega) (HN.out.to HB2.out))
        go_wp2_with fail
        change Calls _ _ _ w2 _
        refine HE.out.mono ?_
        rintro e w3 ⟨rfl, rfl⟩
        by_cases hsz : szAt (gs l) j ≤ 4000
        · have hli : leftI (szAt (gs l) j) 4000 = 4000 - (szAt (gs l) j : Nat) := by unfold leftI; rw [if_pos (by omega)]
          rw [hli]
          have hsi : ((szAt (gs l) j : Nat) : Int) ≤ 4000 := by omega
          have HT := Lib.hid (expand_any l a cap HG.out.down j w2 hj hsz (HN.out.to HB2.out))
          clear hli
          go_wp2_with fail
          change Calls _ _ _ w2 _
          refine HT.out.mono ?_
          rintro e w4 ⟨ra, rc, rfl, hk4, ho4, hb4⟩
          have HB4 : Hid (Below W0.heap.size W0 w4) := HB2.out.trans (hb4.mono HB2.out.size)
          obtain ⟨s0, s1, s2, s3, s4, s5⟩ := three_facts (keeps_below HB4.out (by omega) R0.out)
          have HK4 := Lib.hid hk4
          have HO4 := Lib.hid ho4
          clear hk4 ho4 hb4 HT HE
          generalize hX : trAt (gs l) j = X at *
          have HXE := Lib.hid hX
          clear hX
          go_wp2_with fail
          obtain ⟨q, z0, z1, z2⟩ := HFIN.out w4 HB4.out (.int .i64 X.k) (.string X.t) (.slice ra X.c.length rc)
          refine bodyPost_ret (by simp [results, Tryz.results10, go_sem, z0, z1, z2]; try rfl) rfl ?_
          refine ⟨q, Or.inr (Or.inr (Or.inr ⟨HOK.out, by omega, by simpa using hsz, ra, rc, ?_, ?_, ?_⟩))⟩
          · rw [Int.toNat_natCast, HXE.out]
          · rw [Int.toNat_natCast, HXE.out]
            exact (HK4.out.kept (kept_set3 w4 (w.heap.size + 1) _ _ _ _ (fun b hb => by have := hb.1; omega))).up (fun b hb => by simp; exact hb.2) (Nat.le_refl _)
          · rw [Int.toNat_natCast, HXE.out]; exact HO4.out
        · have hli : leftI (szAt (gs l) j) 4000 = -1 := by unfold leftI; rw [if_neg (by omega)]
          rw [hli]
          go_wp2_with fail
          obtain ⟨q, z0, z1, z2⟩ := HFIN.out w2 HB2.out (.int .i64 0) (.string ⟨#[]⟩) (.slice none 0 0)
          refine bodyPost_ret (by simp [results, Tryz.results10, go_sem, z0, z1, z2]; try rfl) rfl ?_
          exact ⟨q, Or.inr (Or.inr (Or.inl ⟨HOK.out, by omega, by simp; omega, rfl⟩))⟩
  · have HC := Lib.hid (check_bad l a cap W0 HL.out HN.out hok)
    have HOK := Lib.hid hok
    clear hok
    go_enter Tryz.func10, Tryz.ntmps10
    go_wp2_with fail
    subst hW0
    change Calls _ _ _ ((w.alloc (oneBox (.slice a l.length cap))).alloc (treeBox 0 ⟨#[]⟩ (.slice none 0 0))) _
    generalize (w.alloc (oneBox (.slice a l.length cap))).alloc (treeBox 0 ⟨#[]⟩ (.slice none 0 0)) = W0 at *
    refine HC.out.mono ?_
    rintro e w2 ⟨rfl, hb2⟩
    have HB2 : Hid (Below W0.heap.size W0 w2) := hb2
    have hz2 := hb2.size
    have hz0 := HZ0.out
    obtain ⟨r0, r1, r2, r3, r4, r5⟩ := three_facts (keeps_below hb2 (by omega) R0.out)
    clear hb2 HC
    go_wp2_with fail
    obtain ⟨q, z0, z1, z2⟩ := HFIN.out w2 HB2.out (.int .i64 0) (.string ⟨#[]⟩) (.slice none 0 0)
    refine bodyPost_ret (by simp [results, Tryz.results10, go_sem, z0, z1, z2]; try rfl) rfl ?_
    exact ⟨q, Or.inl ⟨HOK.out, rfl⟩⟩
end Go.Proofs.YtbgahkicinkgfaaGreat
