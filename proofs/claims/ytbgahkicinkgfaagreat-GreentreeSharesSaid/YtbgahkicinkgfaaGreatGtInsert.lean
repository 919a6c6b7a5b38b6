/-
  Insert of the program, by its contract.
-/
import Derived.Test.YtbgahkicinkgfaaGreatGtAdd
import Derived.Test.YtbgahkicinkgfaaGreatGtIndex
import Derived.Test.YtbgahkicinkgfaaGreatGtSize
import Derived.Test.YtbgahkicinkgfaaGreatGtExpand
namespace Go.Proofs.YtbgahkicinkgfaaGreat
open Go.RowKit

theorem ownsRow_base' {w : World} {B B' e size n : Nat} {v : Value} {xs : List Value} (h : w.ownsRow B e size v n xs) (hb : B' ≤ B) : w.ownsRow B' e size v n xs :=
  ⟨h.1, h.2.imp id (fun ⟨g, cap, cur, q1, q2, q3⟩ => ⟨g, cap, cur, q1, Nat.le_trans hb q2, q3⟩)⟩
theorem map_no_cell {w : World} {b : Nat} {l : List G} (h : IdxAt w b l) (o : Nat) (z : Int) : w.cell? ⟨b, o, none⟩ ≠ some (.int .i64 z) := by
  obtain ⟨n, D, _, ⟨es, clock, hb, _⟩, _, _⟩ := h
  simp [World.cell?, hb]
theorem slice_no_int {w : World} {b : Nat} {v0 : Value} {t : TypeId} (h : w.heap[b]? = some (.cells #[v0] t (0, 0))) (hv : ∀ z, v0 ≠ .int .i64 z) (o : Nat) (z : Int) : w.cell? ⟨b, o, none⟩ ≠ some (.int .i64 z) := by
  rw [Lib.cell_of_heap h]
  cases o with
  | zero => intro e; exact hv z (by simpa using e)
  | succ o => simp

theorem Chl.off {w : World} {S : Nat → Prop} {l : List N} {b : Nat} (h : Chl w S l) (hb : ∀ o z, w.cell? ⟨b, o, none⟩ ≠ some (.int .i64 z)) : Chl w (fun i => S i ∧ i ≠ b) l := by
  intro x hx
  refine ⟨(h x hx).1, fun i z hz => ?_⟩
  obtain ⟨c, o, h1, h2, h3⟩ := (h x hx).2 i z hz
  refine ⟨c, o, h1, ⟨h2, fun e => ?_⟩, h3⟩
  rw [e] at h3
  exact hb _ _ h3

set_option maxRecDepth 100000 in
set_option maxHeartbeats 4000000 in
theorem insert_bad (l : List N) (a : Option Addr) (cap : Nat) (w : World) (x : Tree) (ta : Option Addr) (tc : Nat) (hlen : l.length ≤ 4000) (hn : Nodes w (· < w.heap.size) a l) (hok : ¬ OkTo (gs l) l.length) :
    Calls Tryz.prog 9 #[.agg #[.slice a l.length cap], tv x ta tc] w fun e w' => e = .returned (.tuple #[.agg #[.slice none 0 0], .int .i64 0, .int .i64 3]) ∧ Below w.heap.size w w' := by
  obtain ⟨W0, hW0⟩ : ∃ W0, W0 = ((w.alloc (oneBox (.slice a l.length cap))).alloc (treeBox x.k x.t (.slice ta x.c.length tc))).alloc (oneBox (.slice none 0 0)) := ⟨_, rfl⟩
  have HB0 : Hid (Below w.heap.size w W0) := by rw [hW0]; exact (((Below.refl _ _).alloc (Nat.le_refl _) _).alloc (by simp) _).alloc (by simp; omega) _
  have HZ0 : Hid (W0.heap.size = w.heap.size + 3) := by show _ = _; rw [hW0]; simp
  have R0 : Hid (W0.heap[w.heap.size + 2]? = some (.cells #[.slice none 0 0] 32 (0, 0))) := by
    have := heap_alloc_new ((w.alloc (oneBox (.slice a l.length cap))).alloc (treeBox x.k x.t (.slice ta x.c.length tc))) (oneBox (.slice none 0 0))
    rw [show ((w.alloc (oneBox (.slice a l.length cap))).alloc (treeBox x.k x.t (.slice ta x.c.length tc))).heap.size = w.heap.size + 2 from by simp] at this
    show _ = _
    rw [hW0]; exact this
  have HC := Lib.hid (index_bad l a cap W0 hlen (hn.to HB0.out) hok)
  clear hn hok hlen
  go_enter Tryz.func9, Tryz.ntmps9
  go_wp2_with fail
  subst hW0
  change Calls _ _ _ (((w.alloc (oneBox (.slice a l.length cap))).alloc (treeBox x.k x.t (.slice ta x.c.length tc))).alloc (oneBox (.slice none 0 0))) _
  refine HC.out.mono ?_
  rintro e w2 ⟨rfl, hb2⟩
  have hz2 := hb2.size
  have hz0 := HZ0.out
  have R2 := keeps_below hb2 (by omega) R0.out
  obtain ⟨c0, c1⟩ := one_facts R2
  have HBF : Hid (Below w.heap.size w (w2.setCell ⟨w.heap.size + 1 + 1, 0, none⟩ (.slice none 0 0))) := (HB0.out.trans (hb2.mono HB0.out.size)).setCell (p := ⟨w.heap.size + 1 + 1, 0, none⟩) (by simp; omega) _
  have HCF : Hid ((w2.setCell ⟨w.heap.size + 1 + 1, 0, none⟩ (.slice none 0 0)).cell? ⟨w.heap.size + 1 + 1, 0, none⟩ = some (.slice none 0 0)) := (one_facts (set_one0 (u := .slice none 0 0) R2)).1
  clear hb2 HC R0 R2
  go_wp2_with fail
  have z0 := HCF.out
  refine bodyPost_ret (by simp [results, Tryz.results9, go_sem, z0]; try rfl) rfl ?_
  exact ⟨rfl, HBF.out⟩

/-- What Insert leaves at a good arena. -/
def InsPost (l : List N) (x : Tree) (w : World) (e : Ending) (w' : World) : Prop :=
  (x.wf = false ∧ e = .returned (.tuple #[.agg #[.slice none 0 0], .int .i64 0, .int .i64 3]) ∧ Below w.heap.size w w') ∨
  (x.wf = true ∧ ∃ (l' : List N) (a' : Option Addr) (cap' : Nat), e = .returned (.tuple #[.agg #[.slice a' l'.length cap'], .int .i64 ((insT (gs l) x).2 : Nat), .int .i64 0]) ∧ gs l' = (insT (gs l) x).1 ∧ Nodes w' (· < w'.heap.size) a' l' ∧ Below w.heap.size w w')

set_option maxRecDepth 100000 in
set_option maxHeartbeats 4000000 in
theorem insert_ok (n : Nat) (l : List N) (a : Option Addr) (cap : Nat) (w : World) (x : Tree) (ta : Option Addr) (tc : Nat) (hsz : l.length + x.size ≤ 4000) (hht : x.height ≤ 200) (hn : Nodes w (· < w.heap.size) a l) (hok : OkTo (gs l) l.length)
    (hx : x.ok) (hk : Kids w (· < w.heap.size) n ta x.c) : Calls Tryz.prog 9 #[.agg #[.slice a l.length cap], tv x ta tc] w (InsPost l x w) := by
  obtain ⟨W0, hW0⟩ : ∃ W0, W0 = ((w.alloc (oneBox (.slice a l.length cap))).alloc (treeBox x.k x.t (.slice ta x.c.length tc))).alloc (oneBox (.slice none 0 0)) := ⟨_, rfl⟩
  have HB0 : Hid (Below w.heap.size w W0) := by rw [hW0]; exact (((Below.refl _ _).alloc (Nat.le_refl _) _).alloc (by simp) _).alloc (by simp; omega) _
  have HZ0 : Hid (W0.heap.size = w.heap.size + 3) := by show _ = _; rw [hW0]; simp
  have R0 : Hid (W0.heap[w.heap.size + 2]? = some (.cells #[.slice none 0 0] 32 (0, 0))) := by
    have := heap_alloc_new ((w.alloc (oneBox (.slice a l.length cap))).alloc (treeBox x.k x.t (.slice ta x.c.length tc))) (oneBox (.slice none 0 0))
    rw [show ((w.alloc (oneBox (.slice a l.length cap))).alloc (treeBox x.k x.t (.slice ta x.c.length tc))).heap.size = w.heap.size + 2 from by simp] at this
    show _ = _
    rw [hW0]; exact this
  have T0 : Hid (W0.heap[w.heap.size + 1]? = some (.cells #[.int .i64 x.k, .string x.t, .slice ta x.c.length tc] 25 (0, 0))) := by
    have := heap_alloc_new (w.alloc (oneBox (.slice a l.length cap))) (treeBox x.k x.t (.slice ta x.c.length tc))
    rw [show (w.alloc (oneBox (.slice a l.length cap))).heap.size = w.heap.size + 1 from by simp] at this
    show _ = _
    rw [hW0]; exact alloc_keeps _ this
  have A0 : Hid (W0.heap[w.heap.size]? = some (.cells #[.slice a l.length cap] 32 (0, 0))) := by
    show _ = _
    rw [hW0]; exact alloc_keeps _ (alloc_keeps _ (heap_alloc_new w _))
  have HC := Lib.hid (index_ok l a cap W0 (by omega) (hn.to HB0.out) hok)
  have HN := Lib.hid (hn.to HB0.out)
  have HK := Lib.hid hk
  have HX := Lib.hid hx
  have HSZ := Lib.hid hsz
  have HHT := Lib.hid hht
  have HG := Lib.hid (show Good (gs l) from OkTo.good (by rw [gs_len]; exact hok))
  have HL : Hid (x.c.length ≤ 4000) := by have := size_eq x; have := length_le_sizes x.c; show _ ≤ _; omega
  have hxs : (x.size : Int) ≤ 4000 := by omega
  clear hn hok hk hx hsz hht
  go_enter Tryz.func9, Tryz.ntmps9
  go_wp2_with fail
  subst hW0
  change Calls _ _ _ (((w.alloc (oneBox (.slice a l.length cap))).alloc (treeBox x.k x.t (.slice ta x.c.length tc))).alloc (oneBox (.slice none 0 0))) _
  generalize ((w.alloc (oneBox (.slice a l.length cap))).alloc (treeBox x.k x.t (.slice ta x.c.length tc))).alloc (oneBox (.slice none 0 0)) = W0 at *
  refine HC.out.mono ?_
  rintro e w2 ⟨mb, rfl, hi2, hm2, hb2⟩
  have HB2 : Hid (Below W0.heap.size W0 w2) := hb2
  have HI2 := Lib.hid hi2
  have HM2 := Lib.hid hm2
  have hz2 := hb2.size
  have hz0 := HZ0.out
  obtain ⟨c0, c1, c2, _⟩ := three_facts (keeps_below hb2 (by omega) T0.out)
  clear hb2 hi2 hm2 HC
  have HL2 := Lib.hid (left_any n x ta tc 4000 200 w2 hxs (by omega) (by have := HHT.out; omega) (by omega) HX.out ((HK.out.to HB0.out).to HB2.out))
  go_wp2_with fail
  change Calls _ _ _ w2 _
  refine HL2.out.mono ?_
  rintro e w3 ⟨rfl, hb3⟩
  have HB3 : Hid (Below W0.heap.size W0 w3) := HB2.out.trans (hb3.mono HB2.out.size)
  have HB23 : Hid (Below w2.heap.size w2 w3) := hb3
  have hz3 := hb3.size
  obtain ⟨d0, d1, d2, _⟩ := three_facts (keeps_below HB3.out (by omega) T0.out)
  have hg0 : ¬ (4000 - (x.size : Int) < 0) := by omega
  clear c0 c1 c2 hb3 HL2
  have HW3 := Lib.hid (wft_any n x ta tc w3 HX.out ((HK.out.to HB0.out).to HB3.out))
  go_wp2_with fail
  change Calls _ _ _ w3 _
  refine HW3.out.mono ?_
  rintro e w4 ⟨rfl, hb4⟩
  have HB4 : Hid (Below W0.heap.size W0 w4) := HB3.out.trans (hb4.mono HB3.out.size)
  have HB24 : Hid (Below w2.heap.size w2 w4) := HB23.out.trans (hb4.mono HB23.out.size)
  have hz4 := hb4.size
  have R4 := keeps_below HB4.out (by omega) R0.out
  clear d0 d1 d2 hb4 HW3
  cases hwf : x.wf with
  | false =>
    obtain ⟨c0, c1⟩ := one_facts R4
    have HBF : Hid (Below w.heap.size w (w4.setCell ⟨w.heap.size + 1 + 1, 0, none⟩ (.slice none 0 0))) := (HB0.out.trans (HB4.out.mono HB0.out.size)).setCell (p := ⟨w.heap.size + 1 + 1, 0, none⟩) (by simp; omega) _
    have HCF : Hid ((w4.setCell ⟨w.heap.size + 1 + 1, 0, none⟩ (.slice none 0 0)).cell? ⟨w.heap.size + 1 + 1, 0, none⟩ = some (.slice none 0 0)) := (one_facts (set_one0 (u := .slice none 0 0) R4)).1
    have HWF := Lib.hid hwf
    clear R4 hwf
    go_wp2_with fail
    have z0 := HCF.out
    refine bodyPost_ret (by simp [results, Tryz.results9, go_sem, z0]; try rfl) rfl ?_
    exact Or.inl ⟨HWF.out, rfl, HBF.out⟩
  | true =>
    have HWF := Lib.hid hwf
    clear hwf
    obtain ⟨a0, _⟩ := one_facts (keeps_below HB4.out (by omega) A0.out)
    have HC4 := Lib.hid (copy_any l a cap w4 (by have := HSZ.out; omega) (HN.out.to HB4.out))
    go_wp2_with fail
    change Calls _ _ _ w4 _
    refine HC4.out.mono ?_
    rintro e w5 ⟨v, l', rfl, hg5, ho5, hc5, hb5⟩
    obtain ⟨a5, cap5, rfl, _⟩ := OwnsN.nodes ho5 (hc5.sub (fun b hb => hb.1)) (S := (· < w5.heap.size)) (fun g hg => (World.ownsRow.lt ho5 g hg).2)
    have hz5 := hb5.size
    have HB5 : Hid (Below W0.heap.size W0 w5) := HB4.out.trans (hb5.mono HB4.out.size)
    have HB25 : Hid (Below w2.heap.size w2 w5) := HB24.out.trans (hb5.mono HB24.out.size)
    have R5 := keeps_below HB5.out (by omega) R0.out
    have T5 := keeps_below HB5.out (by omega) T0.out
    have hmb := HI2.out.lt
    have hm0 := HM2.out
    have hll : l'.length = l.length := by have := congrArg List.length hg5; simpa [gs] using this
    have hvl : ∀ g, (Value.slice a5 l'.length cap5).ownBlock = some g → w4.heap.size ≤ g ∧ g < w5.heap.size := fun g hg => World.ownsRow.lt ho5 g hg
    obtain ⟨W6, hW6⟩ : ∃ W6, W6 = w5.alloc (.cells #[.slice a5 l'.length cap5, .map (some mb)] 61) := ⟨_, rfl⟩
    have HB6 : Hid (Below w5.heap.size w5 W6) := by rw [hW6]; exact (Below.refl _ _).alloc (Nat.le_refl _) _
    have hz6 : W6.heap.size = w5.heap.size + 1 := by rw [hW6]; simp
    have HI6 : Hid (BInv W6 w.heap.size w5.heap.size mb (.slice a5 l'.length cap5) (fun b => (Off w5 (.slice a5 l'.length cap5) b ∧ b ≠ mb) ∧ b ≠ w.heap.size + 2) l') := by
      have hi5 := HI2.out.to HB25.out
      refine ⟨by rw [hW6]; exact heap_alloc_new w5 _, ?_, ((hc5.off (map_no_cell hi5)).off (slice_no_int R5 (by simp))).kept ((kept_below HB6.out).sub (fun b hb => hb.1.1.1)), ?_, by omega, by omega, by omega, fun e => by have := (hvl _ e).2; omega, fun e => by have := (hvl _ e).1; omega, ?_⟩
      · rw [hW6]; exact World.ownsRow.alloc (ownsRow_base' ho5 (by omega)) _
      · rw [hg5]; exact hi5.to HB6.out
      · intro b hb
        exact ⟨by have := hb.1.1.1; omega, by have := hb.1.1.1; omega, hb.1.2, hb.1.1.2⟩
    have HBW : Hid (Below w.heap.size w W6) := HB0.out.trans ((HB5.out.trans (HB6.out.mono HB5.out.size)).mono HB0.out.size)
    have HADD := Lib.hid (add_any n x ta tc l' w.heap.size w5.heap.size mb (.slice a5 l'.length cap5) _ W6 HX.out (HK.out.kept (kept_below HBW.out)) (by rw [hg5]; exact HG.out) (by have := HSZ.out; omega) (fun b hb => by have := hb.1.1.1; omega) HI6.out)
    obtain ⟨t0, t1, t2, _⟩ := three_facts T5
    have ht5 : w.heap.size + 1 < w5.heap.size := by omega
    have HLL := Lib.hid hll
    have R6 := keeps_below HB6.out (by omega) R5
    have HR6 := Lib.hid R6
    have HG5 := Lib.hid hg5
    have HVL := Lib.hid hvl
    clear ho5 hc5 hb5 HC4 a0 R4 R5 T5 R6 hg5 hvl HI6 hll
    go_wp2_with fail
    subst hW6
    change Calls _ _ _ (w5.alloc (.cells #[.slice a5 l'.length cap5, .map (some mb)] 61)) _
    generalize w5.alloc (.cells #[.slice a5 l'.length cap5, .map (some mb)] 61) = W6 at *
    refine HADD.out.mono ?_
    rintro e w7 ⟨v2, l2, rfl, hg7, hi7, ha7, hr7⟩
    have hs7 := ha7.size
    have ht7 := hi7.t
    obtain ⟨a7, cap7, rfl, hn7⟩ := OwnsN.nodes hi7.own (hi7.chl.sub (fun b hb => (ht7 b hb).1)) (S := (· < w7.heap.size)) (fun g hg => (hi7.vlt hg).2)
    have hn7' : ∃ a' cap', Value.slice a7 l2.length cap7 = .slice a' l2.length cap' ∧ Nodes w7 (fun b => b < w7.heap.size ∧ b ≠ w.heap.size + 2) a' l2 := by
      refine OwnsN.nodes hi7.own (hi7.chl.sub ?_) (fun g hg => ⟨(hi7.vlt hg).2, fun e => ?_⟩)
      · intro b hb
        refine ⟨(ht7 b hb).1, ?_⟩
        rcases hb with hb | hb
        · exact hb.2
        · omega
      · rcases hr7 g hg with q | q
        · have := (HVL.out g q).1; omega
        · omega
    obtain ⟨_, _, he, hN7⟩ := hn7'
    cases he
    have R7 : w7.heap[w.heap.size + 2]? = some (.cells #[.slice none 0 0] 32 (0, 0)) := (ha7.block _ (by omega) (by omega) (by omega) (fun e => by have := (HVL.out _ e).1; omega)).trans HR6.out
    have hgl : gs l2 = (insT (gs l) x).1 := by rw [hg7, HG5.out]
    have hidx : (insT (gs l') x).2 = (insT (gs l) x).2 := by rw [HG5.out]
    have hl2 : l2.length ≤ 4000 := by
      have := (insT_grown x (gs l)).1.len
      rw [← hgl, gs_len, gs_len] at this
      have := HSZ.out
      omega
    obtain ⟨b0, b1, _⟩ := two_facts hi7.b
    have HFIN : Hid (∀ u, Below w.heap.size w (w7.setCell ⟨w.heap.size + 1 + 1, 0, none⟩ u)) := by
      intro u
      have q : Below w.heap.size w w7 := by
        refine ⟨ha7.os.trans HBW.out.os, ha7.tape.trans HBW.out.tape, ha7.output.trans HBW.out.output, by omega, fun b hb => ?_⟩
        exact (ha7.block b (by omega) (by omega) (by omega) (fun e => by have := (HVL.out _ e).1; omega)).trans (HBW.out.block b hb)
      exact q.setCell (p := ⟨w.heap.size + 1 + 1, 0, none⟩) (by simp; omega) u
    have HNF : Hid (∀ u, Nodes (w7.setCell ⟨w.heap.size + 1 + 1, 0, none⟩ u) (· < (w7.setCell ⟨w.heap.size + 1 + 1, 0, none⟩ u).heap.size) a7 l2) := fun u =>
      (hN7.kept (kept_set w7 (w.heap.size + 1 + 1) 0 u _ (fun b hb => hb.2))).sub (fun b hb => by simp; exact hb.1)
    have HCF : Hid (∀ u, (w7.setCell ⟨w.heap.size + 1 + 1, 0, none⟩ u).cell? ⟨w.heap.size + 1 + 1, 0, none⟩ = some u) := fun u => (one_facts (set_one0 (u := u) R7)).1
    obtain ⟨r0, r1⟩ := one_facts R7
    have HGL := Lib.hid hgl
    have HIX := Lib.hid hidx
    clear HADD hg7 hi7 ha7 hr7 ht7 hn7 hN7 R7 hgl hidx
    have hbsz : w5.heap.size ≠ w.heap.size + 2 := by omega
    go_wp2_with fail
    have z0 := HCF.out (.slice a7 l2.length cap7)
    refine bodyPost_ret (by simp [results, Tryz.results9, go_sem, z0]; try rfl) rfl ?_
    exact Or.inr ⟨HWF.out, l2, a7, cap7, by rw [HIX.out], HGL.out, HNF.out _, HFIN.out _⟩
end Go.Proofs.YtbgahkicinkgfaaGreat
