/-
  expand of the program and ArenaTree of the reference, by their contracts.
-/
import Derived.Test.YtbgahkicinkgfaaGreatGtCopy
import Derived.Test.YtbgahkicinkgfaaGreatGtSame
import Derived.Deep.RegionLaw
namespace Go.Proofs.YtbgahkicinkgfaaGreat
open Go.RowKit
attribute [local go_sem ↓] Go.wp_at_zero Go.wp_at_succ

/-- Blocks made by a call, but the slice's own. -/
def New (B : Nat) (w : World) (v : Value) : Nat → Prop := fun b => B ≤ b ∧ b < w.heap.size ∧ v.ownBlock ≠ some b

theorem sumC_at {f : Nat → Nat} {c : List Int} {k j : Nat} (h : c[k]? = some (j : Int)) : f j ≤ sumC f c := by
  have h1 := sumC_take f h
  have h2 := sumC_take_le f c (k + 1)
  rw [Int.toNat_natCast] at h1
  omega

theorem length_le_sumC {f : Nat → Nat} (hf : ∀ j, 1 ≤ f j) (c : List Int) : c.length ≤ sumC f c := by
  induction c with
  | nil => simp [sumC]
  | cons x r ih =>
    have := hf x.toNat
    simp only [sumC, List.map_cons, List.foldr_cons, List.length_cons] at ih ⊢
    omega

theorem szAt_pos {l : List G} (i : Nat) : 1 ≤ szAt l i := by
  unfold szAt exS
  split <;> omega

theorem trAt_parts {l : List G} (hd : Down l) {i : Nat} {x : G} (hx : l[i]? = some x) : (trAt l i).k = x.k ∧ (trAt l i).t = x.t ∧ (trAt l i).c = x.c.map fun z => trAt l z.toNat := by
  rw [trAt_eq hd hx]; exact ⟨rfl, rfl, rfl⟩

/-- The trees of the first k children, made and owned. -/
def ExInv (l : List G) (B : Nat) (c : List Int) (n k : Nat) (v : Value) (ts : List (Tree × Option Addr × Nat)) (wr : World) : Prop :=
  ts.map Prod.fst = (c.take k).map (fun z => trAt l z.toNat) ∧ OwnsT wr B v ts ∧ Sub wr (New B wr v) n ts

theorem ExInv.len {l : List G} {B : Nat} {c : List Int} {n k : Nat} {v : Value} {ts : List (Tree × Option Addr × Nat)} {wr : World} (h : ExInv l B c n k v ts wr) (hk : k ≤ c.length) : ts.length = k := by
  have := congrArg List.length h.1
  simp at this
  omega

theorem ExInv.start (l : List G) (B : Nat) (c : List Int) (n : Nat) (wr : World) : ExInv l B c n 0 (.slice none 0 0) [] wr := ⟨rfl, World.ownsRow_nil _ _ _ _, Sub.nil _ _ _⟩

theorem ExInv.set {l : List G} {B : Nat} {c : List Int} {n k : Nat} {v : Value} {ts : List (Tree × Option Addr × Nat)} {wr : World} (h : ExInv l B c n k v ts wr) (q o : Nat) (u : Value) (hq : q < B) : ExInv l B c n k v ts (wr.setCell ⟨q, o, none⟩ u) := by
  obtain ⟨h1, h2, h3⟩ := h
  refine ⟨h1, owns_set h2 _ _ (fun e => by have := (World.ownsRow.lt h2 _ e).1; simp at this; omega), (h3.kept (kept_grown (grown_set wr ⟨q, o, none⟩ u) (fun b hb => ⟨hb.2.1, by have := hb.1; simp; omega⟩))).up (fun b hb => ⟨hb.1, by simp; exact hb.2.1, hb.2.2⟩) (Nat.le_refl _)⟩

theorem ExInv.step {l : List G} {B : Nat} {c : List Int} {n k j m : Nat} {v : Value} {ts : List (Tree × Option Addr × Nat)} {wr w2 wb w3 : World} {ra : Option Addr} {rc gg cap H : Nat}
    (h : ExInv l B c n k v ts wr) (hz : c[k]? = some (j : Int)) (hB : B ≤ wr.heap.size) (hb2 : Below wr.heap.size wr w2) (hk2 : Kids w2 (fun b => wr.heap.size ≤ b ∧ b < w2.heap.size) m ra (trAt l j).c) (hm : m ≤ n) (hok : (trAt l j).ok)
    (hwb : Below w2.heap.size w2 wb) (hgrow : wb.grownBy w3 v.ownBlock) (hat : v.ownBlock = some gg ∨ gg = H) (hH : w2.heap.size ≤ H)
    (hown : w3.ownsRow B 25 3 (.slice (some ⟨gg, 0, none⟩) (ts.length + 1) cap) (ts.length + 1) (tcells ts ++ [.int .i64 (trAt l j).k, .string (trAt l j).t, .slice ra (trAt l j).c.length rc])) :
    ExInv l B c n (k + 1) (.slice (some ⟨gg, 0, none⟩) (ts.length + 1) cap) (ts ++ [(trAt l j, ra, rc)]) w3 := by
  obtain ⟨h1, h2, h3⟩ := h
  have s2 := hb2.size
  have sb := hwb.size
  have s3 := hgrow.size
  have hv : ∀ g, v.ownBlock = some g → B ≤ g ∧ g < wr.heap.size := fun g hg => World.ownsRow.lt h2 g hg
  refine ⟨?_, ?_, ?_⟩
  · rw [List.take_add_one, hz, List.map_append, List.map_append, h1]
    simp
  · unfold OwnsT
    rw [tcells_append, List.length_append]
    exact hown
  · refine Sub.snoc ?_ hok ?_
    · refine (h3.kept (((kept_below hb2).sub (fun b hb => hb.2.1)).trans (((kept_below hwb).sub (fun b hb => by have := hb.2.1; omega)).trans (kept_grown hgrow (fun b hb => ⟨by have := hb.2.1; omega, fun e => hb.2.2 e.symm⟩))))).up (fun b hb => ⟨hb.1, by have := hb.2.1; omega, ?_⟩) (Nat.le_refl _)
      intro e
      have hge : gg = b := by simpa [Value.ownBlock] using e
      subst hge
      rcases hat with hat | hat
      · exact hb.2.2 hat
      · have := hb.2.1; omega
    · refine (hk2.kept (((kept_below hwb).sub (fun b hb => by have := hb.2; omega)).trans (kept_grown hgrow (fun b hb => ⟨by have := hb.2; omega, fun e => by have := (hv b e.symm).2; have := hb.1; omega⟩)))).up (fun b hb => ⟨by have := hb.1; omega, by have := hb.2; omega, ?_⟩) hm
      intro e
      have hge : gg = b := by simpa [Value.ownBlock] using e
      subst hge
      rcases hat with hat | hat
      · have := (hv gg hat).2; have := hb.1; omega
      · have := hb.2; omega

theorem kept_set (w : World) (q o : Nat) (u : Value) (S : Nat → Prop) (h : ∀ b, S b → b ≠ q) : Kept S w (w.setCell ⟨q, o, none⟩ u) := fun b _ hb =>
  World.cell?_of_block (heap_setCell_other w ⟨q, o, none⟩ b u (h b hb))
theorem kept_set3 (w : World) (q : Nat) (u0 u1 u2 : Value) (S : Nat → Prop) (h : ∀ b, S b → b ≠ q) : Kept S w (((w.setCell ⟨q, 0, none⟩ u0).setCell ⟨q, 1, none⟩ u1).setCell ⟨q, 2, none⟩ u2) :=
  ((kept_set w q 0 u0 S h).trans (kept_set _ q 1 u1 S h)).trans (kept_set _ q 2 u2 S h)

set_option maxRecDepth 100000 in
set_option maxHeartbeats 4000000 in
theorem expand_any (l : List N) (a : Option Addr) (cap : Nat) (hd : Down (gs l)) : ∀ (i : Nat) (w : World), i < l.length → szAt (gs l) i ≤ 4000 → Nodes w (· < w.heap.size) a l →
    Calls Tryz.prog 25 #[.slice a l.length cap, .int .i64 i] w fun e w' => ∃ ra rc, e = .returned (tv (trAt (gs l) i) ra rc) ∧ Kids w' (fun b => w.heap.size ≤ b ∧ b < w'.heap.size) (i + 1) ra (trAt (gs l) i).c ∧ (trAt (gs l) i).ok ∧ Below w.heap.size w w' := by
  intro i
  induction i using Nat.strongRecOn with
  | ind i ih =>
  intro w hi hsz hn
  obtain ⟨i0, ii, iz0, iz1, iz2⟩ := info_parts info_tree
  obtain ⟨x, hX⟩ : ∃ x, l[i]? = some x := ⟨_, List.getElem?_eq_getElem hi⟩
  obtain ⟨⟨o1, o2, o3, hc8, o5, o6⟩, b, o, rfl, _, q0, q1, q2, q3, qI⟩ := hn i x hX
  obtain ⟨xa, hxa⟩ : ∃ xa, xa = x.a := ⟨_, rfl⟩
  rw [← hxa] at q3 qI
  clear hxa o6
  obtain ⟨tk, tt, tc⟩ := trAt_parts hd (gs_at hX)
  have HP : Hid ((trAt (gs l) i).k = x.g.k ∧ (trAt (gs l) i).t = x.g.t ∧ (trAt (gs l) i).c = x.g.c.map fun z => trAt (gs l) z.toNat) := ⟨tk, tt, tc⟩
  have hsum : sumC (szAt (gs l)) x.g.c ≤ 3999 := by have := szAt_eq hd (gs_at hX); omega
  have hcl : x.g.c.length ≤ 3999 := Nat.le_trans (length_le_sumC (fun j => szAt_pos j) _) hsum
  have HSUM := Lib.hid hsum
  have HR := Lib.hid (hd i x.g (gs_at hX))
  have H2 := Lib.hid qI
  have HN := Lib.hid hn
  have HOK : Hid (I64 x.g.k ∧ x.g.t.size ≤ maxLen) := ⟨o1, o3⟩
  have hi0 : (0 : Int) ≤ (i : Int) := by omega
  have hi1 : (i : Int) < (l.length : Int) := by omega
  have hc0 : (x.g.c.length : Int) ≤ 3999 := by omega
  clear qI hX hn tk tt tc hsum hsz o1 o2 o3 o5 hc8
  go_enter Tryz.func25, Tryz.ntmps25
  go_wp2_with fail
  obtain ⟨W0, hW0⟩ : ∃ W0, W0 = ((w.alloc (treeBox 0 ⟨#[]⟩ (.slice none 0 0))).alloc (nodeBox x.g.k x.g.w x.g.t (.slice xa x.g.c.length x.cap))).alloc (treeBox x.g.k x.g.t (.slice none 0 0)) := ⟨_, rfl⟩
  have HB0 : Hid (Below w.heap.size w W0) := by rw [hW0]; exact (((Below.refl _ _).alloc (Nat.le_refl _) _).alloc (by simp) _).alloc (by simp; omega) _
  have HZ0 : Hid (W0.heap.size = w.heap.size + 3) := by rw [hW0]; show _ = _; simp
  have HG0 : Hid (W0.heap[w.heap.size]? = some (.cells #[.int .i64 0, .string ⟨#[]⟩, .slice none 0 0] 25 (0, 0))) := by
    rw [hW0]; exact alloc_keeps _ (alloc_keeps _ (heap_alloc_new w _))
  have HG2 : Hid (W0.heap[w.heap.size + 2]? = some (.cells #[.int .i64 x.g.k, .string x.g.t, .slice none 0 0] 25 (0, 0))) := by
    rw [hW0]
    have := heap_alloc_new ((w.alloc (treeBox 0 ⟨#[]⟩ (.slice none 0 0))).alloc (nodeBox x.g.k x.g.w x.g.t (.slice xa x.g.c.length x.cap))) (treeBox x.g.k x.g.t (.slice none 0 0))
    rwa [show ((w.alloc (treeBox 0 ⟨#[]⟩ (.slice none 0 0))).alloc (nodeBox x.g.k x.g.w x.g.t (.slice xa x.g.c.length x.cap))).heap.size = w.heap.size + 2 from by simp] at this
  go_loopw [21] (fun p wr => ∃ (k : Nat) (v : Value) (ts : List (Tree × Option Addr × Nat)), k ≤ x.g.c.length ∧ p = .int .i64 k ∧ Hid (ExInv (gs l) (w.heap.size + 3) x.g.c i k v ts wr) ∧ Hid (wr.heap[w.heap.size + 2]? = some (.cells #[.int .i64 x.g.k, .string x.g.t, v] 25 (0, 0))) ∧
      Hid (wr.heap[w.heap.size]? = some (.cells #[.int .i64 0, .string ⟨#[]⟩, .slice none 0 0] 25 (0, 0))) ∧ Hid (Below w.heap.size w wr) ∧ w.heap.size + 3 ≤ wr.heap.size)
    (fun p _ => x.g.c.length - (intOf p).toNat)
  case atStart =>
    refine ⟨0, _, [], Nat.zero_le _, rfl, ExInv.start _ _ _ _ _, ?_, ?_, ?_, ?_⟩
    · have := HG2.out; rw [hW0] at this; exact this
    · have := HG0.out; rw [hW0] at this; exact this
    · have := HB0.out; rw [hW0] at this; exact this
    · have := HZ0.out; rw [hW0] at this; exact Nat.le_of_eq this.symm
  case round =>
    clear hW0
    obtain ⟨k, v, ts, hk, rfl, hinv, hG2, hG0, hbw, hszr⟩ := hrel
    by_cases hlt : k < x.g.c.length
    · have hz : x.g.c[k]? = some x.g.c[k] := List.getElem?_eq_getElem hlt
      obtain ⟨z, hZ⟩ : ∃ y, y = x.g.c[k] := ⟨_, rfl⟩
      rw [← hZ] at hz
      clear hZ
      obtain ⟨j, rfl, hj⟩ := inR_at HR.out hz
      obtain ⟨bb, oo, rfl, hbb, g0⟩ := (H2.out.to hbw.out) k _ hz
      have HZ := Lib.hid hz
      have hsj : szAt (gs l) j ≤ 4000 := by have := sumC_at (f := szAt (gs l)) hz; have := HSUM.out; omega
      have hjl : j < l.length := by omega
      have hk0 : (0 : Int) ≤ (k : Int) := by omega
      have hk1 : (k : Int) < (x.g.c.length : Int) := by omega
      obtain ⟨_, _, f2, _, _, f5⟩ := three_facts hG2.out
      have htl : ts.length ≤ 3999 := by have := hinv.out.len hk; omega
      have hown := Lib.hid hinv.out.2.1
      have HNr := Lib.hid (HN.out.to hbw.out)
      have J := Lib.hid (fun W (hW : Below wr.heap.size wr W) => ih j hj W hjl hsj (HNr.out.to hW))
      have HSS : Hid (∀ W, Below wr.heap.size wr W → W.cell? ⟨w.heap.size + 1 + 1, 2, none⟩ = some v ∧ W.frozen? ⟨w.heap.size + 1 + 1, 2, none⟩ = false) := fun W hW =>
        ⟨(hW.cell (p := ⟨_, _, none⟩) (by simp; omega)).trans f2, (hW.frozen (p := ⟨_, _, none⟩) (by simp; omega)).trans f5⟩
      have hvb : Hid (v.ownBlock ≠ some (w.heap.size + 1 + 1)) := fun e => by have := (World.ownsRow.lt hown.out _ e).1; omega
      clear hz
      go_wp2_with fail
      have f2' : wr.cell? ⟨w.heap.size + 1 + 1, 2, none⟩ = some v := f2
      have f6 : w.heap.size + 1 + 1 < wr.heap.size := by omega
      go_region_law (first
          | (refine step_wanted (by rfl) ?_; go_simp; go_at_call 25; refine (J.out _ ?_).mono ?_; (repeat' (first | with_reducible exact Below.refl _ _ | with_reducible refine Below.drew ?_)); rintro e w2 ⟨ra, rc, rfl, hk2, hok2, q2⟩; have q3 : Below wr.heap.size wr w2 := below_drew' q2; have g2 := (HSS.out w2 q3).1; have g3 : w.heap.size + 1 + 1 < w2.heap.size := Nat.lt_of_lt_of_le f6 q3.size)
          | (refine step_append_lies _ (by rfl) _ _ _ (by rfl) (w.heap.size + 3) 25 i0 _ 3 48 Tryz.underlying23 ii iz0 iz1 iz2 rfl (by omega) _ ts.length (tcells ts) (by rfl) ((owns_below hown.out q3).alloc _) ⟨w2.heap.size, 0, none⟩ 1 1 [.int .i64 (trAt (gs l) j).k, .string (trAt (gs l) j).t, .slice ra (trAt (gs l) j).c.length rc] (by rfl) (by rfl) (World.news_of_block (heap_alloc_new w2 _)) (by simp [Value.oneCell']) (by omega) (by unfold maxLen; omega) (by omega) (by have := q3.size; simp; omega) (w2.heap.size + 1) (by simp) ?_; intro gg cap2 w3 hown3 hgrow3 hat hlt3; have hS3 : w3.frozen? ⟨w.heap.size + 1 + 1, 2, none⟩ = false := (hgrow3.frozen_far _ (by have := q3.size; simp; omega) (Ne.symm hvb.out)).trans (HSS.out _ (Below.alloc q3 q3.size _)).2; have g4 : w3.cell? ⟨w.heap.size + 1 + 1, 2, none⟩ = some v := (hgrow3.cell_far _ (by have := q3.size; simp; omega) (Ne.symm hvb.out)).trans (HSS.out _ (Below.alloc q3 q3.size _)).1))
      all_goals
        have hsz2 := q3.size
        have hsz3 := hgrow3.size
        simp at hsz3
        have hwb : Below w2.heap.size w2 (w2.alloc (.cells #[.int .i64 (trAt (gs l) j).k, .string (trAt (gs l) j).t, .slice ra (trAt (gs l) j).c.length rc] 25)) := (Below.refl _ _).alloc (Nat.le_refl _) _
        have hi1' : Hid (ExInv (gs l) (w.heap.size + 3) x.g.c i (k + 1) (.slice (some ⟨gg, 0, none⟩) (ts.length + 1) cap2) (ts ++ [(trAt (gs l) j, ra, rc)]) (w3.setCell ⟨w.heap.size + 1 + 1, 2, none⟩ (.slice (some ⟨gg, 0, none⟩) (ts.length + 1) cap2))) :=
          (ExInv.step hinv.out HZ.out hszr q3 hk2 (by omega) hok2 hwb hgrow3 hat (Nat.le_succ _) hown3).set _ _ _ (by omega)
        have keep3 : ∀ q ob, q < wr.heap.size → v.ownBlock ≠ some q → wr.heap[q]? = some ob → w3.heap[q]? = some ob := fun q ob hq hne h =>
          (hgrow3.block q (by simp; omega) (Ne.symm hne)).trans (alloc_keeps _ (keeps_below q3 hq h))
        have hG2' : Hid ((w3.setCell ⟨w.heap.size + 1 + 1, 2, none⟩ (.slice (some ⟨gg, 0, none⟩) (ts.length + 1) cap2)).heap[w.heap.size + 2]? = some (.cells #[.int .i64 x.g.k, .string x.g.t, .slice (some ⟨gg, 0, none⟩) (ts.length + 1) cap2] 25 (0, 0))) :=
          set_three2 (keep3 _ _ (by omega) hvb.out hG2.out)
        have hG0' : Hid ((w3.setCell ⟨w.heap.size + 1 + 1, 2, none⟩ (.slice (some ⟨gg, 0, none⟩) (ts.length + 1) cap2)).heap[w.heap.size]? = some (.cells #[.int .i64 0, .string ⟨#[]⟩, .slice none 0 0] 25 (0, 0))) :=
          (heap_setCell_other w3 _ _ _ (by simp; omega)).trans (keep3 _ _ (by omega) (fun e => by have := (World.ownsRow.lt hown.out _ e).1; omega) hG0.out)
        have hB' : Hid (Below w.heap.size w (w3.setCell ⟨w.heap.size + 1 + 1, 2, none⟩ (.slice (some ⟨gg, 0, none⟩) (ts.length + 1) cap2))) :=
          (((hbw.out.trans (q3.mono hbw.out.size)).alloc (by omega) _).grown hgrow3 (by simp; omega) (fun q hq => by have := (World.ownsRow.lt hown.out q hq).1; omega)).setCell (by simp; omega) _
        have hsz' : w.heap.size + 3 ≤ (w3.setCell ⟨w.heap.size + 1 + 1, 2, none⟩ (.slice (some ⟨gg, 0, none⟩) (ts.length + 1) cap2)).heap.size := by simp; omega
        clear hwb keep3 hown3 hgrow3 hat hS3 g2 g3 g4 q2 q3 hk2 hok2 hsz2 hsz3 hlt3 J HSS hvb hinv hG2 hG0 hbw f2 f2' f5 f6
        generalize w3.setCell ⟨w.heap.size + 1 + 1, 2, none⟩ (.slice (some ⟨gg, 0, none⟩) (ts.length + 1) cap2) = w4 at *
        go_wp2_with fail
        go_roundw
        case rel => exact ⟨k + 1, _, _, by omega, by go_num, hi1', hG2', hG0', hB', hsz'⟩
        case measure => simp [intOf]; omega
    · obtain rfl : k = x.g.c.length := by omega
      obtain ⟨ra, rc, hv, hkids⟩ := OwnsT.kids (S := fun b => w.heap.size + 3 ≤ b ∧ b < wr.heap.size) hinv.out.2.1 (hinv.out.2.2.up (fun b hb => ⟨hb.1, hb.2.1⟩) (Nat.le_refl _)) (fun g hg => World.ownsRow.lt hinv.out.2.1 g hg)
      have hcs : ts.map Prod.fst = (trAt (gs l) i).c := by
        rw [hinv.out.1, List.take_length, HP.out.2.2]
      have hlen : ts.length = x.g.c.length := hinv.out.len (Nat.le_refl _)
      rw [hcs] at hkids
      have hcl2 : (trAt (gs l) i).c.length = x.g.c.length := by rw [HP.out.2.2, List.length_map]
      rw [hlen] at hv
      subst hv
      have HKIDS := Lib.hid hkids
      have HOKT : Hid ((trAt (gs l) i).ok) := ⟨by rw [HP.out.1]; exact HOK.out.1, by rw [HP.out.2.1]; exact HOK.out.2, by rw [hcl2]; unfold maxLen; omega⟩
      have HTV : Hid (tv (trAt (gs l) i) ra rc = .agg #[.int .i64 x.g.k, .string x.g.t, .slice ra x.g.c.length rc]) := by
        show _ = _
        unfold tv
        rw [HP.out.1, HP.out.2.1, hcl2]
      obtain ⟨f0, f1, f2, _, _, _⟩ := three_facts hG2.out
      obtain ⟨e0, e1, e2, e3, e4, e5⟩ := three_facts hG0.out
      have hS := Lib.hid (fun u0 u1 u2 => three_facts (set_three (u0 := u0) (u1 := u1) (u2 := u2) hG0.out))
      have hB3 : Hid (∀ u0 u1 u2, Below w.heap.size w (((wr.setCell ⟨w.heap.size, 0, none⟩ u0).setCell ⟨w.heap.size, 1, none⟩ u1).setCell ⟨w.heap.size, 2, none⟩ u2)) := fun u0 u1 u2 =>
        ((hbw.out.setCell (p := ⟨w.heap.size, 0, none⟩) (Nat.le_refl _) u0).setCell (p := ⟨w.heap.size, 1, none⟩) (Nat.le_refl _) u1).setCell (p := ⟨w.heap.size, 2, none⟩) (Nat.le_refl _) u2
      have hK3 : Hid (∀ u0 u1 u2, Kids (((wr.setCell ⟨w.heap.size, 0, none⟩ u0).setCell ⟨w.heap.size, 1, none⟩ u1).setCell ⟨w.heap.size, 2, none⟩ u2) (fun b => w.heap.size ≤ b ∧ b < (((wr.setCell ⟨w.heap.size, 0, none⟩ u0).setCell ⟨w.heap.size, 1, none⟩ u1).setCell ⟨w.heap.size, 2, none⟩ u2).heap.size) (i + 1) ra (trAt (gs l) i).c) := fun u0 u1 u2 =>
        (HKIDS.out.kept (kept_set3 wr w.heap.size u0 u1 u2 _ (fun b hb => by have := hb.1; omega))).up (fun b hb => ⟨by have := hb.1; omega, by simp; exact hb.2⟩) (Nat.le_refl _)
      clear hkids hcs hlen hcl2 hinv hG2 hG0 hbw
      have f0' : wr.cell? ⟨w.heap.size + 1 + 1, 0, none⟩ = some (.int .i64 x.g.k) := f0
      have f1' : wr.cell? ⟨w.heap.size + 1 + 1, 1, none⟩ = some (.string x.g.t) := f1
      have f2' : wr.cell? ⟨w.heap.size + 1 + 1, 2, none⟩ = some (.slice ra x.g.c.length rc) := f2
      go_wp2_with fail
      obtain ⟨z0, z1, z2, _, _, _⟩ := hS.out (.int .i64 x.g.k) (.string x.g.t) (.slice ra x.g.c.length rc)
      refine bodyPost_ret (by simp [results, Tryz.results25, go_sem, z0, z1, z2]; try rfl) rfl ?_
      exact ⟨ra, rc, by rw [HTV.out], hK3.out _ _ _, HOKT.out, hB3.out _ _ _⟩
end Go.Proofs.YtbgahkicinkgfaaGreat
