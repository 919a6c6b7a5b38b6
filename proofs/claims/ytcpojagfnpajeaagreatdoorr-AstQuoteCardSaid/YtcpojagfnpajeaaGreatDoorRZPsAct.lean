/-
  What only looks at the tokens ahead: peek, atEnd, at, atName, startsItem, precedence and the tests of what can start here.
  The parser's add: a child more, by its contract.
  The parser's node: a node with the children that a function value adds, by its contract.
  takeTo, take, accept, expect, expectName and the marks of what is missing, by their contracts.
  The parser's wrap: the last child becomes the first child of a new node, by its contract.
-/
import Derived.Test.YtcpojagfnpajeaaGreatDoorRZPsBase
import Derived.Test.YtcpojagfnpajeaaGreatDoorRZGtHeld
import Derived.Laws.OwnMore
import Derived.Deep.RegionLaw
import Derived.Deep.DeepCutAuto
import Derived.Test.YtcpojagfnpajeaaGreatDoorRZGtSlim
import Derived.Laws.EntriesVeiled
import Derived.Shelf.Abstract
namespace Go.Proofs.YtcpojagfnpajeaaGreatDoorR.Ps
open Go.RowKit
attribute [local go_sem ↓] Go.wp_at_zero Go.wp_at_succ

abbrev tkv (t : Tk) : Value := .agg #[.int .i64 t.1, .string (Lx.bs t.2)]

/-- What peek reads. -/
theorem PSG.peek {E : Env} {A : Ho} {s : S} {w : World} {k : Nat} {aa : Option Addr} {ac : Nat} {v : Value} {l : List (Tree × Option Addr × Nat)} {m : Nat} (h : PSG E A s w k aa ac v l m) {n : Nat} (hn : n < (sigs s.rest).length) :
    ∃ ab ao tb tq j, aa = some ⟨ab, ao, none⟩ ∧ E.ta = some ⟨tb, tq, none⟩ ∧ w.cell? ⟨ab, ao + n, none⟩ = some (.int .i64 (j : Nat)) ∧ j < E.tk.length ∧ w.cell? ⟨tb, tq + j * 2, none⟩ = some (.int .i64 (pk s.rest n).1) ∧ w.cell? ⟨tb, tq + j * 2 + 1, none⟩ = some (.string (Lx.bs (pk s.rest n).2)) ∧
      ab < w.heap.size ∧ tb < w.heap.size := by
  obtain ⟨t, ht⟩ : ∃ t, (sigs s.rest)[n]? = some t := ⟨_, List.getElem?_eq_getElem hn⟩
  have hp : pk s.rest n = t := by unfold pk; rw [ht]; rfl
  obtain ⟨j, h1, h2⟩ := idxs_at (k := k) ht
  obtain ⟨ab, ao, e1, e2, e3⟩ := h.ints n _ h1
  rw [h.rest, List.getElem?_drop] at h2
  obtain ⟨tb, tq, f1, f2, f3, f4⟩ := h.tks (k + j) _ h2
  rw [hp]
  exact ⟨ab, ao, tb, tq, k + j, e1, f1, e3, (List.getElem?_eq_some_iff.1 h2).1, f3, f4, h.lt _ (h.base _ e2), h.lt _ (h.base _ f2)⟩

theorem PSG.sl {E : Env} {A : Ho} {s : S} {w : World} {k : Nat} {aa : Option Addr} {ac : Nat} {v : Value} {l : List (Tree × Option Addr × Nat)} {m : Nat} (h : PSG E A s w k aa ac v l m) : (sigs s.rest).length ≤ 1000000 := by
  have h1 : (sigs s.rest).length ≤ s.rest.length := List.length_filter_le _ _
  have h2 : s.rest.length = E.tk.length - k := by rw [h.rest, List.length_drop]
  have := h.tl
  omega

theorem pk_end {ρ : List Tk} {n : Nat} (h : (sigs ρ).length ≤ n) : pk ρ n = (100, []) := by
  unfold pk
  rw [List.getElem?_eq_none h]; rfl

theorem two_new (w : World) (u v : Value) (t : TypeId) : (w.alloc (.cells #[u, v] t)).cell? ⟨w.heap.size, 0, none⟩ = some u ∧ (w.alloc (.cells #[u, v] t)).cell? ⟨w.heap.size, 1, none⟩ = some v := by
  have h := heap_alloc_new w (.cells #[u, v] t)
  exact ⟨by rw [Lib.cell_of_heap h]; rfl, by rw [Lib.cell_of_heap h]; rfl⟩

set_option maxRecDepth 100000 in
theorem peek_any (E : Env) (n : Nat) (hn : n ≤ 2) (A : Ho) (w0 w : World) (s : S) (h : At E A w0 s w) :
    Calls Tryz.prog 154 #[P E, .int .i64 n] w fun e w' => e = .returned (.agg #[.int .i64 (pk s.rest n).1, .string (Lx.bs (pk s.rest n).2)]) ∧ At E A w0 s w' := by
  obtain ⟨⟨k, aa, ac, v, l, m, hp⟩, hf⟩ := h
  have H : Hid (At E A w0 s w) := ⟨⟨k, aa, ac, v, l, m, hp⟩, hf⟩
  obtain ⟨c0, c1, c2, c3, _⟩ := four_cells hp.hb
  have hlb := hp.lb
  have htl := hp.tl
  have hsl := hp.sl
  by_cases hlt : n < (sigs s.rest).length
  · obtain ⟨ab, ao, tb, tq, j, e1, e2, e3, e4, e5, e6, e7, e8⟩ := hp.peek hlt
    rw [e1] at c2
    rw [e2] at c0
    have q1 : (n : Int) < ((sigs s.rest).length : Int) := by omega
    have q2 : (j : Int) < (E.tk.length : Int) := by omega
    have q3 : (0 : Int) ≤ (n : Int) := by omega
    have q4 : (0 : Int) ≤ (j : Int) := by omega
    have HT : Hid (∃ t : Tk, t = pk s.rest n) := ⟨_, rfl⟩
    generalize pk s.rest n = t at *
    generalize (sigs s.rest).length = sl at *
    generalize E.tk.length = tl at *
    clear hp hf e1 e2 c1 c3 HT
    go_enter Tryz.func154, Tryz.ntmps154
    go_wp2_with fail
    go_region
    all_goals
      go_wp2_with fail
      have z0 : (w.alloc (.cells #[.int .i64 t.1, .string (Lx.bs t.2)] 69)).drew.cell? ⟨w.heap.size, 0, none⟩ = some (.int .i64 t.1) := (two_new _ _ _ _).1
      have z1 : (w.alloc (.cells #[.int .i64 t.1, .string (Lx.bs t.2)] 69)).drew.cell? ⟨w.heap.size, 1, none⟩ = some (.string (Lx.bs t.2)) := (two_new _ _ _ _).2
      refine bodyPost_ret (by simp [results, Tryz.results154, go_sem, z0, z1]; try rfl) rfl ?_
      exact ⟨rfl, (H.out.alloc _).drew⟩
  · rw [pk_end (by omega)]
    have q1 : ((sigs s.rest).length : Int) ≤ (n : Int) := by omega
    generalize (sigs s.rest).length = sl at *
    clear hp hf c0 c1 c3
    go_enter Tryz.func154, Tryz.ntmps154
    go_wp2_with fail
    have z0 : (w.alloc (.cells #[.int .i64 100, .string ⟨#[]⟩] 69)).cell? ⟨w.heap.size, 0, none⟩ = some (.int .i64 100) := (two_new _ _ _ _).1
    have z1 : (w.alloc (.cells #[.int .i64 100, .string ⟨#[]⟩] 69)).cell? ⟨w.heap.size, 1, none⟩ = some (.string ⟨#[]⟩) := (two_new _ _ _ _).2
    refine bodyPost_ret (by simp [results, Tryz.results154, go_sem, z0, z1]; try rfl) rfl ?_
    exact ⟨rfl, H.out.alloc _⟩

set_option maxRecDepth 100000 in
theorem atEnd_any (E : Env) (A : Ho) (w0 w : World) (s : S) (c : Bool) (hc : atEnd s = c) (h : At E A w0 s w) : Calls Tryz.prog 93 #[P E] w fun e w' => e = .returned (.bool c) ∧ At E A w0 s w' := by
  obtain ⟨⟨k, aa, ac, v, l, m, hp⟩, hf⟩ := h
  have H : Hid (At E A w0 s w) := ⟨⟨k, aa, ac, v, l, m, hp⟩, hf⟩
  obtain ⟨c0, c1, c2, c3, _⟩ := four_cells hp.hb
  have hlb := hp.lb
  have hsl := hp.sl
  have HC : Hid ((((sigs s.rest).length : Int) == 0) = c) := by
    show _ = _
    rw [← hc, atEnd]
    cases sigs s.rest with
    | nil => rfl
    | cons t r => simp; omega
  generalize (sigs s.rest).length = sl at *
  clear hp hf c0 c1 c3 hc
  go_enter Tryz.func93, Tryz.ntmps93
  go_wp2_with fail
  go_ret
  exact ⟨by rw [← HC.out]; rfl, H.out⟩

/-- Strings as bytes. -/
theorem bs_beq (x y : List UInt8) : ((Lx.bs x).toList == (Lx.bs y).toList) = (x == y) := by
  rw [Bool.eq_iff_iff]
  simp only [beq_iff_eq, ByteArray.toList_eq]
  constructor
  · intro h; have h1 := Lx.L_bs x; have h2 := Lx.L_bs y; unfold Lx.L at h1 h2; rw [← h1, h, h2]
  · rintro rfl; rfl

/-- A token's fields. -/
theorem run_field0 (q : Int) (y : ByteArray) (W : World) : (Instr.field 69 (.agg #[.int .i64 q, .string y]) 0).run Tryz.prog W = .ok (.int .i64 q) W := by kernel_rfl
theorem run_field1 (q : Int) (y : ByteArray) (W : World) : (Instr.field 69 (.agg #[.int .i64 q, .string y]) 1).run Tryz.prog W = .ok (.string y) W := by kernel_rfl

set_option maxRecDepth 100000 in
theorem at_any (E : Env) (x : ByteArray) (X : List UInt8) (hX : x = Lx.bs X) (A : Ho) (w0 w : World) (s : S) (c : Bool) (hc : atB X s = c) (h : At E A w0 s w) :
    Calls Tryz.prog 164 #[P E, .string x] w fun e w' => e = .returned (.bool c) ∧ At E A w0 s w' := by
  have K := Lib.hid (peek_any E 0 (by omega) A w0 w s h)
  have HC : Hid (((Lx.bs (pk s.rest 0).2).toList == x.toList) = c) := by show _ = _; rw [hX, bs_beq]; exact hc
  clear hc hX
  generalize Lx.bs (pk s.rest 0).2 = y at *
  generalize (pk s.rest 0).1 = q at *
  go_enter Tryz.func164, Tryz.ntmps164
  have r1 := run_field1 q y
  go_wp2_with fail
  refine K.out.mono ?_
  rintro e w1 ⟨rfl, h1⟩
  have H1 := Lib.hid h1
  clear K h h1
  go_wp2_with fail
  go_ret
  exact ⟨by rw [← HC.out]; rfl, H1.out⟩

set_option maxRecDepth 100000 in
theorem atName_any (E : Env) (A : Ho) (w0 w : World) (s : S) (c : Bool) (hc : atName s = c) (h : At E A w0 s w) : Calls Tryz.prog 222 #[P E] w fun e w' => e = .returned (.bool c) ∧ At E A w0 s w' := by
  have K := Lib.hid (peek_any E 0 (by omega) A w0 w s h)
  have HC : Hid (((pk s.rest 0).1 == 103) = c) := hc
  clear hc
  generalize Lx.bs (pk s.rest 0).2 = y at *
  generalize (pk s.rest 0).1 = q at *
  have r1 := run_field0 q y
  go_enter Tryz.func222, Tryz.ntmps222
  go_wp2_with fail
  refine K.out.mono ?_
  rintro e w1 ⟨rfl, h1⟩
  have H1 := Lib.hid h1
  clear K h h1
  go_wp2_with fail
  go_ret
  exact ⟨by rw [← HC.out]; rfl, H1.out⟩
end Go.Proofs.YtcpojagfnpajeaaGreatDoorR.Ps

namespace Go.Proofs.YtcpojagfnpajeaaGreatDoorR.Ps
open Go.RowKit

abbrev tcell (x : Tree) (ra : Option Addr) (rc : Nat) : List Value := [.int .i64 x.k, .string x.t, .slice ra x.c.length rc]
theorem tcells_one (x : Tree) (ra : Option Addr) (rc : Nat) : tcells [(x, ra, rc)] = tcell x ra rc := by simp [tcells]

theorem OwnsT.form {w : World} {B : Nat} {v : Value} {l : List (Tree × Option Addr × Nat)} (h : OwnsT w B v l) : ∃ a c, v = .slice a l.length c := by
  rcases h.2 with ⟨rfl, h0⟩ | ⟨g, c, _, rfl, _⟩
  · exact ⟨none, 0, by rw [h0]⟩
  · exact ⟨_, _, rfl⟩

/-- A child more: behind the stores. -/
theorem PSG.added {E : Env} {A : Ho} {s : S} {w : World} {k : Nat} {aa : Option Addr} {ac : Nat} {v : Value} {l : List (Tree × Option Addr × Nat)} {m : Nat} (h : PSG E A s w k aa ac v l m)
    {x : Tree} {ra : Option Addr} {rc mx : Nat} (hok : x.ok) (hk : Kids w (fun j => A.h j ∧ ¬ A.r j ∧ Pe E w j) mx ra x.c) {w' : World} {g cap : Nat}
    (hg : w.grownBy w' v.ownBlock) (hown : OwnsT w' 0 (.slice (some ⟨g, 0, none⟩) (l.length + 1) cap) (l ++ [(x, ra, rc)])) (hloc : v.ownBlock = some g ∨ w.heap.size ≤ g) :
    PSG E A { s with ch := s.ch ++ [x] } (w'.setCell ⟨E.b, 3, none⟩ (.slice (some ⟨g, 0, none⟩) (l.length + 1) cap)) k aa ac (.slice (some ⟨g, 0, none⟩) (l.length + 1) cap) (l ++ [(x, ra, rc)]) (max m mx) ∧
      Fr A.h w (w'.setCell ⟨E.b, 3, none⟩ (.slice (some ⟨g, 0, none⟩) (l.length + 1) cap)) := by
  have hob : (Value.slice (some ⟨g, 0, none⟩) (l.length + 1) cap).ownBlock = some g := rfl
  have hgb : g ≠ E.b := by
    rcases hloc with e | e
    · exact (h.row g e).2
    · have := h.lb; omega
  have hbn : v.ownBlock ≠ some E.b := fun e => (h.row _ e).2 rfl
  have hAg : ∀ j, A.h j → j < w.heap.size ∧ some j ≠ v.ownBlock := fun j hj => ⟨h.lt j hj, fun e => (h.row j e.symm).1 hj⟩
  have hsz := hg.size
  have keepA : Kept (fun j => A.h j ∧ ¬ A.r j ∧ Pe E w j) w w' := kept_grown hg fun j hj => hAg j hj.1
  have set1 : ∀ (u : Value) (B : Nat → Prop), (∀ j, B j → j ≠ E.b) → Kept B w' (w'.setCell ⟨E.b, 3, none⟩ u) := fun u B hB b o hb => World.cell?_of_block (heap_setCell_other w' _ b u (fun e => hB b hb e))
  have hAb : ∀ j, A.h j → j ≠ E.b := fun j hj e => h.nb (e ▸ hj)
  refine ⟨⟨set4_3 ((hg.block E.b h.lb (Ne.symm hbn)).trans h.hb), h.hk, h.rest, h.cap, h.acm, ?_, owns_set hown _ _ (by rw [hob]; intro e; exact hgb (Option.some.inj e)), ?_, ?_, ?_, ?_, h.base, fun j hj => ?_, h.nb, h.rh, h.tl, h.tcm, h.tcl, h.toks⟩, ?_⟩
  · exact (h.ints.kept (kept_grown hg fun j hj => hAg j (h.base j hj))).kept (set1 _ _ fun j hj => hj.2)
  · rw [List.map_append, h.ch]; rfl
  · have s1 : Sub w' (fun j => Pe E w' j ∧ j ≠ E.b ∧ some g ≠ some j ∧ ¬ A.r j) (max m mx) l := by
      refine ((h.sub.kept (kept_grown hg fun j hj => ⟨hj.1.lt, fun e => hj.2.2.1 e.symm⟩)).up (fun j hj => ⟨hj.1.grown hg fun e => hj.2.2.1 e.symm, hj.2.1, fun e => ?_, hj.2.2.2⟩) (Nat.le_max_left _ _))
      rcases hloc with q | q
      · exact hj.2.2.1 (q.trans e)
      · have := hj.1.lt; have := Option.some.inj e; omega
    have s2 : Kids w' (fun j => Pe E w' j ∧ j ≠ E.b ∧ some g ≠ some j ∧ ¬ A.r j) (max m mx) ra x.c := by
      refine (hk.kept keepA).up (fun j hj => ⟨hj.2.2.grown hg (hAg j hj.1).2, hAb j hj.1, fun e => ?_, hj.2.1⟩) (Nat.le_max_right _ _)
      rcases hloc with q | q
      · exact (hAg j hj.1).2 (q.trans e).symm
      · have := h.lt j hj.1; have := Option.some.inj e; omega
    have s3 := Sub.snoc s1 (x := (x, ra, rc)) hok s2
    refine (s3.kept (set1 _ _ fun j hj => hj.2.1)).up (fun j hj => ⟨hj.1.set _ _, hj.2⟩) (Nat.le_refl _)
  · intro g' e
    have e2 := Option.some.inj e
    rw [← show g = g' from e2]
    refine ⟨fun hA => ?_, hgb⟩
    rcases hloc with q | q
    · exact (h.row g q).1 hA
    · have := h.lt g hA; omega
  · exact (h.tks.kept (kept_grown hg fun j hj => hAg j (h.base j hj))).kept (set1 _ _ fun j hj => hj.2)
  · have := h.lt j hj; simp; omega
  · refine ⟨hg.os, hg.tape, hg.output, by simp; omega, fun j hj => ?_⟩
    rw [heap_setCell_other w' _ j _ (fun e => hAb j hj e), hg.block j (h.lt j hj) (hAg j hj).2]

/-- The stores into the new place. -/
theorem own_stored {w : World} {g n cap : Nat} {l : List (Tree × Option Addr × Nat)} {x : Tree} {ra : Option Addr} {rc : Nat} (hn : n = l.length) (h : w.ownsRow 0 25 3 (.slice (some ⟨g, 0, none⟩) (n + 1) cap) (n + 1) (tcells l ++ [.int .i64 0, .string ⟨#[]⟩, .slice none 0 0])) :
    OwnsT (((w.setCell ⟨g, n * 3, none⟩ (.int .i64 x.k)).setCell ⟨g, n * 3 + 1, none⟩ (.string x.t)).setCell ⟨g, n * 3 + 2, none⟩ (.slice ra x.c.length rc)) 0 (.slice (some ⟨g, 0, none⟩) (l.length + 1) cap) (l ++ [(x, ra, rc)]) ∧
      w.grownBy (((w.setCell ⟨g, n * 3, none⟩ (.int .i64 x.k)).setCell ⟨g, n * 3 + 1, none⟩ (.string x.t)).setCell ⟨g, n * 3 + 2, none⟩ (.slice ra x.c.length rc)) (some g) := by
  subst hn
  obtain ⟨h1, g1⟩ := h.stored (l.length * 3) (.int .i64 x.k)
  obtain ⟨h2, g2⟩ := h1.stored (l.length * 3 + 1) (.string x.t)
  obtain ⟨h3, g3⟩ := h2.stored (l.length * 3 + 2) (.slice ra x.c.length rc)
  refine ⟨?_, (g1.trans g2).trans g3⟩
  show World.ownsRow _ _ _ _ _ _ _
  rw [List.length_append, tcells_append, tcells_one]
  have e : (((tcells l ++ [Value.int .i64 0, .string ⟨#[]⟩, .slice none 0 0]).set (l.length * 3) (.int .i64 x.k)).set (l.length * 3 + 1) (.string x.t)).set (l.length * 3 + 2) (.slice ra x.c.length rc) = tcells l ++ tcell x ra rc := by
    have hl := tcells_length l
    rw [List.set_append_right _ _ (by omega), List.set_append_right _ _ (by omega), List.set_append_right _ _ (by omega), hl]
    simp [tcell]
  rw [e] at h3
  exact h3

theorem setCell_comm (w : World) (a b : Addr) (u v : Value) (h : a.block ≠ b.block) : (w.setCell a u).setCell b v = (w.setCell b v).setCell a u := by
  unfold World.setCell
  congr 1
  apply Array.ext_getElem?
  intro i
  simp only [Array.getElem?_modify]
  by_cases h1 : a.block = i
  · by_cases h2 : b.block = i
    · omega
    · simp [h1, h2]
  · by_cases h2 : b.block = i
    · simp [h1, h2]
    · simp [h1, h2]

theorem add_end {E : Env} {A : Ho} {w0 w w3 : World} {s : S} {k : Nat} {aa : Option Addr} {ac : Nat} {v : Value} {l : List (Tree × Option Addr × Nat)} {m : Nat} (h : PSG E A s w k aa ac v l m) (hf : Fr A.h w0 w) {x : Tree} {ra : Option Addr} {rc mx : Nat} (hk : Kids w (fun j => A.h j ∧ ¬ A.r j ∧ Pe E w j) mx ra x.c) (hok : x.ok)
    {o : Obj} {g cap : Nat} (hg : (w.alloc o).grownBy w3 v.ownBlock) (hown : w3.ownsRow 0 25 3 (.slice (some ⟨g, 0, none⟩) (l.length + 1) cap) (l.length + 1) (tcells l ++ [.int .i64 0, .string ⟨#[]⟩, .slice none 0 0])) (hloc : v.ownBlock = some g ∨ w.heap.size ≤ g) :
    At E A w0 { s with ch := s.ch ++ [x] } ((((w3.setCell ⟨g, l.length * 3, none⟩ (.int .i64 x.k)).setCell ⟨g, l.length * 3 + 1, none⟩ (.string x.t)).setCell ⟨g, l.length * 3 + 2, none⟩ (.slice ra x.c.length rc)).setCell ⟨E.b, 3, none⟩ (.slice (some ⟨g, 0, none⟩) (l.length + 1) cap)) ∧
    At E A w0 { s with ch := s.ch ++ [x] } ((((w3.setCell ⟨E.b, 3, none⟩ (.slice (some ⟨g, 0, none⟩) (l.length + 1) cap)).setCell ⟨g, l.length * 3, none⟩ (.int .i64 x.k)).setCell ⟨g, l.length * 3 + 1, none⟩ (.string x.t)).setCell ⟨g, l.length * 3 + 2, none⟩ (.slice ra x.c.length rc)) := by
  obtain ⟨h1, h2⟩ := own_stored (x := x) (ra := ra) (rc := rc) rfl hown
  have hgb : g ≠ E.b := by
    rcases hloc with e | e
    · exact (h.row g e).2
    · have := h.lb; omega
  have hs : w.heap.size ≤ w3.heap.size := by have := hg.size; simp at this; omega
  have hgr : w.grownBy (((w3.setCell ⟨g, l.length * 3, none⟩ (.int .i64 x.k)).setCell ⟨g, l.length * 3 + 1, none⟩ (.string x.t)).setCell ⟨g, l.length * 3 + 2, none⟩ (.slice ra x.c.length rc)) v.ownBlock := by
    refine ⟨h2.os.trans hg.os, h2.tape.trans hg.tape, h2.output.trans hg.output, by simp; exact hs, fun j hj hne => ?_⟩
    rw [h2.block j (by omega) (fun e => ?_), hg.block j (by simp; omega) hne, Below.heap_alloc _ _ _ hj]
    rcases hloc with q | q
    · exact hne (e.trans q.symm)
    · have := Option.some.inj e; omega
  obtain ⟨h3, h4⟩ := h.added hok hk hgr h1 hloc
  have hA : At E A w0 { s with ch := s.ch ++ [x] } ((((w3.setCell ⟨g, l.length * 3, none⟩ (.int .i64 x.k)).setCell ⟨g, l.length * 3 + 1, none⟩ (.string x.t)).setCell ⟨g, l.length * 3 + 2, none⟩ (.slice ra x.c.length rc)).setCell ⟨E.b, 3, none⟩ (.slice (some ⟨g, 0, none⟩) (l.length + 1) cap)) := ⟨⟨_, _, _, _, _, _, h3⟩, hf.trans h4⟩
  refine ⟨hA, ?_⟩
  rw [setCell_comm _ ⟨g, l.length * 3 + 2, none⟩ ⟨E.b, 3, none⟩ _ _ hgb, setCell_comm _ ⟨g, l.length * 3 + 1, none⟩ ⟨E.b, 3, none⟩ _ _ hgb, setCell_comm _ ⟨g, l.length * 3, none⟩ ⟨E.b, 3, none⟩ _ _ hgb] at hA
  exact hA

theorem appended_facts {E : Env} {w w3 : World} {o : Obj} {v : Value} {l : List (Tree × Option Addr × Nat)} {g cap H : Nat} (hlb : E.b < w.heap.size) (c3 : w.cell? ⟨E.b, 3, none⟩ = some v) (z3 : w.frozen? ⟨E.b, 3, none⟩ = false)
    (hrow : ∀ q, v.ownBlock = some q → q ≠ E.b) (hown : w3.ownsRow 0 25 3 (.slice (some ⟨g, 0, none⟩) (l.length + 1) cap) (l.length + 1) (tcells l ++ [.int .i64 0, .string ⟨#[]⟩, .slice none 0 0])) (hgrow : (w.alloc o).grownBy w3 v.ownBlock)
    (hat : v.ownBlock = some g ∨ g = H) (hH : E.b < H) : g ≠ E.b ∧ w3.cell? ⟨E.b, 3, none⟩ = some v ∧ w3.frozen? ⟨E.b, 3, none⟩ = false ∧
      w3.cell? ⟨g, l.length * 3, none⟩ = some (.int .i64 0) ∧ w3.cell? ⟨g, l.length * 3 + 1, none⟩ = some (.string ⟨#[]⟩) ∧ w3.cell? ⟨g, l.length * 3 + 2, none⟩ = some (.slice none 0 0) ∧
      w3.frozen? ⟨g, l.length * 3, none⟩ = false ∧ w3.frozen? ⟨g, l.length * 3 + 1, none⟩ = false ∧ w3.frozen? ⟨g, l.length * 3 + 2, none⟩ = false := by
  have hne : some E.b ≠ v.ownBlock := fun e => hrow _ e.symm rfl
  have hlt : E.b < (w.alloc o).heap.size := by simp; omega
  have hba : (w.alloc o).heap[E.b]? = w.heap[E.b]? := Below.heap_alloc _ _ _ hlb
  have q0 := hown.cellAt (l.length * 3) (by omega)
  have q1 := hown.cellAt (l.length * 3 + 1) (by omega)
  have q2 := hown.cellAt (l.length * 3 + 2) (by omega)
  rw [List.getElem?_append_right (by rw [tcells_length]; omega), tcells_length] at q0 q1 q2
  refine ⟨?_, (hgrow.cell_far ⟨E.b, 3, none⟩ hlt hne).trans ((World.cell?_of_block hba).trans c3), (hgrow.frozen_far ⟨E.b, 3, none⟩ hlt hne).trans ((World.frozen?_of_block hba).trans z3), ?_, ?_, ?_, hown.frozenAt _, hown.frozenAt _, hown.frozenAt _⟩
  · rcases hat with q | q
    · exact hrow g q
    · omega
  · rw [q0, Nat.sub_self]; rfl
  · rw [q1, Nat.add_sub_cancel_left]; rfl
  · rw [q2, Nat.add_sub_cancel_left]; rfl

set_option maxRecDepth 100000 in
set_option maxHeartbeats 4000000 in
theorem add_any (E : Env) (x : Tree) (ra : Option Addr) (rc mx : Nat) (A : Ho) (w0 w : World) (s s' : S) (hok : x.ok) (hk : Kids w (fun j => A.h j ∧ ¬ A.r j ∧ Pe E w j) mx ra x.c) (h : At E A w0 s w) (hr : add x s = some s') :
    Calls Tryz.prog 165 #[P E, tv x ra rc] w fun e w' => e = .returned (.tuple #[]) ∧ At E A w0 s' w' := by
  obtain ⟨i0, ii, iz0, iz1, iz2⟩ := info_parts info_tree
  obtain ⟨⟨k, aa, ac, v, l, m, hp0⟩, hf⟩ := h
  have hlim : s.ch.length < 1000000 ∧ s' = { s with ch := s.ch ++ [x] } := by
    unfold add at hr
    split at hr
    · rename_i q; exact ⟨q, (Option.some.inj hr).symm⟩
    · cases hr
  obtain ⟨hlim, rfl⟩ := hlim
  have hb1 : Below w.heap.size w (w.alloc (.cells #[.int .i64 x.k, .string x.t, .slice ra x.c.length rc] 25)) := (Below.refl _ _).alloc (Nat.le_refl _) _
  have HP := Lib.hid (hp0.grow hb1)
  have HF := Lib.hid (hf.trans (Fr.of_below hb1 hp0.lt))
  have HK : Hid (Kids (w.alloc (.cells #[.int .i64 x.k, .string x.t, .slice ra x.c.length rc] 25)) (fun j => A.h j ∧ ¬ A.r j ∧ Pe E (w.alloc (.cells #[.int .i64 x.k, .string x.t, .slice ra x.c.length rc] 25)) j) mx ra x.c) := (hk.kept (kept_of_below hb1 fun j hj => hp0.lt j hj.1)).up (fun j hj => ⟨hj.1, hj.2.1, hj.2.2.below hb1⟩) (Nat.le_refl _)
  have bx := heap_alloc_new w (.cells #[.int .i64 x.k, .string x.t, .slice ra x.c.length rc] 25)
  have hlen : l.length < 1000000 := by rw [hp0.len]; exact hlim
  obtain ⟨va, vc, rfl⟩ := OwnsT.form hp0.own
  have hlb := hp0.lb
  have hrow := Lib.hid hp0.row
  have hvl : Hid (∀ g, (Value.slice va l.length vc).ownBlock = some g → g < w.heap.size) := fun g hg => hp0.vlt hg
  have HOK := Lib.hid hok
  clear hp0 hf hk hb1 hr hok
  go_enter Tryz.func165, Tryz.ntmps165
  go_upto_region 1 with fail
  have hwsz : (w.alloc (.cells #[.int .i64 x.k, .string x.t, .slice ra x.c.length rc] 25)).heap.size = w.heap.size + 1 := by simp
  generalize hw1 : w.alloc (.cells #[.int .i64 x.k, .string x.t, .slice ra x.c.length rc] 25) = w1 at *
  clear hw1
  have hb := HP.out.hb
  obtain ⟨_, _, _, f3, _, _, z3⟩ := four_cells hb
  obtain ⟨b0, b1, b2, _⟩ := three_facts bx
  have hS : Hid (w1.drew.cell? ⟨E.b, 3, none⟩ = some (.slice va l.length vc) ∧ w1.drew.frozen? ⟨E.b, 3, none⟩ = false ∧ w1.drew.cell? ⟨w.heap.size, 0, none⟩ = some (.int .i64 x.k) ∧ w1.drew.cell? ⟨w.heap.size, 1, none⟩ = some (.string x.t) ∧ w1.drew.cell? ⟨w.heap.size, 2, none⟩ = some (.slice ra x.c.length rc)) := ⟨f3, z3, b0, b1, b2⟩
  obtain ⟨w2, hw2⟩ : ∃ w2, w2 = w1.drew := ⟨_, rfl⟩
  have hb2 : Below w1.heap.size w1 w1.drew := (Below.refl _ _).drew
  have HP2 := Lib.hid (HP.out.grow hb2)
  have HF2 := Lib.hid (HF.out.trans (Fr.of_below hb2 HP.out.lt))
  have HK2 := Lib.hid (HK.out.kept (kept_of_below hb2 fun j hj => HP.out.lt j hj.1))
  obtain ⟨f3', z3', b0', b1', b2'⟩ := hS.out
  clear HP HF HK hb bx hS hb2
  have hz2 : w1.drew.heap.size = w.heap.size + 1 := hwsz
  have hll : (l.length : Int) < 1000000 := by omega
  have hnew : Hid ((w1.drew.alloc (.cells #[.int .i64 0, .string ⟨#[]⟩, .slice none 0 0] 25)).heap[w.heap.size + 1]? = some (.cells #[.int .i64 0, .string ⟨#[]⟩, .slice none 0 0] 25 (0, 0))) := by rw [← hz2]; exact heap_alloc_new _ _
  have hix : (l.length : Int) < (l.length : Int) + 1 := by omega
  go_region_law (refine step_append_lies _ (by rfl) _ _ _ (by rfl) 0 25 i0 _ 3 48 Tryz.underlying23 ii iz0 iz1 iz2 rfl (by omega) _ l.length (tcells l) (by rfl) (World.ownsRow.alloc HP2.out.own _) ⟨w.heap.size + 1, 0, none⟩ 1 1 [.int .i64 0, .string ⟨#[]⟩, .slice none 0 0] (by rfl) (by rfl) (World.news_of_block hnew.out) (by simp [Value.oneCell']) (by omega) (by unfold maxLen; omega) (by omega) (Nat.zero_le _) (w.heap.size + 2) (by simp; omega) ?_; intro g cap w3 hown3 hgrow3 hat hlt3; obtain ⟨hgb, g3, g4, q0, q1, q2, y0, y1, y2⟩ := appended_facts (E := E) (by omega) f3' z3' (fun q hq => (hrow.out q hq).2) hown3 hgrow3 hat (by omega))
  all_goals
    have hat2 : (Value.slice va l.length vc).ownBlock = some g ∨ w1.drew.heap.size ≤ g := (hat.imp id (fun e => by omega))
    have HFIN := add_end (rc := rc) HP2.out HF2.out HK2.out HOK.out hgrow3 hown3 hat2
    clear hown3 hgrow3 hat q0 q1 q2 y0 y1 y2 g3 g4
    go_wp2_with fail
    go_end0
    exact ⟨rfl, by first | exact HFIN.1 | exact HFIN.2⟩
end Go.Proofs.YtcpojagfnpajeaaGreatDoorR.Ps

namespace Go.Proofs.YtcpojagfnpajeaaGreatDoorR.Ps
open Go.RowKit

theorem PSG.begun {E : Env} {A : Ho} {s : S} {w : World} {k : Nat} {aa : Option Addr} {ac : Nat} {v : Value} {l : List (Tree × Option Addr × Nat)} {m : Nat} (h : PSG E A s w k aa ac v l m) :
    At E (In E A w) (w.setCell ⟨E.b, 3, none⟩ (.slice none 0 0)) { s with ch := [] } (w.setCell ⟨E.b, 3, none⟩ (.slice none 0 0)) := by
  have hset : ∀ (B : Nat → Prop), (∀ j, B j → j ≠ E.b) → Kept B w (w.setCell ⟨E.b, 3, none⟩ (.slice none 0 0)) := fun B hB b o hb => World.cell?_of_block (heap_setCell_other w _ b _ (fun e => hB b hb e))
  refine ⟨⟨k, aa, ac, .slice none 0 0, [], 0, ⟨set4_3 h.hb, h.hk, h.rest, h.cap, h.acm, h.ints.kept (hset _ fun _ hj => hj.2), World.ownsRow_nil _ _ _ _, rfl, Sub.nil _ _ _, fun g hg => (by cases hg), h.tks.kept (hset _ fun _ hj => hj.2), fun j hj => ⟨h.lt j (h.base j hj), hj.2⟩, fun j hj => (by simp; exact hj.1), fun hj => hj.2 rfl, fun j hj => ?_, h.tl, h.tcm, h.tcl, h.toks⟩⟩, Fr.refl _ _⟩
  rcases hj with hj | ⟨v', hv', hj⟩
  · exact ⟨h.lt j (h.rh j hj), fun e => h.nb (e ▸ h.rh j hj)⟩
  · obtain rfl : v = v' := Option.some.inj ((four_cells h.hb).2.2.2.1.symm.trans hv')
    exact ⟨h.vlt hj, (h.row j hj).2⟩

/-- The row of the node around it stands behind the action. -/
theorem PSG.around {E : Env} {A : Ho} {s s2 : S} {w w2 : World} {k : Nat} {aa : Option Addr} {ac : Nat} {v : Value} {l : List (Tree × Option Addr × Nat)} {m : Nat} (h : PSG E A s w k aa ac v l m)
    {k2 : Nat} {aa2 : Option Addr} {ac2 : Nat} {v2 : Value} {l2 : List (Tree × Option Addr × Nat)} {m2 : Nat} (h2 : PSG E (In E A w) s2 w2 k2 aa2 ac2 v2 l2 m2) (hf : Fr (In E A w).h (w.setCell ⟨E.b, 3, none⟩ (.slice none 0 0)) w2) :
    Fr A.h w w2 ∧ OwnsT w2 0 v l ∧ Sub w2 (fun j => Pe E w2 j ∧ j ≠ E.b ∧ v.ownBlock ≠ some j ∧ ¬ A.r j) m l ∧
      (∃ va vc mx, v2 = .slice va l2.length vc ∧ Kids w2 (fun j => Pe E w2 j ∧ j ≠ E.b ∧ v.ownBlock ≠ some j ∧ ¬ A.r j) mx va (l2.map Prod.fst)) := by
  have hb : ∀ j, j < w.heap.size ∧ j ≠ E.b → w2.heap[j]? = w.heap[j]? := fun j hj => (hf.block j hj).trans (heap_setCell_other w _ j _ (fun e => hj.2 e))
  have hsz : w.heap.size ≤ w2.heap.size := by have := hf.size; simpa using this
  have hA : ∀ j, A.h j → j < w.heap.size ∧ j ≠ E.b := fun j hj => ⟨h.lt j hj, fun e => h.nb (e ▸ hj)⟩
  refine ⟨⟨hf.os, hf.tape, hf.output, hsz, fun j hj => hb j (hA j hj)⟩, owns_of_block h.own (fun g hg => hb g ⟨h.vlt hg, (h.row g hg).2⟩), ?_, ?_⟩
  · exact (h.sub.kept fun j _ hj => World.cell?_of_block (hb j ⟨hj.1.lt, hj.2.1⟩)).up (fun j hj => ⟨hj.1.of_block (hb j ⟨hj.1.lt, hj.2.1⟩), hj.2⟩) (Nat.le_refl _)
  · obtain ⟨va, vc, e, hk⟩ := OwnsT.kids (S := fun j => Pe E w2 j ∧ j ≠ E.b ∧ v.ownBlock ≠ some j ∧ ¬ A.r j) h2.own (h2.sub.up (fun j hj => ⟨hj.1, hj.2.1, fun e => hj.2.2.2 (Or.inr ⟨v, (four_cells h.hb).2.2.2.1, e⟩), fun e => hj.2.2.2 (Or.inl e)⟩) (Nat.le_refl _)) (fun g hg => by
      have hn := (h2.row g hg).1
      refine ⟨⟨OwnsT.pl h2.own hg, h2.low hg⟩, (h2.row g hg).2, fun e => hn ⟨h.vlt e, (h2.row g hg).2⟩, fun e => hn ⟨h.lt g (h.rh g e), (h2.row g hg).2⟩⟩)
    exact ⟨va, vc, _, e, hk⟩

/-- The node is complete. -/
theorem PSG.ended {E : Env} {A : Ho} {s s2 : S} {w w2 : World} {k : Nat} {aa : Option Addr} {ac : Nat} {v : Value} {l : List (Tree × Option Addr × Nat)} {m : Nat} (h : PSG E A s w k aa ac v l m)
    {k2 : Nat} {aa2 : Option Addr} {ac2 : Nat} {va : Option Addr} {vc : Nat} {l2 : List (Tree × Option Addr × Nat)} {m2 mx : Nat} (h2 : PSG E (In E A w) s2 w2 k2 aa2 ac2 (.slice va l2.length vc) l2 m2) (hf : Fr A.h w w2)
    (hsub : Sub w2 (fun j => Pe E w2 j ∧ j ≠ E.b ∧ v.ownBlock ≠ some j ∧ ¬ A.r j) m l) (hkids : Kids w2 (fun j => Pe E w2 j ∧ j ≠ E.b ∧ v.ownBlock ≠ some j ∧ ¬ A.r j) mx va (l2.map Prod.fst))
    {K : Int} (hK : I64 K) (hl2 : l2.length ≤ maxLen) {o : Obj} {w' : World} {g cap : Nat}
    (hg : (w2.alloc o).grownBy w' v.ownBlock) (hown : w'.ownsRow 0 25 3 (.slice (some ⟨g, 0, none⟩) (l.length + 1) cap) (l.length + 1) (tcells l ++ [.int .i64 K, .string ⟨#[]⟩, .slice va l2.length vc])) (hloc : v.ownBlock = some g ∨ w2.heap.size ≤ g) :
    At E A w { s2 with ch := s.ch ++ [inner K s2.ch] } (w'.setCell ⟨E.b, 3, none⟩ (.slice (some ⟨g, 0, none⟩) (l.length + 1) cap)) := by
  have hsz : w.heap.size ≤ w2.heap.size := hf.size
  have hsz2 : w2.heap.size < w'.heap.size := by have := hg.size; simp at this; omega
  have hgw : w2.grownBy w' v.ownBlock := ⟨hg.os, hg.tape, hg.output, by omega, fun j hj hne => (hg.block j (by simp; omega) hne).trans (Below.heap_alloc _ _ _ hj)⟩
  have hob : (Value.slice (some ⟨g, 0, none⟩) (l.length + 1) cap).ownBlock = some g := rfl
  have hgb : g ≠ E.b := by
    rcases hloc with e | e
    · exact (h.row g e).2
    · have := h2.lb; omega
  have hbn : v.ownBlock ≠ some E.b := fun e => (h.row _ e).2 rfl
  have hAg : ∀ j, A.h j → j < w2.heap.size ∧ some j ≠ v.ownBlock := fun j hj => ⟨by have := h.lt j hj; omega, fun e => (h.row j e.symm).1 hj⟩
  have hAb : ∀ j, A.h j → j ≠ E.b := fun j hj e => h.nb (e ▸ hj)
  have set1 : ∀ (u : Value) (B : Nat → Prop), (∀ j, B j → j ≠ E.b) → Kept B w' (w'.setCell ⟨E.b, 3, none⟩ u) := fun u B hB b o hb => World.cell?_of_block (heap_setCell_other w' _ b u (fun e => hB b hb e))
  have hch2 : l2.map Prod.fst = s2.ch := h2.ch
  have htc : tcells (l ++ [(inner K s2.ch, va, vc)]) = tcells l ++ [.int .i64 K, .string ⟨#[]⟩, .slice va l2.length vc] := by
    rw [tcells_append]
    have : s2.ch.length = l2.length := by rw [← hch2, List.length_map]
    simp [tcells, inner, Tree.k, Tree.t, Tree.c, this]
  have hown' : OwnsT w' 0 (.slice (some ⟨g, 0, none⟩) (l.length + 1) cap) (l ++ [(inner K s2.ch, va, vc)]) := by
    show World.ownsRow _ _ _ _ _ _ _
    rw [htc, List.length_append]; exact hown
  have hmove : ∀ j, (Pe E w2 j ∧ j ≠ E.b ∧ v.ownBlock ≠ some j ∧ ¬ A.r j) → (Pe E w' j ∧ j ≠ E.b ∧ some g ≠ some j ∧ ¬ A.r j) := fun j hj => by
    refine ⟨hj.1.grown hgw fun e => hj.2.2.1 e.symm, hj.2.1, fun e => ?_, hj.2.2.2⟩
    rcases hloc with q | q
    · exact hj.2.2.1 (q.trans e)
    · have := hj.1.lt; have := Option.some.inj e; omega
  refine ⟨⟨k2, aa2, ac2, _, l ++ [(inner K s2.ch, va, vc)], max m mx, ⟨set4_3 ((hgw.block E.b h2.lb (Ne.symm hbn)).trans h2.hb), h2.hk, h2.rest, h2.cap, h2.acm, ?_, owns_set hown' _ _ (by rw [hob]; intro e; exact hgb (Option.some.inj e)), ?_, ?_, ?_, ?_, h.base, fun j hj => ?_, h.nb, h.rh, h2.tl, h2.tcm, h2.tcl, h2.toks⟩⟩, ?_⟩
  · exact (h2.ints.kept (kept_grown hgw fun j hj => hAg j (h.base j hj))).kept (set1 _ _ fun _ hj => hj.2)
  · rw [List.map_append, h.ch]; rfl
  · have s1 : Sub w' (fun j => Pe E w' j ∧ j ≠ E.b ∧ some g ≠ some j ∧ ¬ A.r j) (max m mx) l := (hsub.kept (kept_grown hgw fun j hj => ⟨hj.1.lt, fun e => hj.2.2.1 e.symm⟩)).up hmove (Nat.le_max_left _ _)
    have s2' : Kids w' (fun j => Pe E w' j ∧ j ≠ E.b ∧ some g ≠ some j ∧ ¬ A.r j) (max m mx) va s2.ch := by
      rw [← hch2]
      exact (hkids.kept (kept_grown hgw fun j hj => ⟨hj.1.lt, fun e => hj.2.2.1 e.symm⟩)).up hmove (Nat.le_max_right _ _)
    have s3 := Sub.snoc s1 (x := (inner K s2.ch, va, vc)) ⟨hK, by show (0 : Nat) ≤ _; omega, by show s2.ch.length ≤ _; rw [← hch2, List.length_map]; exact hl2⟩ s2'
    exact (s3.kept (set1 _ _ fun _ hj => hj.2.1)).up (fun j hj => ⟨hj.1.set _ _, hj.2⟩) (Nat.le_refl _)
  · intro g' e
    have e2 := Option.some.inj e
    rw [← show g = g' from e2]
    refine ⟨fun hA => ?_, hgb⟩
    rcases hloc with q | q
    · exact (h.row g q).1 hA
    · have := h.lt g hA; omega
  · exact (h2.tks.kept (kept_grown hgw fun j hj => hAg j (h.base j hj))).kept (set1 _ _ fun _ hj => hj.2)
  · have := h.lt j hj; simp; omega
  · refine hf.trans ⟨hgw.os, hgw.tape, hgw.output, by simp; omega, fun j hj => ?_⟩
    rw [heap_setCell_other w' _ j _ (fun e => hAb j hj e), hgw.block j (hAg j hj).1 (hAg j hj).2]

set_option maxRecDepth 100000 in
set_option maxHeartbeats 4000000 in
theorem node_any (E : Env) (K : Int) (hK : I64 K) (f : Value) (a : PA) (A : Ho) (w0 w : World) (s s' : S) (hc : Clo E A w f a) (h : At E A w0 s w) (hr : node K a s = some s') :
    Calls Tryz.prog 95 #[P E, .int .i64 K, f] w fun e w' => e = .returned (.tuple #[]) ∧ At E A w0 s' w' := by
  obtain ⟨i0, ii, iz0, iz1, iz2⟩ := info_parts info_tree
  obtain ⟨⟨k, aa, ac, v, l, m, hp⟩, hf⟩ := h
  obtain ⟨kf, fs, cs, rfl, he, hcl⟩ := hc
  obtain ⟨s2, ha, hlim, rfl⟩ : ∃ s2, a { s with ch := [] } = some s2 ∧ s.ch.length < 1000000 ∧ s' = { s2 with ch := s.ch ++ [inner K s2.ch] } := by
    unfold node at hr
    cases ha : a { s with ch := [] } with
    | none => simp [ha] at hr
    | some s2 =>
      simp only [ha, Option.bind_some] at hr
      split at hr
      · rename_i q; exact ⟨s2, rfl, q, (Option.some.inj hr).symm⟩
      · cases hr
  have HP := Lib.hid hp
  have HF := Lib.hid hf
  have HC := Lib.hid (hcl _ _ s2 (fun j _ h2 => heap_setCell_other w ⟨E.b, 3, none⟩ j (.slice none 0 0) (fun e => h2 e)) hp.begun ha)
  obtain ⟨_, _, _, f3, _, _, z3⟩ := four_cells hp.hb
  have hll : l.length < 1000000 := by rw [hp.len]; exact hlim
  clear hp hf hcl ha hr hlim
  go_enter Tryz.func95, Tryz.ntmps95
  go_wp2_with fail
  refine HC.out.mono ?_
  rintro e w2 ⟨rfl, ⟨⟨k2, aa2, ac2, v2, l2, m2, h2⟩, hf2⟩⟩
  obtain ⟨hfr, hown, hsub, va, vc, mx, rfl, hkids⟩ := HP.out.around h2 hf2
  have HFR := Lib.hid hfr
  have HOWN := Lib.hid hown
  have HSUB := Lib.hid hsub
  have HKIDS := Lib.hid hkids
  have H2 := Lib.hid h2
  obtain ⟨_, _, _, f4, _, _, z4⟩ := four_cells h2.hb
  have hlb := h2.lb
  have hl2 : l2.length ≤ maxLen := by
    rcases h2.own.2 with ⟨_, h0⟩ | ⟨_, _, _, _, _, _, h1, h3, _⟩
    · omega
    · omega
  have hlb2 : E.b < (w2.alloc (.cells #[.int .i64 K, .string ⟨#[]⟩, .slice va l2.length vc] 25)).heap.size := by simp; omega
  have hne : some E.b ≠ v.ownBlock := fun e => (HP.out.row _ e.symm).2 rfl
  have hba : (w2.alloc (.cells #[.int .i64 K, .string ⟨#[]⟩, .slice va l2.length vc] 25)).heap[E.b]? = w2.heap[E.b]? := Below.heap_alloc _ _ _ hlb
  clear hfr hown hsub hkids h2 hf2 HC f3 z3 he
  go_wp2_with (at_builtin; refine wpList_append_lies _ rfl _ _ 23 rfl 0 25 i0 _ 3 48 Tryz.underlying23 ii iz0 iz1 iz2 rfl (by decide) v l.length (tcells l) rfl (World.ownsRow.alloc HOWN.out _) ⟨w2.heap.size, 0, none⟩ 1 1 [.int .i64 K, .string ⟨#[]⟩, .slice va l2.length vc] rfl rfl (World.news_of_block (heap_alloc_new w2 _)) (by simp [Value.oneCell']) (by omega) (by unfold maxLen; omega) (by omega) (Nat.zero_le _) (w2.heap.size + 1) (by simp) ?_; intro g cap w3 hown3 hgrow3 hat hlt3; have g3 := (hgrow3.cell_far ⟨E.b, 3, none⟩ hlb2 hne).trans ((World.cell?_of_block hba).trans f4); have g4 := (hgrow3.frozen_far ⟨E.b, 3, none⟩ hlb2 hne).trans ((World.frozen?_of_block hba).trans z4))
  go_end0
  have HE := HP.out.ended H2.out HFR.out HSUB.out HKIDS.out hK hl2 hgrow3 hown3 (hat.imp id (fun e => by omega))
  exact ⟨rfl, HE.1, HF.out.trans HE.2⟩
end Go.Proofs.YtcpojagfnpajeaaGreatDoorR.Ps

namespace Go.Proofs.YtcpojagfnpajeaaGreatDoorR.Ps
open Go.RowKit
attribute [local go_sem ↓] Go.wp_at_zero Go.wp_at_succ

/-- With more children. -/
abbrev S.more (s : S) (l : List Tk) : S := { s with ch := s.ch ++ l.map tokTree }

/-- A token's cells. -/
theorem PSG.token {E : Env} {A : Ho} {s : S} {w : World} {k : Nat} {aa : Option Addr} {ac : Nat} {v : Value} {l : List (Tree × Option Addr × Nat)} {m : Nat} (h : PSG E A s w k aa ac v l m) {tb tof j : Nat} {t : Tk} (ht : E.ta = some ⟨tb, tof, none⟩) (hj : E.tk[j]? = some t) :
    w.cell? ⟨tb, tof + j * 2, none⟩ = some (.int .i64 t.1) ∧ w.cell? ⟨tb, tof + j * 2 + 1, none⟩ = some (.string (Lx.bs t.2)) := by
  obtain ⟨b, o, f1, f2, f3, f4⟩ := h.tks j t hj
  rw [ht] at f1
  cases f1
  exact ⟨f3, f4⟩

set_option maxRecDepth 100000 in
set_option maxHeartbeats 2000000 in
theorem takeTo_any (E : Env) (A : Ho) (w0 w : World) (s : S) (n : Nat) (h : At E A w0 s w) (hn : n ≤ s.rest.length) (hlim : s.ch.length + n < 1000000) :
    Calls Tryz.prog 100 #[P E, .int .i64 ((E.tk.length - s.rest.length + n : Nat) : Int)] w fun e w' => e = .returned (.tuple #[]) ∧ ∃ w1, At E A w0 (s.more (s.rest.take n)) w1 ∧ w' = w1.setCell ⟨E.b, 1, none⟩ (.int .i64 ((E.tk.length - s.rest.length + n : Nat) : Int)) := by
  obtain ⟨⟨k, aa, ac, v, l, m, hp⟩, hf⟩ := h
  have H : Hid (At E A w0 s w) := ⟨⟨k, aa, ac, v, l, m, hp⟩, hf⟩
  obtain ⟨c0, c1, c2, c3, _⟩ := four_cells hp.hb
  have hlb := hp.lb
  have htl := hp.tl
  have hk := hp.hk
  have htc := hp.tcm
  have htcl := hp.tcl
  have hrl : s.rest.length = E.tk.length - k := by rw [hp.rest, List.length_drop]
  have hkn : E.tk.length - s.rest.length + n = k + n := by omega
  rw [hkn]
  have hkn2 : k + n ≤ E.tk.length := by omega
  have HR := Lib.hid hp.rest
  have HTK := Lib.hid hp.toks
  have HL : Hid (s.ch.length + n < 1000000) := hlim
  have HTA : Hid (0 < E.tk.length → ∃ tb tof, E.ta = some ⟨tb, tof, none⟩) := fun h0 => by
    obtain ⟨b, o, e, _⟩ := hp.tks 0 _ (List.getElem?_eq_getElem h0)
    exact ⟨b, o, e⟩
  have g1 : (0 : Int) ≤ (k : Int) := by omega
  have g2 : (k : Int) ≤ ((k + n : Nat) : Int) := by omega
  have g3 : ((k + n : Nat) : Int) ≤ (E.tk.length : Int) := by omega
  have g4 : ((k + n : Nat) : Int) ≤ (E.tc : Int) := by omega
  have g5 : (E.tc : Int) ≤ 9223372036854775807 := by unfold maxLen at htcl; omega
  obtain ⟨kn, hkn'⟩ : ∃ kn, kn = k + n := ⟨_, rfl⟩
  rw [← hkn'] at g2 g3 g4 ⊢
  have HKN := Lib.hid hkn'
  clear hp hf hkn hlim c2 c3 hkn'
  go_enter Tryz.func100, Tryz.ntmps100
  go_wp2_with fail
  go_region
  all_goals
    obtain ⟨sa, hsa⟩ : ∃ sa, sa = (if E.tc = k then E.ta else Option.map (fun x => x.add (k * 2)) E.ta) := ⟨_, rfl⟩
    rw [← hsa]
    have HSA : Hid (0 < n → ∃ tb tof, E.ta = some ⟨tb, tof, none⟩ ∧ sa = some ⟨tb, tof + k * 2, none⟩) := by
      intro h0
      have hne : E.tc ≠ k := by omega
      obtain ⟨tb, tof, e⟩ := HTA.out (by omega)
      refine ⟨tb, tof, e, ?_⟩
      rw [hsa, if_neg hne, e]
      show some ((⟨tb, tof, none⟩ : Addr).add (k * 2)) = _
      unfold Addr.add
      split <;> simp_all
    have H2 : Hid (At E A w0 s w.drew) := H.out.drew
    have e1 : kn - k = n := by have := HKN.out; omega
    have e1' : (kn : Int) - (k : Int) = (n : Int) := by have := HKN.out; omega
    first | rw [e1] | skip
    clear hsa c0 c1 H HTA
    generalize w.drew = w1 at *
    go_wp2_with fail
    go_loopw [17] (fun i wr => ∃ j : Nat, j ≤ n ∧ i = .int .i64 j ∧ Hid (At E A w0 (s.more (s.rest.take j)) wr)) (fun i _ => n - (intOf i).toNat)
    case atStart => exact ⟨0, Nat.zero_le _, rfl, by have h3 := H2.out; have e0 : s.more (s.rest.take 0) = s := (by simp [S.more]); rw [e0]; exact h3⟩
    case round =>
      clear H2
      obtain ⟨j, hj, rfl, HJ⟩ := hrel
      by_cases hlt : j < n
      · obtain ⟨tb, tof, e2, rfl⟩ := HSA.out (by omega)
        have hjk : j < s.rest.length := by omega
        obtain ⟨t, ht⟩ : ∃ t, s.rest[j]? = some t := ⟨_, List.getElem?_eq_getElem hjk⟩
        have ht2 : E.tk[k + j]? = some t := by rw [HR.out, List.getElem?_drop] at ht; exact ht
        obtain ⟨⟨k', aa', ac', v', l', m', hq⟩, hqf⟩ := HJ.out
        obtain ⟨d0, d1⟩ := hq.token e2 ht2
        have d0' : wr.cell? ⟨tb, tof + k * 2 + j * 2, none⟩ = some (.int .i64 t.1) := by rw [show tof + k * 2 + j * 2 = tof + (k + j) * 2 from by omega]; exact d0
        have d1' : wr.cell? ⟨tb, tof + k * 2 + j * 2 + 1, none⟩ = some (.string (Lx.bs t.2)) := by rw [show tof + k * 2 + j * 2 + 1 = tof + (k + j) * 2 + 1 from by omega]; exact d1
        have hok : (tokTree t).ok := ⟨(HTK.out t (List.mem_of_getElem? ht2)).1, by show (Lx.bs t.2).size ≤ _; rw [Lx.bs_size]; exact (HTK.out t (List.mem_of_getElem? ht2)).2, by show (0 : Nat) ≤ _; omega⟩
        have hadd : add (tokTree t) (s.more (s.rest.take j)) = some (s.more (s.rest.take (j + 1))) := by
          have hl : (s.more (s.rest.take j)).ch.length < LIM := by have := HL.out; simp [LIM, List.length_take]; omega
          unfold add
          rw [if_pos hl]
          congr 1
          simp [S.more, List.take_add_one, ht]
        have KA := Lib.hid (fun (W : World) (hW : At E A w0 (s.more (s.rest.take j)) W) => add_any E (tokTree t) none 0 0 A w0 W _ _ hok (Kids.nil _ _ _ _) hW hadd)
        have q0 : (j : Int) < (n : Int) := by omega
        have q1 : (0 : Int) ≤ (j : Int) := by omega
        have q2 : (j : Int) + 1 ≤ 1000000 := by omega
        clear hq hqf d0 d1 hadd hok ht ht2 e2
        go_wp2_with fail
        refine (KA.out _ (HJ.out.alloc _)).mono ?_
        rintro e w2 ⟨rfl, h2⟩
        have H3 := Lib.hid h2
        clear KA HJ h2
        go_wp2_with fail
        go_roundw
        case rel => exact ⟨j + 1, by omega, by go_num, H3⟩
        case measure => simp [intOf]; omega
      · obtain rfl : j = n := by omega
        obtain ⟨⟨k', aa', ac', v', l', m', hq⟩, hqf⟩ := HJ.out
        obtain ⟨_, d1, _, _, z1, _⟩ := four_cells hq.hb
        clear hq hqf
        go_wp2_with fail
        go_end0
        exact ⟨rfl, wr, HJ.out, rfl⟩

/-- The tokens are taken: behind the stores. -/
theorem PSG.taken {E : Env} {A : Ho} {s : S} {w : World} {k : Nat} {aa : Option Addr} {ac : Nat} {v : Value} {l : List (Tree × Option Addr × Nat)} {m : Nat} {w0 : World} (h : PSG E A s w k aa ac v l m) (hf : Fr A.h w0 w) {a r : List Tk} (hs : split s.rest = some (a, r)) :
    At E A w0 { s with rest := r } ((w.setCell ⟨E.b, 1, none⟩ (.int .i64 ((k + a.length : Nat) : Int))).setCell ⟨E.b, 2, none⟩ (.slice (if ac = 1 then aa else Option.map (fun x => x.add 1) aa) ((sigs s.rest).length - 1) (ac - 1))) := by
  obtain ⟨h1, t, h2, h3, h4⟩ := split_some hs
  have hl : (sigs s.rest).length = (sigs r).length + 1 := by rw [h2]; rfl
  have hrl : s.rest.length = a.length + r.length := by rw [h1, List.length_append]
  have hrl2 : s.rest.length = E.tk.length - k := by rw [h.rest, List.length_drop]
  have hkl := h.hk
  have hcap := h.cap
  have hset : ∀ (B : Nat → Prop) (u1 u2 : Value), (∀ j, B j → j ≠ E.b) → Kept B w ((w.setCell ⟨E.b, 1, none⟩ u1).setCell ⟨E.b, 2, none⟩ u2) := fun B u1 u2 hB b o hb => World.cell?_of_block ((heap_setCell_other _ ⟨E.b, 2, none⟩ b u2 (fun e => hB b hb e)).trans (heap_setCell_other w ⟨E.b, 1, none⟩ b u1 (fun e => hB b hb e)))
  have hblk : ∀ j (u1 u2 : Value), j ≠ E.b → ((w.setCell ⟨E.b, 1, none⟩ u1).setCell ⟨E.b, 2, none⟩ u2).heap[j]? = w.heap[j]? := fun j u1 u2 hj => (heap_setCell_other _ ⟨E.b, 2, none⟩ j u2 (fun e => hj e)).trans (heap_setCell_other w ⟨E.b, 1, none⟩ j u1 (fun e => hj e))
  have hown : OwnsT ((w.setCell ⟨E.b, 1, none⟩ (.int .i64 ((k + a.length : Nat) : Int))).setCell ⟨E.b, 2, none⟩ (.slice (if ac = 1 then aa else Option.map (fun x => x.add 1) aa) ((sigs s.rest).length - 1) (ac - 1))) 0 v l := by
    refine ⟨h.own.1, ?_⟩
    rcases h.own.2 with hn | ⟨g, cap, cur, rfl, hg, hgg, rest⟩
    · exact .inl hn
    · exact .inr ⟨g, cap, cur, rfl, hg, (hblk g _ _ (h.row g rfl).2).trans hgg, rest⟩
  refine ⟨⟨k + a.length, if ac = 1 then aa else Option.map (fun x => x.add 1) aa, ac - 1, v, l, m, ⟨?_, by omega, ?_, by show (sigs r).length ≤ _; omega, by have := h.acm; omega, ?_, hown, h.ch, ?_, h.row, h.tks.kept (hset _ _ _ fun _ hj => hj.2), h.base, fun j hj => (by simp; exact h.lt j hj), h.nb, h.rh, h.tl, h.tcm, h.tcl, h.toks⟩⟩, ?_⟩
  · have := set4_2 (u := .slice (if ac = 1 then aa else Option.map (fun x => x.add 1) aa) ((sigs s.rest).length - 1) (ac - 1)) (set4_1 (u := .int .i64 ((k + a.length : Nat) : Int)) h.hb)
    rw [show (sigs s.rest).length - 1 = (sigs r).length from by omega] at this ⊢
    exact this
  · show r = _
    have e : s.rest.drop a.length = r := by rw [h1, List.drop_left]
    rw [← e, h.rest, List.drop_drop, Nat.add_comm]
  · intro i z hz
    have hz' : (idxs k s.rest)[i + 1]? = some z := by rw [h1, ← h1, h3 k]; simpa using hz
    obtain ⟨b, o, e1, e2, e3⟩ := h.ints (i + 1) z hz'
    have hi : i < (sigs r).length := by have := (List.getElem?_eq_some_iff.1 hz).1; rw [idxs_len] at this; exact this
    refine ⟨b, o + 1, ?_, e2, ?_⟩
    · rw [if_neg (by omega), e1]
      show some ((⟨b, o, none⟩ : Addr).add 1) = _
      unfold Addr.add
      split <;> simp_all
    · rw [World.cell?_of_block (hblk b _ _ e2.2), show o + 1 + i = o + (i + 1) from by omega]; exact e3
  · exact (h.sub.kept (hset _ _ _ fun _ hj => hj.2.1)).up (fun j hj => ⟨(hj.1.set _ _).set _ _, hj.2⟩) (Nat.le_refl _)
  · exact hf.trans ⟨rfl, rfl, rfl, by simp, fun j hj => hblk j _ _ (fun e => h.nb (e ▸ hj))⟩

theorem take_some {s s' : S} (h : take s = some s') : ∃ a r, split s.rest = some (a, r) ∧ s.ch.length + a.length < 1000000 ∧ s' = { s with ch := s.ch ++ a.map tokTree, rest := r } := by
  unfold take at h
  cases hs : split s.rest with
  | none => simp [hs] at h
  | some x =>
    simp only [hs, Option.bind_some] at h
    split at h
    · rename_i q; exact ⟨x.1, x.2, rfl, q, (Option.some.inj h).symm⟩
    · cases h

set_option maxRecDepth 100000 in
set_option maxHeartbeats 2000000 in
theorem take_does (E : Env) : Does E 99 #[P E] take := by
  intro A w0 w s s' h hr
  obtain ⟨a, r, hs, hlim, rfl⟩ := take_some hr
  obtain ⟨h1, t, h2, h3, h4⟩ := split_some hs
  have hrl : s.rest.length = a.length + r.length := by rw [h1, List.length_append]
  have hta : s.rest.take a.length = a := by rw [h1, List.take_left]
  obtain ⟨⟨k, aa, ac, v, l, m, hp⟩, hf⟩ := h
  have hrl2 : s.rest.length = E.tk.length - k := by rw [hp.rest, List.length_drop]
  have hkl := hp.hk
  have htl := hp.tl
  have KT := takeTo_any E A w0 w s a.length ⟨⟨k, aa, ac, v, l, m, hp⟩, hf⟩ (by omega) hlim
  rw [hta] at KT
  have hz0 : (idxs k s.rest)[0]? = some ((k + a.length - 1 : Nat) : Int) := by rw [h3 k]; rfl
  obtain ⟨ab, ao, e1, e2, e3⟩ := hp.ints 0 _ hz0
  obtain ⟨z, hz⟩ : ∃ z : Nat, z = k + a.length - 1 := ⟨_, rfl⟩
  rw [← hz] at e3
  have hzz : ((E.tk.length - s.rest.length + a.length : Nat) : Int) = (z : Int) + 1 := by omega
  rw [hzz] at KT
  have HKT := Lib.hid KT
  have HZ : Hid ((z : Int) + 1 = ((k + a.length : Nat) : Int) ∧ k = E.tk.length - s.rest.length) := ⟨by omega, by omega⟩
  obtain ⟨c0, c1, c2, c3, _⟩ := four_cells hp.hb
  rw [e1] at c2
  have hsl : 0 < (sigs s.rest).length := by rw [h2]; simp
  have HSP := Lib.hid hs
  have hlb := hp.lb
  have hab := hp.lt _ (hp.base _ e2)
  have g0 : (0 : Int) < ((sigs s.rest).length : Int) := by omega
  have hw1 : IntKind.i64.wrap ((z : Int) + 1) = (z : Int) + 1 := IntWalk.i64_in _ (by omega)
  rw [Nat.add_zero] at e3
  have hslm := hp.sl
  obtain ⟨sl, hslq⟩ : ∃ sl, (sigs s.rest).length = sl + 1 := ⟨(sigs s.rest).length - 1, by omega⟩
  have HSL := Lib.hid hslq
  rw [hslq] at c2 hslm
  have g3 : (0 : Int) < (sl : Int) + 1 := by omega
  clear KT hzz hz hta h1 h2 h3 h4 hs hrl hz0 hp hf hrl2 hkl htl e1 e2 c0 c1 c3 hr hsl g0 hslq
  go_enter Tryz.func99, Tryz.ntmps99
  go_wp2_with fail
  refine HKT.out.mono ?_
  rintro e w' ⟨rfl, w1, ⟨⟨k1, aa1, ac1, v1, l1, m1, h1⟩, hf1⟩, rfl⟩
  have hk1 : (k1 : Int) + a.length = (z : Int) + 1 := by
    have e1 : s.rest.length = E.tk.length - k1 := by have := h1.rest; rw [show s.rest = E.tk.drop k1 from this, List.length_drop]
    have := HZ.out
    have := h1.hk
    have e2 : a.length ≤ s.rest.length := by rw [(split_some HSP.out).1, List.length_append]; omega
    omega
  have HT := Lib.hid (h1.taken hf1 (a := a) (r := r) HSP.out)
  have hsl2 : (sigs (s.more a).rest).length = sl + 1 := HSL.out
  have hcap := h1.cap
  rw [hsl2] at hcap
  have hacm := h1.acm
  rw [show ((k1 + a.length : Nat) : Int) = (z : Int) + 1 from by omega, hsl2] at HT
  obtain ⟨d0, d1, d2, d3, y1, y2, y3⟩ := four_cells (set4_1 (u := .int .i64 ((z : Int) + 1)) h1.hb)
  rw [hsl2] at d2
  have hb1 := h1.lb
  have p0 : (1 : Int) ≤ (sl : Int) + 1 := by omega
  have p1 : (sl : Int) + 1 ≤ (ac1 : Int) := by omega
  have p2 : (1 : Int) ≤ (ac1 : Int) := by omega
  have p3 : (ac1 : Int) ≤ 9223372036854775807 := by unfold maxLen at hacm; omega
  clear h1 hf1 HKT hk1 hsl2 c2 e3 d0 d1 d3
  have hadd : (fun x : Addr => x.add 1) = fun x => { block := x.block, off := x.off + 1 } := by funext x; simp [Addr.add]
  rw [hadd, Nat.add_sub_cancel] at HT
  clear hadd
  by_cases hq : ac1 = 1
  · subst hq
    obtain rfl : sl = 0 := by omega
    rw [if_pos rfl] at HT
    go_wp2_with fail
    go_end0
    exact ⟨rfl, HT.out⟩
  · rw [if_neg hq] at HT
    go_wp2_with fail
    go_end0
    exact ⟨rfl, HT.out⟩

set_option maxRecDepth 100000 in
theorem accept_any (E : Env) (x : ByteArray) (X : List UInt8) (hX : x = Lx.bs X) (A : Ho) (w0 w : World) (s s' : S) (c : Bool) (hc : atB X s = c) (h : At E A w0 s w) (hr : (if c then take s else some s) = some s') :
    Calls Tryz.prog 98 #[P E, .string x] w fun e w' => e = .returned (.bool c) ∧ At E A w0 s' w' := by
  have K1 := Lib.hid (at_any E x X hX A w0 w s c hc h)
  have K2 := Lib.hid (fun W s' (hr : take s = some s') (h : At E A w0 s W) => take_does E A w0 W s s' h hr)
  clear hc hX h
  cases c with
  | true =>
    have HR := Lib.hid hr
    clear hr
    go_enter Tryz.func98, Tryz.ntmps98
    go_wp2_with fail
    refine K1.out.mono ?_
    rintro e w1 ⟨rfl, h1⟩
    go_wp2_with fail
    refine (K2.out _ _ HR.out h1).mono ?_
    rintro e w2 ⟨rfl, h2⟩
    go_wp2_with fail
    go_ret
    exact ⟨rfl, h2⟩
  | false =>
    have HR := Lib.hid (Option.some.inj hr)
    clear hr
    go_enter Tryz.func98, Tryz.ntmps98
    go_wp2_with fail
    refine K1.out.mono ?_
    rintro e w1 ⟨rfl, h1⟩
    go_wp2_with fail
    go_ret
    exact ⟨rfl, by rw [← HR.out]; exact h1⟩

theorem leaf_ok (k : Int) (h : I64 k) : (leaf k).ok := ⟨h, by show (0 : Nat) ≤ _; omega, by show (0 : Nat) ≤ _; omega⟩

set_option maxRecDepth 100000 in
theorem miss_does (E : Env) : Does E 242 #[P E] missTok := by
  intro A w0 w s s' h hr
  have K := Lib.hid (add_any E (leaf 108) none 0 0 A w0 w s s' (leaf_ok _ (by unfold I64; omega)) (Kids.nil _ _ _ _) h hr)
  go_enter Tryz.func242, Tryz.ntmps242
  go_wp2_with fail
  refine K.out.mono ?_
  rintro e w1 ⟨rfl, h1⟩
  go_wp2_with fail
  go_end0
  exact ⟨rfl, h1⟩

set_option maxRecDepth 100000 in
theorem missing_does (E : Env) : Does E 259 #[P E] missing := by
  intro A w0 w s s' h hr
  have K := Lib.hid (add_any E (leaf 46) none 0 0 A w0 w s s' (leaf_ok _ (by unfold I64; omega)) (Kids.nil _ _ _ _) h hr)
  go_enter Tryz.func259, Tryz.ntmps259
  go_wp2_with fail
  refine K.out.mono ?_
  rintro e w1 ⟨rfl, h1⟩
  go_wp2_with fail
  go_end0
  exact ⟨rfl, h1⟩

set_option maxRecDepth 100000 in
theorem none_does (E : Env) : Does E 246 #[P E] addNone := by
  intro A w0 w s s' h hr
  have K := Lib.hid (add_any E (leaf 0) none 0 0 A w0 w s s' (leaf_ok _ (by unfold I64; omega)) (Kids.nil _ _ _ _) h hr)
  go_enter Tryz.func246, Tryz.ntmps246
  go_wp2_with fail
  refine K.out.mono ?_
  rintro e w1 ⟨rfl, h1⟩
  go_wp2_with fail
  go_end0
  exact ⟨rfl, h1⟩

set_option maxRecDepth 100000 in
theorem expect_does (E : Env) (x : ByteArray) (X : List UInt8) (hX : x = Lx.bs X) : Does E 217 #[P E, .string x] (expect X) := by
  intro A w0 w s s' h hr
  unfold expect at hr
  have KM := Lib.hid (fun W (hr : missTok s = some s') (h : At E A w0 s W) => miss_does E A w0 W s s' h hr)
  cases hc : atB X s with
  | true =>
    rw [hc] at hr
    have K1 := Lib.hid (accept_any E x X hX A w0 w s s' true hc h hr)
    clear hr hc hX
    go_enter Tryz.func217, Tryz.ntmps217
    go_wp2_with fail
    refine K1.out.mono ?_
    rintro e w1 ⟨rfl, h1⟩
    go_wp2_with fail
    go_end0
    exact ⟨rfl, h1⟩
  | false =>
    rw [hc] at hr
    have K1 := Lib.hid (accept_any E x X hX A w0 w s s false hc h rfl)
    have HR := Lib.hid hr
    clear hr hc hX
    go_enter Tryz.func217, Tryz.ntmps217
    go_wp2_with fail
    refine K1.out.mono ?_
    rintro e w1 ⟨rfl, h1⟩
    go_wp2_with fail
    refine (KM.out _ HR.out h1).mono ?_
    rintro e w2 ⟨rfl, h2⟩
    go_wp2_with fail
    go_end0
    exact ⟨rfl, h2⟩

set_option maxRecDepth 100000 in
theorem expName_does (E : Env) : Does E 216 #[P E] expName := by
  intro A w0 w s s' h hr
  unfold expName at hr
  have KM := Lib.hid (fun W (hr : missTok s = some s') (h : At E A w0 s W) => miss_does E A w0 W s s' h hr)
  have KT := Lib.hid (fun W (hr : take s = some s') (h : At E A w0 s W) => take_does E A w0 W s s' h hr)
  cases hc : atName s with
  | true =>
    rw [hc] at hr
    have K1 := Lib.hid (atName_any E A w0 w s true hc h)
    have HR := Lib.hid hr
    clear hr hc
    go_enter Tryz.func216, Tryz.ntmps216
    go_wp2_with fail
    refine K1.out.mono ?_
    rintro e w1 ⟨rfl, h1⟩
    go_wp2_with fail
    refine (KT.out _ HR.out h1).mono ?_
    rintro e w2 ⟨rfl, h2⟩
    go_wp2_with fail
    go_end0
    exact ⟨rfl, h2⟩
  | false =>
    rw [hc] at hr
    have K1 := Lib.hid (atName_any E A w0 w s false hc h)
    have HR := Lib.hid hr
    clear hr hc
    go_enter Tryz.func216, Tryz.ntmps216
    go_wp2_with fail
    refine K1.out.mono ?_
    rintro e w1 ⟨rfl, h1⟩
    go_wp2_with fail
    refine (KM.out _ HR.out h1).mono ?_
    rintro e w2 ⟨rfl, h2⟩
    go_wp2_with fail
    go_end0
    exact ⟨rfl, h2⟩
end Go.Proofs.YtcpojagfnpajeaaGreatDoorR.Ps

namespace Go.Proofs.YtcpojagfnpajeaaGreatDoorR.Ps
open Go.RowKit Go.Shelf

theorem PSG.last {E : Env} {A : Ho} {s : S} {w : World} {k : Nat} {aa : Option Addr} {ac : Nat} {v : Value} {l : List (Tree × Option Addr × Nat)} {m : Nat} (h : PSG E A s w k aa ac v l m) {x : Tree} (hx : s.ch.getLast? = some x) :
    ∃ g cap ra rc l0, v = .slice (some ⟨g, 0, none⟩) (l0.length + 1) cap ∧ l = l0 ++ [(x, ra, rc)] ∧ s.ch.dropLast.length = l0.length ∧ l0.length + 1 ≤ cap ∧ cap ≤ maxLen ∧
      w.cell? ⟨g, l0.length * 3, none⟩ = some (.int .i64 x.k) ∧ w.cell? ⟨g, l0.length * 3 + 1, none⟩ = some (.string x.t) ∧ w.cell? ⟨g, l0.length * 3 + 2, none⟩ = some (.slice ra x.c.length rc) ∧ x.ok ∧
      Kids w (fun j => Pe E w j ∧ j ≠ E.b ∧ v.ownBlock ≠ some j ∧ ¬ A.r j) m ra x.c := by
  have hne : l ≠ [] := fun e => by rw [← h.ch, e] at hx; cases hx
  obtain ⟨l0, ⟨y, ra, rc⟩, rfl⟩ : ∃ l0 y, l = l0 ++ [y] := ⟨l.dropLast, l.getLast hne, (List.dropLast_concat_getLast hne).symm⟩
  have hch := h.ch
  have hxy : y = x := by rw [← hch, List.map_append] at hx; simpa using hx
  subst hxy
  rcases h.own.2 with ⟨_, h0⟩ | ⟨g, cap, cur, hv, _, hg, h1, h2, _, h4⟩
  · simp at h0
  · have hlen : (l0 ++ [(y, ra, rc)]).length = l0.length + 1 := by simp
    rw [hlen] at hv h1 h4
    have hcell : ∀ j u, (tcells (l0 ++ [(y, ra, rc)]))[j]? = some u → w.cell? ⟨g, j, none⟩ = some u := by
      intro j u hu
      rw [← h4, List.getElem?_take] at hu
      split at hu
      · rw [Lib.cell_of_heap hg]; simpa using hu
      · cases hu
    obtain ⟨q0, q1, q2⟩ := tcells_at (l := l0 ++ [(y, ra, rc)]) (i := l0.length) (x := (y, ra, rc)) (by simp)
    have hs := h.sub (y, ra, rc) (by simp)
    refine ⟨g, cap, ra, rc, l0, hv, rfl, ?_, h1, h2, hcell _ _ q0, hcell _ _ q1, hcell _ _ q2, hs.1, hs.2⟩
    rw [← hch, List.map_append]; simp

/-- The last child is cut off. -/
theorem PSG.cutLast {E : Env} {A : Ho} {s : S} {w w0 : World} {k : Nat} {aa : Option Addr} {ac g cap : Nat} {l0 : List (Tree × Option Addr × Nat)} {y : Tree × Option Addr × Nat} {m : Nat} (h : PSG E A s w k aa ac (.slice (some ⟨g, 0, none⟩) (l0.length + 1) cap) (l0 ++ [y]) m) (hf : Fr A.h w0 w) :
    At E A w0 { s with ch := s.ch.dropLast } (w.setCell ⟨E.b, 3, none⟩ (.slice (some ⟨g, 0, none⟩) l0.length cap)) := by
  have hset : ∀ (B : Nat → Prop) (u : Value), (∀ j, B j → j ≠ E.b) → Kept B w (w.setCell ⟨E.b, 3, none⟩ u) := fun B u hB b o hb => World.cell?_of_block (heap_setCell_other w _ b _ (fun e => hB b hb e))
  have hch := h.ch
  have hgb : g ≠ E.b := (h.row g rfl).2
  refine ⟨⟨k, aa, ac, .slice (some ⟨g, 0, none⟩) l0.length cap, l0, m, ⟨set4_3 h.hb, h.hk, h.rest, h.cap, h.acm, h.ints.kept (hset _ _ fun _ hj => hj.2), ?_, ?_, ?_, fun q hq => h.row q hq, h.tks.kept (hset _ _ fun _ hj => hj.2), h.base, fun j hj => (by simp; exact h.lt j hj), h.nb, h.rh, h.tl, h.tcm, h.tcl, h.toks⟩⟩, ?_⟩
  · refine owns_set ?_ _ _ (fun e => hgb (Option.some.inj e))
    refine ⟨by rw [tcells_length], ?_⟩
    have hown := h.own.2
    rw [show (l0 ++ [y]).length = l0.length + 1 from by simp] at hown
    rcases hown with ⟨_, h0⟩ | ⟨g', cap', cur, hv, hb, hg, h1, h2, h3, h4⟩
    · omega
    · cases hv
      refine .inr ⟨g, cap, cur, rfl, hb, hg, by omega, h2, h3, ?_⟩
      · rw [show (l0.length + 1) * 3 = l0.length * 3 + 3 from by omega, tcells_append] at h4
        have := congrArg (List.take (l0.length * 3)) h4
        rw [List.take_take, Nat.min_eq_left (by omega), List.take_append_of_le_length (by rw [tcells_length]; omega)] at this
        rw [this]
        exact List.take_of_length_le (by rw [tcells_length]; omega)
  · show _ = s.ch.dropLast
    rw [← hch, List.map_append]; simp
  · have hs : Sub w (fun j => Pe E w j ∧ j ≠ E.b ∧ (Value.slice (some ⟨g, 0, none⟩) (l0.length + 1) cap).ownBlock ≠ some j ∧ ¬ A.r j) m l0 := fun x hx => h.sub x (by simp [hx])
    exact (hs.kept (hset _ _ fun _ hj => hj.2.1)).up (fun j hj => ⟨hj.1.set _ _, hj.2⟩) (Nat.le_refl _)
  · exact hf.trans ⟨rfl, rfl, rfl, by simp, fun j hj => heap_setCell_other w _ j _ (fun e => by rw [show j = E.b from e] at hj; exact h.nb hj)⟩

set_option maxRecDepth 100000 in
set_option maxHeartbeats 2000000 in
theorem wrap_clo (E : Env) (A : Ho) (w : World) (x : Tree) (ra : Option Addr) (rc mx bp bf bq : Nat) (f : Value) (a : PA) (h0 : w.heap[bp]? = some (.cells #[P E] 89 (0, 0))) (h1 : w.heap[bf]? = some (.cells #[.int .i64 x.k, .string x.t, .slice ra x.c.length rc] 25 (0, 0)))
    (h2 : w.heap[bq]? = some (.cells #[f] 1 (0, 0))) (hp : bp ≠ E.b) (hfb : bf ≠ E.b) (hq : bq ≠ E.b) (hok : x.ok) (hk : Kids w (fun j => (In E A w).h j ∧ ¬ (In E A w).r j ∧ Pe E w j) mx ra x.c) (hc : Clo E A w f a) :
    Clo E A w (.func (.func 307) #[] #[.pointer (some ⟨bp, 0, none⟩), .pointer (some ⟨bf, 0, none⟩), .pointer (some ⟨bq, 0, none⟩)]) (seq [add x, a]) := by
  refine ⟨307, _, _, rfl, enters_of Tryz.func307 (by kernel_rfl) rfl, fun w1 s s' hw hA hr => ?_⟩
  obtain ⟨kf, fs, cs, rfl, he, hcl⟩ := hc
  obtain ⟨m1, hr1, hr2⟩ := seq_some hr
  obtain ⟨m2, hr3, hr4⟩ := seq_some hr2
  obtain rfl := seq_nil hr4
  have l0 := (Array.getElem?_eq_some_iff.1 h0).1
  have l1 := (Array.getElem?_eq_some_iff.1 h1).1
  have l2 := (Array.getElem?_eq_some_iff.1 h2).1
  have HB : Hid (∀ W : World, (∀ j, j < w.heap.size → j ≠ E.b → W.heap[j]? = w.heap[j]?) → W.cell? ⟨bp, 0, none⟩ = some (P E) ∧ W.cell? ⟨bf, 0, none⟩ = some (.int .i64 x.k) ∧ W.cell? ⟨bf, 1, none⟩ = some (.string x.t) ∧ W.cell? ⟨bf, 2, none⟩ = some (.slice ra x.c.length rc) ∧ W.cell? ⟨bq, 0, none⟩ = some (.func (.func kf) fs cs)) := fun W hW =>
    ⟨(one_facts ((hW bp l0 hp).trans h0)).1, (three_facts ((hW bf l1 hfb).trans h1)).1, (three_facts ((hW bf l1 hfb).trans h1)).2.1, (three_facts ((hW bf l1 hfb).trans h1)).2.2.1, (one_facts ((hW bq l2 hq).trans h2)).1⟩
  have KA := Lib.hid (add_any E x ra rc mx (In E A w) w1 w1 s m1 hok ((hk.kept fun j _ hj => World.cell?_of_block (hw j hj.1.1 hj.1.2)).up (fun j hj => ⟨hj.1, hj.2.1, hj.2.2.of_block (hw j hj.1.1 hj.1.2)⟩) (Nat.le_refl _)) hA hr1)
  have KC := Lib.hid hcl
  have HW := Lib.hid hw
  have HR3 := Lib.hid hr3
  obtain ⟨c0, c1, c2, c3, c4⟩ := HB.out w1 hw
  have hsz : bp < w.heap.size ∧ bf < w.heap.size := ⟨l0, l1⟩
  clear hcl hr hr1 hr2 hr3 hr4 hw h0 h1 h2 hA hk
  go_enter Tryz.func307, Tryz.ntmps307
  go_wp2_with fail
  refine KA.out.mono ?_
  rintro e w2 ⟨rfl, hA2⟩
  have hw2 : ∀ j, j < w.heap.size → j ≠ E.b → w2.heap[j]? = w.heap[j]? := fun j hj hjb => (hA2.2.block j ⟨hj, hjb⟩).trans (HW.out j hj hjb)
  obtain ⟨d0, d1, d2, d3, d4⟩ := HB.out w2 hw2
  have KC2 := Lib.hid (KC.out w2 m1 _ hw2 ⟨hA2.1, Fr.refl _ _⟩ HR3.out)
  have HA2 := Lib.hid hA2
  clear KA c0 c1 c2 c3 c4 hA2 hw2
  go_wp2_with fail
  refine KC2.out.mono ?_
  rintro e w3 ⟨rfl, hA3⟩
  go_wp2_with fail
  go_end0
  exact ⟨rfl, hA3.1, HA2.out.2.trans hA3.2⟩

theorem wrap_some {K : Int} {a : PA} {s s' : S} (h : wrap K a s = some s') : ∃ x, s.ch.getLast? = some x ∧ node K (seq [add x, a]) { s with ch := s.ch.dropLast } = some s' := by
  unfold wrap at h
  cases hx : s.ch.getLast? with
  | none => simp [hx] at h
  | some x => exact ⟨x, rfl, by simpa [hx] using h⟩

set_option maxRecDepth 100000 in
set_option maxHeartbeats 4000000 in
theorem wrap_any (E : Env) (K : Int) (hK : I64 K) (f : Value) (a : PA) (A : Ho) (w0 w : World) (s s' : S) (hc : ∀ w1 : World, (∀ j, j < w.heap.size → j ≠ E.b → w1.heap[j]? = w.heap[j]?) → Clo E A w1 f a) (h : At E A w0 s w) (hr : wrap K a s = some s') :
    Calls Tryz.prog 275 #[P E, .int .i64 K, f] w fun e w' => e = .returned (.tuple #[]) ∧ At E A w0 s' w' := by
  obtain ⟨x, hx, hn⟩ := wrap_some hr
  obtain ⟨⟨k, aa, ac, v, l, m, hp⟩, hf⟩ := h
  obtain ⟨g, cap, ra, rc, l0, rfl, rfl, hl0, hcp, hcm, q0, q1, q2, hok, hk⟩ := hp.last hx
  have HB2 : Hid (∀ W : World, Below w.heap.size w W → PSG E A s W k aa ac (.slice (some ⟨g, 0, none⟩) (l0.length + 1) cap) (l0 ++ [(x, ra, rc)]) m ∧ Fr A.h w0 W) := fun W hW => ⟨hp.grow hW, hf.trans (Fr.of_below hW hp.lt)⟩
  have HKI := Lib.hid hk
  have HC := Lib.hid hc
  obtain ⟨kf, fs, cs, rfl, _, _⟩ := hc w (fun _ _ _ => rfl)
  have HN := Lib.hid hn
  have HOK := Lib.hid hok
  obtain ⟨c0, c1, c2, c3, _, _, z3⟩ := four_cells hp.hb
  have hlb := hp.lb
  have hgl : g < w.heap.size := hp.vlt rfl
  have hln : Hid (l0.length + 1 < 1000000000) := by
    obtain ⟨s2, ha⟩ : ∃ s2, node K (seq [add x, a]) { s with ch := s.ch.dropLast } = some s2 := ⟨_, hn⟩
    have : s.ch.dropLast.length < 1000000 := by
      unfold node at ha
      cases hb : seq [add x, a] { s with ch := [] } with
      | none => simp [hb] at ha
      | some s2 =>
        simp only [hb, Option.bind_some] at ha
        split at ha
        · rename_i q; exact q
        · cases ha
    show _ < _
    omega
  have hln2 := hln.out
  have g0 : (l0.length : Int) < (l0.length : Int) + 1 := by omega
  have g1 : IntKind.i64.wrap ((l0.length : Int) + 1 - 1) = (l0.length : Int) := by rw [show ((l0.length : Int) + 1 - 1) = l0.length from by omega]; exact IntWalk.i64_in _ (by omega)
  clear hr hx hn hp hf hk hc hl0
  go_enter Tryz.func275, Tryz.ntmps275
  go_upto_region 3 with fail
  obtain ⟨W2, hW2⟩ : ∃ W2, W2 = (((w.alloc (.cells #[P E] 89)).alloc (.cells #[.func (.func kf) fs cs] 1)).alloc (.cells #[.int .i64 x.k, .string x.t, .slice ra x.c.length rc] 25)) := ⟨_, rfl⟩
  have hB : Below w.heap.size w W2 := by rw [hW2]; exact (((Below.refl _ _).alloc (Nat.le_refl _) _).alloc (by simp) _).alloc (by simp; omega) _
  have hZ : W2.heap.size = w.heap.size + 3 := by rw [hW2]; simp
  have b0 : W2.heap[w.heap.size]? = some (.cells #[P E] 89 (0, 0)) := by rw [hW2]; exact alloc_keeps _ (alloc_keeps _ (heap_alloc_new w _))
  have b1 : W2.heap[w.heap.size + 1]? = some (.cells #[.func (.func kf) fs cs] 1 (0, 0)) := by
    rw [hW2]
    have := heap_alloc_new (w.alloc (.cells #[P E] 89)) (.cells #[.func (.func kf) fs cs] 1)
    rw [show (w.alloc (.cells #[P E] 89)).heap.size = w.heap.size + 1 from by simp] at this
    exact alloc_keeps _ this
  have b2 : W2.heap[w.heap.size + 1 + 1]? = some (.cells #[.int .i64 x.k, .string x.t, .slice ra x.c.length rc] 25 (0, 0)) := by
    rw [hW2]
    have := heap_alloc_new ((w.alloc (.cells #[P E] 89)).alloc (.cells #[.func (.func kf) fs cs] 1)) (.cells #[.int .i64 x.k, .string x.t, .slice ra x.c.length rc] 25)
    rwa [show ((w.alloc (.cells #[P E] 89)).alloc (.cells #[.func (.func kf) fs cs] 1)).heap.size = w.heap.size + 2 from by simp] at this
  rw [← hW2]
  have hP2 := (HB2.out W2 hB).1
  obtain ⟨_, _, _, e3, _, _, y3⟩ := four_cells hP2.hb
  have e3' : W2.drew.cell? ⟨E.b, 3, none⟩ = some (.slice (some ⟨g, 0, none⟩) (l0.length + 1) cap) := e3
  have y3' : W2.drew.frozen? ⟨E.b, 3, none⟩ = false := y3
  have p0 : W2.cell? ⟨w.heap.size, 0, none⟩ = some (P E) := (one_facts b0).1
  have p0' : W2.drew.cell? ⟨w.heap.size, 0, none⟩ = some (P E) := p0
  have HX : Hid (∀ w3, w3 = W2.drew.setCell ⟨E.b, 3, none⟩ (.slice (some ⟨g, 0, none⟩) l0.length cap) → At E A w0 { s with ch := s.ch.dropLast } w3 ∧ w3.cell? ⟨w.heap.size, 0, none⟩ = some (P E) ∧
      Clo E A w3 (.func (.func 307) #[] #[.pointer (some ⟨w.heap.size, 0, none⟩), .pointer (some ⟨w.heap.size + 1 + 1, 0, none⟩), .pointer (some ⟨w.heap.size + 1, 0, none⟩)]) (seq [add x, a])) := by
    rintro w3 rfl
    have hBd : Below w.heap.size w W2.drew := hB.drew
    obtain ⟨hPd, hFd⟩ := HB2.out W2.drew hBd
    have hne : ∀ j, j ≠ E.b → (W2.drew.setCell ⟨E.b, 3, none⟩ (.slice (some ⟨g, 0, none⟩) l0.length cap)).heap[j]? = W2.heap[j]? := fun j hj => heap_setCell_other W2.drew ⟨E.b, 3, none⟩ j _ (fun e => hj e)
    have hcut := hPd.cutLast hFd
    have n0 : w.heap.size ≠ E.b := by omega
    have n1 : w.heap.size + 1 ≠ E.b := by omega
    have n2 : w.heap.size + 1 + 1 ≠ E.b := by omega
    have hsame : ∀ j, j < w.heap.size → j ≠ E.b → (W2.drew.setCell ⟨E.b, 3, none⟩ (.slice (some ⟨g, 0, none⟩) l0.length cap)).heap[j]? = w.heap[j]? := fun j hj hb => (hne j hb).trans (hB.block j hj)
    have hcell : (W2.drew.setCell ⟨E.b, 3, none⟩ (.slice (some ⟨g, 0, none⟩) l0.length cap)).cell? ⟨E.b, 3, none⟩ = some (.slice (some ⟨g, 0, none⟩) l0.length cap) := (four_cells (set4_3 hPd.hb)).2.2.2.1
    refine ⟨hcut, (one_facts ((hne _ n0).trans b0)).1, wrap_clo E A _ x ra rc m _ _ _ _ a ((hne _ n0).trans b0) ((hne _ n2).trans b2) ((hne _ n1).trans b1) n0 n2 n1 HOK.out ?_ (HC.out _ hsame)⟩
    refine (HKI.out.kept fun j _ hj => World.cell?_of_block (hsame j hj.1.lt hj.2.1)).up (fun j hj => ⟨⟨by have := hj.1.lt; simp; omega, hj.2.1⟩, fun hr => ?_, hj.1.of_block (hsame j hj.1.lt hj.2.1)⟩) (Nat.le_refl _)
    rcases hr with hr | ⟨v', hv', e⟩
    · exact hj.2.2.2 hr
    · rw [hcell] at hv'
      cases hv'
      exact hj.2.2.1 e
  have r0 : (0 : Int) ≤ (l0.length : Int) := by omega
  have r1 : (l0.length : Int) ≤ (cap : Int) := by omega
  have r2 : (cap : Int) ≤ 9223372036854775807 := by unfold maxLen at hcm; omega
  clear hW2 hB b0 b1 b2 hP2 c0 c1 c2 c3 q0 q1 q2 HB2 HKI HC z3 hgl
  go_region
  all_goals
    obtain ⟨w3, hw3⟩ : ∃ w3, w3 = (W2.setCell ⟨E.b, 3, none⟩ (.slice (some ⟨g, 0, none⟩) l0.length cap)).drew := ⟨_, rfl⟩
    obtain ⟨hA, pc, hcl⟩ := HX.out w3 (hw3.trans rfl)
    have KN := Lib.hid (node_any E K hK _ _ A w0 w3 _ s' hcl hA HN.out)
    rw [← hw3]
    have hsz3 : w.heap.size < w3.heap.size := by rw [hw3]; simp; omega
    clear hw3 hcl hA HX e3 y3 e3' y3' p0 p0'
    go_wp2_with fail
    refine KN.out.mono ?_
    rintro e w4 ⟨rfl, h4⟩
    go_wp2_with fail
    go_end0
    exact ⟨rfl, h4⟩
end Go.Proofs.YtcpojagfnpajeaaGreatDoorR.Ps
