/-
  copyNodes of the program, Clone of the reference, by their contracts.
-/
import Derived.Test.YtbgahkicinkgfaaGreatGtOwn
import Derived.Test.YtbgahkicinkgfaaGreatGtValid
import Derived.Deep.DeepCutAuto
namespace Go.Proofs.YtbgahkicinkgfaaGreat
open Go.RowKit

/-- The slice of nodes as a source of an append. -/
theorem Nodes.src {w : World} {S : Nat → Prop} {a : Option Addr} {l : List N} (h : Nodes w S a l) (cap : Nat) (hn : a = none → l = [] ∧ cap = 0) : SrcIs w (.slice a l.length cap) l.length 4 (ncells l) := by
  refine ⟨ncells_length l, ncells_one l, ?_⟩
  cases a with
  | none =>
    obtain ⟨rfl, rfl⟩ := hn rfl
    exact Or.inl ⟨rfl, rfl⟩
  | some ad =>
    refine Or.inr ⟨ad, cap, rfl, fun j u hu => ?_⟩
    have hj : j < (ncells l).length := (List.getElem?_eq_some_iff.1 hu).1
    rw [ncells_length] at hj
    have hx : l[j / 4]? = some (l[j / 4]'(by omega)) := List.getElem?_eq_getElem (by omega)
    generalize l[j / 4]'(by omega) = x at hx
    obtain ⟨q0, q1, q2, q3⟩ := ncells_at hx
    obtain ⟨_, b, o, hab, _, p0, p1, p2, p3, _⟩ := h _ x hx
    cases hab
    have hadd : (⟨b, o, none⟩ : Addr).add j = ⟨b, o + j, none⟩ := by unfold Addr.add; split <;> simp_all
    rw [hadd]
    have hm : j % 4 = 0 ∨ j % 4 = 1 ∨ j % 4 = 2 ∨ j % 4 = 3 := by omega
    rcases hm with h | h | h | h
    · rw [show j = j / 4 * 4 from by omega] at hu
      rw [hu] at q0
      cases q0
      rw [show o + j = o + j / 4 * 4 from by omega]; exact p0
    · rw [show j = j / 4 * 4 + 1 from by omega] at hu
      rw [hu] at q1
      cases q1
      rw [show o + j = o + j / 4 * 4 + 1 from by omega]; exact p1
    · rw [show j = j / 4 * 4 + 2 from by omega] at hu
      rw [hu] at q2
      cases q2
      rw [show o + j = o + j / 4 * 4 + 2 from by omega]; exact p2
    · rw [show j = j / 4 * 4 + 3 from by omega] at hu
      rw [hu] at q3
      cases q3
      rw [show o + j = o + j / 4 * 4 + 3 from by omega]; exact p3

/-- All blocks that there are but the slice's own. -/
def Off (w : World) (v : Value) : Nat → Prop := fun b => b < w.heap.size ∧ v.ownBlock ≠ some b

set_option maxHeartbeats 4000000 in
theorem copy_any (l : List N) (a : Option Addr) (cap : Nat) (w : World) (hlen : l.length ≤ 4000) (hn : Nodes w (· < w.heap.size) a l) :
    Calls Tryz.prog 22 #[.slice a l.length cap] w fun e w' => ∃ v l', e = .returned v ∧ gs l' = gs l ∧ OwnsN w' w.heap.size v l' ∧ Chl w' (Off w' v) l' ∧ Below w.heap.size w w' := by
  obtain ⟨i0, hi, hz0, hz1, hz2⟩ := info_parts info_node
  obtain ⟨j0, ji, jz0, jz1, jz2⟩ := info_parts info_int
  have HN := Lib.hid hn
  clear hn
  have hl : (l.length : Int) ≤ 4000 := by omega
  go_enter Tryz.func22, Tryz.ntmps22
  go_wp2_with (first | (refine wpList_make_own _ rfl _ _ 30 rfl w.heap.size 78 i0 _ 4 Tryz.underlying30 hi hz0 hz1 .i64 .i64 _ l.length rfl rfl rfl (by rw [hz2]; omega) (by unfold maxLen; omega) (Nat.le_refl _) ?_; intro w1 hown1 hgrow1))
  have hb1 : Hid (Below w.heap.size w w1) := (Below.refl _ _).grown hgrow1 (Nat.le_refl _) (fun j hj => by cases hj)
  have HO := Lib.hid hown1
  have hlt1 : w.heap.size < w1.heap.size := (HO.out.lt w.heap.size rfl).2
  clear hown1 hgrow1
  go_loopw [3, 11] (fun v i wr => ∃ (k : Nat) (l' : List N), k ≤ l.length ∧ i = .int .i64 k ∧ v = .slice (some ⟨w.heap.size, 0, none⟩) k l.length ∧ Hid (gs l' = (gs l).take k ∧ wr.ownsRow w.heap.size 78 4 (.slice (some ⟨w.heap.size, 0, none⟩) k l.length) k (ncells l') ∧
      Chl wr (fun b => b < wr.heap.size ∧ w.heap.size ≠ b) l' ∧ Below w.heap.size w wr) ∧ w.heap.size < wr.heap.size)
    (fun _ i _ => l.length - (intOf i).toNat)
  case atStart => exact ⟨0, [], Nat.zero_le _, rfl, rfl, ⟨rfl, HO.out, Chl.nil _ _, hb1.out⟩, hlt1⟩
  case round =>
    obtain ⟨k, l', hk, rfl, rfl, hH, hlt0⟩ := hrel
    by_cases hlt : k < l.length
    · have hx : l[k]? = some l[k] := List.getElem?_eq_getElem hlt
      obtain ⟨x, hX⟩ : ∃ x, x = l[k] := ⟨_, rfl⟩
      rw [← hX] at hx
      clear hX
      have HX := Lib.hid hx
      obtain ⟨⟨o1, o2, o3, o4, o5, o6⟩, b, o, rfl, _, p0, p1, p2, p3, pI⟩ := (HN.out.to hH.out.2.2.2) k x hx
      have hk0 : (0 : Int) ≤ (k : Int) := by omega
      have hk1 : (k : Int) < (l.length : Int) := by omega
      have HSRC := Lib.hid ((pI.alloc (nodeBox x.g.k x.g.w x.g.t (.slice x.a x.g.c.length x.cap))).src x.cap o6)
      have HOK : Hid (I64 x.g.k ∧ I64 x.g.w ∧ x.g.t.size ≤ maxLen ∧ x.g.c.length * 8 ≤ 140737488351232 ∧ (∀ z, z ∈ x.g.c → I64 z)) := ⟨o1, o2, o3, o4, o5⟩
      have hcn : x.g.c.length ≤ 17592186043904 := by omega
      have HLT := Lib.hid hlt
      clear hx o1 o2 o3 o4 o5 o6 pI
      have G1 : Hid ((wr.alloc (nodeBox x.g.k x.g.w x.g.t (.slice x.a x.g.c.length x.cap))).heap[wr.heap.size]? = some (.cells #[.int .i64 x.g.k, .int .i64 x.g.w, .string x.g.t, .slice x.a x.g.c.length x.cap] 78 (0, 0))) := heap_alloc_new wr _
      have hrow := Lib.hid (hH.out.2.1.alloc (nodeBox x.g.k x.g.w x.g.t (.slice x.a x.g.c.length x.cap)))
      go_upto_region 6 with (at_builtin; refine wpList_append_src rfl _ _ 51 rfl w.heap.size 3 j0 (.int .i64 0) 1 8 Tryz.underlying51 ji jz0 jz1 jz2 rfl (by decide) _ _ _ rfl (World.ownsRow_nil _ w.heap.size 3 1) _ x.g.c.length (iCells x.g.c) rfl HSRC.out (by unfold maxLen; omega) (by omega) (by simp; omega) ?_; intro v2 w2 hown2 hgrow2 hloc2; have HGR : Hid ((wr.alloc (nodeBox x.g.k x.g.w x.g.t (.slice x.a x.g.c.length x.cap))).grownBy w2 none) := hgrow2; clear hgrow2; have hsz2 := HGR.out.size; have G2 := (HGR.out.block wr.heap.size (by simp) (by simp)).trans G1.out; obtain ⟨c0, c1, c2, c3, _, f3⟩ := four_facts G2; have HG2 := Lib.hid G2; clear G2; rw [Nat.zero_add, List.nil_append] at hown2; obtain ⟨a2, cap2, rfl, hI2, hn2⟩ := OwnsI.ints (B := w.heap.size) hown2; have HW2 := Lib.hid (And.intro hloc2 (And.intro hI2 (And.intro hn2 hown2))); clear hloc2 hI2 hn2 hown2; have hrow3 := Lib.hid (owns_set (hrow.out.kept HGR.out (Or.inr (by simp [Value.ownBlock]))) ⟨wr.heap.size, 3, none⟩ (.slice a2 x.g.c.length cap2) (by simp [Value.ownBlock]; omega)))
      clear hlt hk1 hk0
      go_wp2_with (at_builtin; refine wpList_append_fits _ rfl _ _ 30 rfl w.heap.size 78 i0 4 Tryz.underlying30 hi hz1 w.heap.size k l.length _ rfl (hrow3.out.alloc _) ⟨w2.heap.size, 0, none⟩ 1 1 [.int .i64 x.g.k, .int .i64 x.g.w, .string x.g.t, .slice a2 x.g.c.length cap2] rfl rfl (World.news_of_block (new_set _ _ _ _ _)) (by simp [Value.oneCell']) (by have := HLT.out; omega) ?_; intro w3 hown3 hgrow3)
      have hsz3 := hgrow3.size
      simp at hsz3
      have hszr := HGR.out.size
      simp at hszr
      have e1 : (wr.alloc (nodeBox x.g.k x.g.w x.g.t (.slice x.a x.g.c.length x.cap))).heap.size = wr.heap.size + 1 := by simp
      have K23 : ∀ S : Nat → Prop, (∀ b, S b → b < w2.heap.size ∧ b ≠ wr.heap.size ∧ b ≠ w.heap.size) → Kept S w2 w3 := fun S hS =>
        ((kept_grown (grown_set w2 ⟨wr.heap.size, 3, none⟩ (.slice a2 x.g.c.length cap2)) (fun b hb => ⟨(hS b hb).1, by simp; exact (hS b hb).2.1⟩)).trans
          (kept_grown (grown_al _ _ none) (fun b hb => ⟨by have := (hS b hb).1; simp; omega, by simp⟩))).trans
          (kept_grown hgrow3 (fun b hb => ⟨by have := (hS b hb).1; simp; omega, by simp; exact (hS b hb).2.2⟩))
      have Kr3 : Kept (fun b => b < wr.heap.size ∧ w.heap.size ≠ b) wr w3 :=
        ((kept_grown (grown_al _ _ none) (fun b hb => ⟨hb.1, by simp⟩)).trans (kept_grown HGR.out (fun b hb => ⟨by have := hb.1; omega, by simp⟩))).trans
          (K23 _ (fun b hb => ⟨by have := hb.1; omega, by have := hb.1; omega, fun e => hb.2 e.symm⟩))
      have hblk : ∀ b, (Value.slice a2 x.g.c.length cap2).ownBlock = some b → b = wr.heap.size + 1 ∧ b < w2.heap.size := by
        intro b hb
        have hown := HW2.out.2.2.2
        have h1 := (World.ownsRow.lt hown b hb).2
        refine ⟨?_, h1⟩
        have hl2 : (Value.slice a2 x.g.c.length cap2).ownBlock = none ∨ (Value.slice a2 x.g.c.length cap2).ownBlock = some (wr.alloc (nodeBox x.g.k x.g.w x.g.t (.slice x.a x.g.c.length x.cap))).heap.size := HW2.out.1
        rw [hb, e1] at hl2
        rcases hl2 with h | h
        · cases h
        · exact Option.some.inj h
      have hnew : Chl w3 (fun b => b < w3.heap.size ∧ w.heap.size ≠ b) (l' ++ [⟨x.g, a2, cap2⟩]) := by
        refine Chl.snoc ((hH.out.2.2.1.kept Kr3).sub (fun b hb => ⟨by have := hb.1; omega, hb.2⟩)) ?_ ?_
        · exact ⟨HOK.out.1, HOK.out.2.1, HOK.out.2.2.1, HOK.out.2.2.2.1, HOK.out.2.2.2.2, HW2.out.2.2.1⟩
        · exact (HW2.out.2.1.kept (K23 _ (fun b hb => ⟨(hblk b hb).2, by have := (hblk b hb).1; omega, by have := (hblk b hb).1; omega⟩))).sub (fun b hb => ⟨by have := (hblk b hb).2; omega, by have := (hblk b hb).1; omega⟩)
      have hgs : gs (l' ++ [⟨x.g, a2, cap2⟩]) = (gs l).take (k + 1) := by
        rw [List.take_add_one, gs_at HX.out, ← hH.out.1]
        simp [gs]
      have hrow4 : w3.ownsRow w.heap.size 78 4 (.slice (some ⟨w.heap.size, 0, none⟩) (k + 1) l.length) (k + 1) (ncells (l' ++ [⟨x.g, a2, cap2⟩])) := by
        rw [ncells_append]; exact hown3
      have hbel : Below w.heap.size w w3 := by
        have q1 := (hH.out.2.2.2.alloc (by omega) (nodeBox x.g.k x.g.w x.g.t (.slice x.a x.g.c.length x.cap))).grown HGR.out (by omega) (fun j hj => by cases hj)
        have q2 := (q1.setCell (p := ⟨wr.heap.size, 3, none⟩) (by simp; omega) (.slice a2 x.g.c.length cap2)).alloc (by simp; omega) (.cells #[.int .i64 x.g.k, .int .i64 x.g.w, .string x.g.t, .slice a2 x.g.c.length cap2] 78)
        exact q2.grown hgrow3 (by simp; omega) (fun j hj => by cases hj; exact Nat.le_refl _)
      have HFIN := Lib.hid (And.intro hgs (And.intro hrow4 (And.intro hnew hbel)))
      have hkk : k + 1 ≤ l.length := by have := HLT.out; omega
      have hlt3 : w.heap.size < w3.heap.size := by omega
      clear hown3 hgrow3 K23 Kr3 hblk hnew hgs hrow4 hbel hszr hsz3 e1 hk
      go_wp2_with fail
      go_roundw
      case rel => exact ⟨k + 1, _, hkk, by go_num, rfl, HFIN, hlt3⟩
      case measure => simp [intOf]; omega
    · obtain rfl : k = l.length := by omega
      have HFIN : Hid (gs l' = gs l) := by
        have := hH.out.1
        rwa [List.take_of_length_le (by rw [gs_len]; omega)] at this
      have hll : l'.length = l.length := by
        have := congrArg List.length HFIN.out
        simpa [gs] using this
      have HO2 : Hid (OwnsN wr w.heap.size (.slice (some ⟨w.heap.size, 0, none⟩) l.length l.length) l' ∧ Chl wr (Off wr (.slice (some ⟨w.heap.size, 0, none⟩) l.length l.length)) l') := by
        refine ⟨?_, hH.out.2.2.1.sub (fun b hb => ⟨hb.1, by simp [Value.ownBlock]; exact hb.2⟩)⟩
        unfold OwnsN
        rw [hll]
        exact hH.out.2.1
      clear hll
      go_wp2_with fail
      go_ret
      exact ⟨_, l', rfl, HFIN.out, HO2.out.1, HO2.out.2, hH.out.2.2.2⟩
end Go.Proofs.YtbgahkicinkgfaaGreat
