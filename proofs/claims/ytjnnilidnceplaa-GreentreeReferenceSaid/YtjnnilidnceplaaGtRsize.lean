/-
  ArenaTreeSize of the reference, by its contract.
-/
import Derived.Test.YtjnnilidnceplaaGtExpand
import Derived.StillTailTactics
import Derived.Deep.DeepCutAuto
namespace Go.Proofs.Ytjnnilidnceplaa
open Go.RowKit

/-- The row of n integers in block g. -/
def RowI (w : World) (g n : Nat) (f : Nat → Int) : Prop := g < w.heap.size ∧ ∀ j, j < n → w.cell? ⟨g, j, none⟩ = some (.int .i64 (f j)) ∧ w.frozen? ⟨g, j, none⟩ = false

def upd (f : Nat → Int) (i : Nat) (v : Int) : Nat → Int := fun j => if j = i then v else f j
theorem upd_same (f : Nat → Int) (i : Nat) (v : Int) : upd f i v i = v := by simp [upd]
theorem upd_other (f : Nat → Int) (i : Nat) (v : Int) {j : Nat} (h : j ≠ i) : upd f i v j = f j := by simp [upd, h]

theorem RowI.to {w w' : World} {g n : Nat} {f : Nat → Int} (h : RowI w g n f) (hb : Below w.heap.size w w') : RowI w' g n f :=
  ⟨Nat.lt_of_lt_of_le h.1 hb.size, fun j hj => ⟨(hb.cell (p := ⟨g, j, none⟩) h.1).trans (h.2 j hj).1, (hb.frozen (p := ⟨g, j, none⟩) h.1).trans (h.2 j hj).2⟩⟩
theorem RowI.set {w : World} {g n : Nat} {f : Nat → Int} (h : RowI w g n f) (i : Nat) (v : Int) : RowI (w.setCell ⟨g, i, none⟩ (.int .i64 v)) g n (upd f i v) := by
  refine ⟨by simp; exact h.1, fun j hj => ⟨?_, by rw [World.frozen?_setCell]; exact (h.2 j hj).2⟩⟩
  by_cases e : j = i
  · subst e
    rw [upd_same]
    have := (h.2 j hj).1
    simp [go_sem, this]
  · rw [upd_other f i v e]
    rw [World.cell?_setCell_other w ⟨g, i, none⟩ ⟨g, j, none⟩ _ (by intro q; cases q; exact e rfl)]
    exact (h.2 j hj).1

/-- A size, cut. -/
def m4 (s : Nat) : Int := if s ≤ 4001 then (s : Int) else 4001
theorem m4_bd (s : Nat) : 0 ≤ m4 s ∧ m4 s ≤ 4001 := by unfold m4; split <;> omega
theorem m4_add (a b : Nat) : (if 4001 < m4 a + m4 b then 4001 else m4 a + m4 b) = m4 (a + b) := by unfold m4; split <;> split <;> split <;> split <;> omega

theorem made_zero (n j : Nat) (h : j < n) : (madeCells (Value.int .i64 0).cells n).toList[j]? = some (.int .i64 0) := by
  simp [madeCells, Value.cells, h, Nat.mod_one]

theorem RowI.made {w : World} {B g n cap : Nat} (h : w.ownsRow B 3 1 (.slice (some ⟨g, 0, none⟩) n cap) n (madeCells (Value.int .i64 0).cells n).toList) : RowI w g n (fun _ => 0) := by
  have hc := h.cells (g := g) rfl
  refine ⟨(h.lt g rfl).2, fun j hj => ⟨?_, ?_⟩⟩
  · have := hc j _ (made_zero n j hj)
    have hadd : (⟨g, 0, none⟩ : Addr).add j = ⟨g, j, none⟩ := by unfold Addr.add; split <;> simp_all
    rwa [hadd] at this
  · rcases h.2 with ⟨e, _⟩ | ⟨g', c', cur, e, _, hg, _⟩
    · cases e
    · cases e
      exact Lib.frozen_of_heap hg j

set_option maxHeartbeats 4000000 in
theorem rsize_any (l : List N) (a : Option Addr) (cap : Nat) (i : Nat) (w : World) (hlen : l.length ≤ 4000) (hd : Down (gs l)) (hi : i < l.length) (hn : Nodes w (· < w.heap.size) a l) :
    Calls Try.prog 15 #[.agg #[.slice a l.length cap], .int .i64 i] w fun e w' => e = .returned (.int .i64 (m4 (szAt (gs l) i))) ∧ Below w.heap.size w w' := by
  obtain ⟨j0, ji, jz0, jz1, jz2⟩ := info_parts info_int
  have HN := Lib.hid hn
  clear hn
  have hl : (l.length : Int) ≤ 4000 := by omega
  have hi0 : (0 : Int) ≤ (i : Int) := by omega
  have hi1 : (i : Int) < (l.length : Int) := by omega
  go_enter Try.func15, Try.ntmps15
  go_wp2_with (first | (refine wpList_make_full _ rfl _ _ 46 rfl (w.heap.size + 1) 3 j0 (.int .i64 0) 1 Try.underlying46 ji jz0 jz1 .i64 .i64 _ _ l.length rfl rfl rfl rfl (by rw [jz2]; omega) (by unfold maxLen; omega) (by simp) ?_; intro w1 hown1 hgrow1; have c1 : w1.cell? ⟨w.heap.size, 0, none⟩ = some (.slice a l.length cap) := (hgrow1.cell_far ⟨w.heap.size, 0, none⟩ (by simp) (by simp)).trans (by simp [go_sem])))
  have hR0 : Hid (RowI w1 (w.heap.size + 1) l.length (fun _ => 0)) := RowI.made (B := w.heap.size + 1) (by have h := hown1; simp at h; exact h)
  have hb1 : Hid (Below w.heap.size w w1) := ((Below.refl _ _).alloc (Nat.le_refl _) (oneBox (.slice a l.length cap))).grown hgrow1 (by simp) (fun j hj => by cases hj)
  clear hown1 hgrow1 c1
  go_loopw [17] (fun p wr => ∃ (k : Nat) (f : Nat → Int), k ≤ l.length ∧ p = .int .i64 k ∧ Hid (RowI wr (w.heap.size + 1) l.length f) ∧ Hid (∀ j, j < k → f j = m4 (szAt (gs l) j)) ∧ Hid (Below w.heap.size w wr))
    (fun p _ => l.length - (intOf p).toNat)
  case atStart => exact ⟨0, _, Nat.zero_le _, rfl, hR0, fun j hj => absurd hj (by omega), hb1⟩
  case round =>
    obtain ⟨k, f, hk, rfl, hR, hf, hbw⟩ := hrel
    obtain ⟨wo, rfl⟩ : ∃ wo : World, wo = wr := ⟨_, rfl⟩
    by_cases hlt : k < l.length
    · obtain ⟨x, hX⟩ : ∃ x, l[k]? = some x := ⟨_, List.getElem?_eq_getElem hlt⟩
      obtain ⟨⟨_, _, _, hc8, _⟩, b, o, rfl, _, q0, q1, q2, q3, qI⟩ := (HN.out.below hbw.out) k x hX
      obtain ⟨xa, hxa⟩ : ∃ xa, xa = x.a := ⟨_, rfl⟩
      rw [← hxa] at q3 qI
      clear hxa
      have HS := Lib.hid (szAt_eq hd (gs_at hX))
      have HRR := Lib.hid (hd k x.g (gs_at hX))
      have H2 := Lib.hid qI
      have hk0 : (0 : Int) ≤ (k : Int) := by omega
      have hk1 : (k : Int) < (l.length : Int) := by omega
      have hcn : (x.g.c.length : Int) ≤ 17592186043904 := by omega
      have hg0 := hR.out.1
      have hsep : Hid (Below wo.heap.size wo (wo.alloc (nodeBox x.g.k x.g.w x.g.t (.slice xa x.g.c.length x.cap)))) := (Below.refl _ _).alloc (Nat.le_refl _) _
      have hR1 := hR.out.to hsep.out
      obtain ⟨c5, d5⟩ := hR1.2 k hlt
      clear qI hX hc8
      unfold nodeBox at c5 d5
      go_upto_region 6 with fail
      have hW2 : Hid (Below w.heap.size w ((wo.setCell ⟨w.heap.size + 1, k, none⟩ (.int .i64 1)).alloc (nodeBox x.g.k x.g.w x.g.t (.slice xa x.g.c.length x.cap)))) := (hbw.out.setCell (p := ⟨w.heap.size + 1, k, none⟩) (Nat.le_succ _) _).alloc (by simp; omega) _
      have hR2 : Hid (RowI ((wo.setCell ⟨w.heap.size + 1, k, none⟩ (.int .i64 1)).alloc (nodeBox x.g.k x.g.w x.g.t (.slice xa x.g.c.length x.cap))) (w.heap.size + 1) l.length (upd f k 1)) := (hR.out.set k 1).to ((Below.refl _ _).alloc (Nat.le_refl _) _)
      have hI2 : Hid (Ints ((wo.setCell ⟨w.heap.size + 1, k, none⟩ (.int .i64 1)).alloc (nodeBox x.g.k x.g.w x.g.t (.slice xa x.g.c.length x.cap))) (· < w.heap.size) xa x.g.c) := H2.out.kept ((kept_set wo (w.heap.size + 1) k _ _ (fun b hb => by have : b < w.heap.size := hb; omega)).trans (kept_below ((Below.refl _ _).alloc (by simp; omega) _)))
      have hf2 : Hid (∀ j, j < k → upd f k 1 j = m4 (szAt (gs l) j)) := fun j hj => by rw [upd_other f k 1 (by omega)]; exact hf.out j hj
      have hfk : Hid (upd f k 1 k = m4 (1 + sumC (szAt (gs l)) (x.g.c.take 0))) := by show _ = _; rw [upd_same]; simp [sumC, m4]
      have hbox : Hid (((wo.setCell ⟨w.heap.size + 1, k, none⟩ (.int .i64 1)).alloc (nodeBox x.g.k x.g.w x.g.t (.slice xa x.g.c.length x.cap))).cell? ⟨wo.heap.size, 3, none⟩ = some (.slice xa x.g.c.length x.cap)) := by
        show _ = _
        simp [nodeBox, go_sem]
      clear hR hf hsep hR1 c5 d5 H2 hbw q0 q1 q2 q3
      generalize upd f k 1 = f2 at *
      have hbox' := hbox.out
      unfold nodeBox at hbox'
      go_wp2_with fail
      go_loopw [28] (fun p wr => ∃ (q : Nat) (f' : Nat → Int), q ≤ x.g.c.length ∧ p = .int .i64 q ∧ Hid (RowI wr (w.heap.size + 1) l.length f') ∧ Hid (∀ j, j < k → f' j = m4 (szAt (gs l) j)) ∧ Hid (f' k = m4 (1 + sumC (szAt (gs l)) (x.g.c.take q))) ∧ Hid (Below w.heap.size w wr) ∧ Hid (Ints wr (· < w.heap.size) xa x.g.c))
        (fun p _ => x.g.c.length - (intOf p).toNat)
      case atStart => exact ⟨0, _, Nat.zero_le _, rfl, hR2, hf2, hfk, hW2, hI2⟩
      case round =>
        obtain ⟨q, f', hq, rfl, hR', hf', hfk', hbw', hI'⟩ := hrel
        by_cases hlt2 : q < x.g.c.length
        · have hz : x.g.c[q]? = some x.g.c[q] := List.getElem?_eq_getElem hlt2
          obtain ⟨z, hZ⟩ : ∃ y, y = x.g.c[q] := ⟨_, rfl⟩
          rw [← hZ] at hz
          clear hZ
          have hst := sumC_take (szAt (gs l)) hz
          obtain ⟨j, rfl, hj⟩ := inR_at HRR.out hz
          rw [Int.toNat_natCast] at hst
          obtain ⟨bb, oo, rfl, hbb, g0⟩ := hI'.out q _ hz
          obtain ⟨ck, dk⟩ := hR'.out.2 k hlt
          obtain ⟨cj, _⟩ := hR'.out.2 j (by omega)
          have HST := Lib.hid hst
          have hB : Hid (f' j = m4 (szAt (gs l) j)) := hf'.out j hj
          have bA := m4_bd (1 + sumC (szAt (gs l)) (x.g.c.take q))
          have bB := m4_bd (szAt (gs l) j)
          rw [← hfk'.out] at bA
          rw [← hB.out] at bB
          obtain ⟨bA0, bA1⟩ := bA
          obtain ⟨bB0, bB1⟩ := bB
          have hq0 : (0 : Int) ≤ (q : Int) := by omega
          have hq1 : (q : Int) < (x.g.c.length : Int) := by omega
          have hj0 : (0 : Int) ≤ (j : Int) := by omega
          have hj1 : (j : Int) < (l.length : Int) := by omega
          have HAB : Hid ((if 4001 < f' k + f' j then 4001 else f' k + f' j) = m4 (1 + sumC (szAt (gs l)) (x.g.c.take (q + 1)))) := by
            show _ = _
            rw [hfk'.out, hB.out, m4_add, HST.out, Nat.add_assoc]
          have hset := Lib.hid (fun v => (hR'.out.set k v).to (Below.refl _ _).drew)
          have hset1 : Hid (∀ v, Below w.heap.size w (wr.setCell ⟨w.heap.size + 1, k, none⟩ v).drew) := fun v => (hbw'.out.setCell (p := ⟨w.heap.size + 1, k, none⟩) (Nat.le_succ _) v).drew
          have hset2 : Hid (∀ v, Ints (wr.setCell ⟨w.heap.size + 1, k, none⟩ v).drew (· < w.heap.size) (some ⟨bb, oo, none⟩) x.g.c) := fun v => hI'.out.kept ((kept_set wr (w.heap.size + 1) k v _ (fun b hb => by have : b < w.heap.size := hb; omega)).trans (fun _ _ _ => rfl))
          have hsetf : Hid (∀ v, ∀ j, j < k → upd f' k v j = m4 (szAt (gs l) j)) := fun v j hj => by rw [upd_other f' k v (by omega)]; exact hf'.out j hj
          have hsetk : Hid (∀ v, v = m4 (1 + sumC (szAt (gs l)) (x.g.c.take (q + 1))) → upd f' k v k = m4 (1 + sumC (szAt (gs l)) (x.g.c.take (q + 1)))) := fun v hv => by rw [upd_same]; exact hv
          generalize f' k = A at *
          generalize f' j = Bj at *
          have hw1 : IntKind.i64.wrap (A + Bj) = A + Bj := IntWalk.i64_in _ (by omega)
          clear hz hst
          go_wp2_with fail
          go_still_tail 13, (by kernel_rfl)
          change wpList _ _ _ _ _ wr.drew
          go_wp2_with fail
          go_roundw
          case rel => exact ⟨q + 1, _, by omega, by go_num, hset.out _, hsetf.out _, hsetk.out _ HAB.out, hset1.out _, hset2.out _⟩
          case measure => simp [intOf]; omega
        · obtain rfl : q = x.g.c.length := by omega
          have hfin : Hid (∀ j, j < k + 1 → f' j = m4 (szAt (gs l) j)) := fun j hj => by
            by_cases e : j = k
            · subst e
              rw [hfk'.out, List.take_length, HS.out]
            · exact hf'.out j (by omega)
          clear hf' hfk'
          go_wp2_with fail
          go_roundw
          case rel => exact ⟨k + 1, f', by omega, by go_num, hR', hfin, hbw'⟩
          case measure => simp [intOf]; omega
    · obtain rfl : k = l.length := by omega
      obtain ⟨ck, _⟩ := hR.out.2 i hi
      have hv := Lib.hid (hf.out i hi)
      generalize f i = V at *
      go_wp2_with fail
      go_ret
      exact ⟨by rw [← hv.out]; rfl, hbw.out⟩
end Go.Proofs.Ytjnnilidnceplaa
