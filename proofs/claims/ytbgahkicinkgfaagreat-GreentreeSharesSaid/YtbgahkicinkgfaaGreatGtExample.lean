/-
  The example: two equal tokens are stored once.
-/
import Derived.Test.YtbgahkicinkgfaaGreatGtPair
import Derived.Deep.RegionHeld3
namespace Go.Proofs.YtbgahkicinkgfaaGreat
open Go.RowKit

theorem cell_stays {w w' : World} (hb : Below w.heap.size w w') {a : Addr} {v : Value} (h : w.cell? a = some v) : w'.cell? a = some v := (hb.cell (World.block_lt_of_cell? w a h)).trans h

/-- A box of an arena, a box of a tree. -/
def TwoBox (w : World) (A : Nat) (va : Value) (R : Nat) (k : Int) (t : ByteArray) (vc : Value) : Prop :=
  w.cell? ⟨A, 0, none⟩ = some va ∧ w.cell? ⟨R, 0, none⟩ = some (.int .i64 k) ∧ w.cell? ⟨R, 1, none⟩ = some (.string t) ∧ w.cell? ⟨R, 2, none⟩ = some vc
theorem TwoBox.to {w w' : World} {A : Nat} {va : Value} {R : Nat} {k : Int} {t : ByteArray} {vc : Value} (h : w.cell? ⟨A, 0, none⟩ = some va ∧ w.cell? ⟨R, 0, none⟩ = some (.int .i64 k) ∧ w.cell? ⟨R, 1, none⟩ = some (.string t) ∧ w.cell? ⟨R, 2, none⟩ = some vc) (hb : Below w.heap.size w w') :
    w'.cell? ⟨A, 0, none⟩ = some va ∧ w'.cell? ⟨R, 0, none⟩ = some (.int .i64 k) ∧ w'.cell? ⟨R, 1, none⟩ = some (.string t) ∧ w'.cell? ⟨R, 2, none⟩ = some vc :=
  ⟨cell_stays hb h.1, cell_stays hb h.2.1, cell_stays hb h.2.2.1, cell_stays hb h.2.2.2⟩

set_option maxRecDepth 100000 in
set_option maxHeartbeats 4000000 in
theorem example_any (w : World) : Calls Tryz.prog 6 #[] w fun e w' => e = .returned (.bool true) ∧ Below w.heap.size w w' := by
  have HP := fun W : World => Lib.hid (pair_any W)
  go_enter Tryz.func6, Tryz.ntmps6
  go_wp2_with fail
  refine (HP w).out.mono ?_
  rintro e w1 ⟨pa, pc, rfl, hk1, hb1⟩
  have HB1 : Hid (Below w.heap.size w w1) := hb1
  have HI := Lib.hid (insert_ok 2 [] none 0 w1 pairT pa pc (by rw [pair_size]; decide) (by rw [pair_height]; decide) (Nodes.nil _ _ _) (OkTo.zero _) pair_fine hk1)
  clear hb1 hk1
  go_wp2_with fail
  change Calls _ _ _ w1 _
  refine HI.out.mono ?_
  intro e w2 hp2
  rcases hp2 with hp2 | ⟨_, l2, a2, cap2, rfl, hg2, hn2, hb2⟩
  · exact absurd hp2.1 (by rw [pair_wf]; simp)
  rw [show gs ([] : List N) = [] from rfl, insT_pair] at hg2
  rw [show gs ([] : List N) = [] from rfl, insT_pair]
  have hl2 : l2.length = 2 := by have := congrArg List.length hg2; simpa [gs] using this
  have HB2 : Hid (Below w.heap.size w w2) := HB1.out.trans (hb2.mono HB1.out.size)
  have hn3 := hn2.alloc (oneBox (.slice a2 l2.length cap2))
  have HT := Lib.hid (tree_any l2 a2 cap2 1 (w2.alloc (oneBox (.slice a2 l2.length cap2))) (by omega) hn3)
  have HG2 := Lib.hid hg2
  have HL2 := Lib.hid hl2
  clear hb2 hn2 hn3 HI hg2 hl2
  go_wp2_with fail
  change Calls _ _ _ (w2.alloc (oneBox (.slice a2 l2.length cap2))) _
  refine HT.out.mono ?_
  intro e w3 hp3
  have htr : trAt (gs l2) (1 : Int).toNat = pairT := by rw [HG2.out]; exact pair_trAt
  have hsz : szAt (gs l2) (1 : Int).toNat = 3 := by rw [HG2.out]; exact pair_szAt
  have hok : OkTo (gs l2) l2.length := by rw [HG2.out, HL2.out]; exact pair_ok
  have hll : l2.length = 2 := HL2.out
  obtain ⟨hb3, hp3⟩ := hp3
  rcases hp3 with hp3 | hp3 | hp3 | ⟨_, _, _, ra, rc, rfl, hk3, _⟩
  · exact absurd hok hp3.1
  · exact absurd (by omega) hp3.2.1
  · exact absurd hp3.2.2.1 (by omega)
  rw [htr] at hk3 ⊢
  have HB3 : Hid (Below w.heap.size w w3) := (HB2.out.alloc HB2.out.size _).trans (hb3.mono (by have := HB2.out.size; simp; omega))
  have f0 : w3.cell? ⟨w2.heap.size, 0, none⟩ = some (.slice a2 l2.length cap2) := cell_stays hb3 (one_facts (heap_alloc_new w2 (oneBox (.slice a2 l2.length cap2)))).1
  have HK3 := Lib.hid hk3
  have hfs : w2.heap.size < w3.heap.size := by have := hb3.size; simp at this; omega
  clear hk3 hb3 htr hsz hok HT
  rw [hll] at f0 ⊢
  clear hll
  go_upto_region 3 with fail
  have f1 : (w3.alloc (.cells #[.int .i64 pairT.k, .string pairT.t, .slice ra pairT.c.length rc] 25)).cell? ⟨w2.heap.size, 0, none⟩ = some (.slice a2 2 cap2) := cell_stays ((Below.refl _ _).alloc (Nat.le_refl _) _) f0
  obtain ⟨f2, f3, f4, _⟩ := three_facts (heap_alloc_new w3 (.cells #[.int .i64 pairT.k, .string pairT.t, .slice ra pairT.c.length rc] 25))
  have HB4 : Hid (Below w.heap.size w (w3.alloc (.cells #[.int .i64 pairT.k, .string pairT.t, .slice ra pairT.c.length rc] 25))) := HB3.out.alloc HB3.out.size _
  have HK4 : Hid (Kids (w3.alloc (.cells #[.int .i64 pairT.k, .string pairT.t, .slice ra pairT.c.length rc] 25)) (· < (w3.alloc (.cells #[.int .i64 pairT.k, .string pairT.t, .slice ra pairT.c.length rc] 25)).heap.size) 2 ra pairT.c) := HK3.out.alloc _
  clear f0 HK3
  have hbox : (w3.alloc (.cells #[.int .i64 pairT.k, .string pairT.t, .slice ra pairT.c.length rc] 25)).heap.size = w3.heap.size + 1 := by simp
  generalize w3.heap.size = H3 at *
  generalize w3.alloc (.cells #[.int .i64 pairT.k, .string pairT.t, .slice ra pairT.c.length rc] 25) = W4 at *
  go_region_held3 (fun w' => w'.cell? ⟨w2.heap.size, 0, none⟩ = some (.slice a2 2 cap2) ∧ w'.cell? ⟨H3, 0, none⟩ = some (.int .i64 pairT.k) ∧ w'.cell? ⟨H3, 1, none⟩ = some (.string pairT.t) ∧ w'.cell? ⟨H3, 2, none⟩ = some (.slice ra pairT.c.length rc))
    (first | with_reducible exact hS10 | with_reducible exact hS9 | exact ⟨f1, f2, f3, f4⟩)
    (first
      | (go_at_call 15; refine (HP _).out.mono ?_; rintro e w9 ⟨qa, qc, rfl, hk9, hb9⟩; have hS9 := TwoBox.to (by assumption) hb9; have HB9 := Lib.hid hb9; have HK9 := Lib.hid hk9; clear hb9 hk9)
      | (go_at_call 11; refine (tree_yes 2 pairT _ _ 2 _ _ _ pair_fine (HK4.out.drew.to HB9.out) HK9.out).mono ?_; rintro e w10 ⟨rfl, hb10⟩; have hS10 := TwoBox.to (by assumption) hb10; have HB10 := Lib.hid hb10; clear hb10))
  have HF : Hid (Below w.heap.size w w10) := HB4.out.drew.trans ((HB9.out.mono HB4.out.size).trans (HB10.out.mono (Nat.le_trans HB4.out.size HB9.out.size)))
  go_wp2_with fail
  go_ret
  exact ⟨rfl, HF.out⟩
end Go.Proofs.YtbgahkicinkgfaaGreat
