/-
  The example's tree: two equal tokens.
-/
import Derived.Test.YtbgahkicinkgfaaGreatGtInsert
import Derived.Test.YtbgahkicinkgfaaGreatGtTree
namespace Go.Proofs.YtbgahkicinkgfaaGreat
open Go.RowKit

def leafT : Tree := .node 103 ⟨#[97]⟩ []
def pairT : Tree := .node 17 ⟨#[]⟩ [leafT, leafT]

set_option maxRecDepth 100000 in
theorem pair_any (w : World) : Calls Tryz.prog 15 #[] w fun e w' => ∃ a cap, e = .returned (tv pairT a cap) ∧ Kids w' (· < w'.heap.size) 2 a pairT.c ∧ Below w.heap.size w w' := by
  go_enter Tryz.func15, Tryz.ntmps15
  go_wp2_with fail
  obtain ⟨W1, hW1⟩ : ∃ W1, W1 = (((w.alloc (.cells #[.int .i64 17, .string ⟨#[]⟩, .slice (some ⟨w.heap.size + 1 + 1, 0, none⟩) 2 2] 25)).alloc (.cells #[.int .i64 103, .string ⟨#[97]⟩, .slice none 0 0] 25)).alloc (.cells #[.int .i64 103, .string ⟨#[97]⟩, .slice none 0 0, .int .i64 103, .string ⟨#[97]⟩, .slice none 0 0] 25)) := ⟨_, rfl⟩
  have hb : Below w.heap.size w W1 := by rw [hW1]; exact (((Below.refl _ _).alloc (Nat.le_refl _) _).alloc (by simp) _).alloc (by simp; omega) _
  have hz : W1.heap.size = w.heap.size + 3 := by rw [hW1]; simp
  have hr : W1.heap[w.heap.size]? = some (.cells #[.int .i64 17, .string ⟨#[]⟩, .slice (some ⟨w.heap.size + 1 + 1, 0, none⟩) 2 2] 25 (0, 0)) := by
    rw [hW1]; exact alloc_keeps _ (alloc_keeps _ (heap_alloc_new w _))
  have hc : W1.heap[w.heap.size + 1 + 1]? = some (.cells #[.int .i64 103, .string ⟨#[97]⟩, .slice none 0 0, .int .i64 103, .string ⟨#[97]⟩, .slice none 0 0] 25 (0, 0)) := by
    have := heap_alloc_new ((w.alloc (.cells #[.int .i64 17, .string ⟨#[]⟩, .slice (some ⟨w.heap.size + 1 + 1, 0, none⟩) 2 2] 25)).alloc (.cells #[.int .i64 103, .string ⟨#[97]⟩, .slice none 0 0] 25)) (.cells #[.int .i64 103, .string ⟨#[97]⟩, .slice none 0 0, .int .i64 103, .string ⟨#[97]⟩, .slice none 0 0] 25)
    rw [show ((w.alloc (.cells #[.int .i64 17, .string ⟨#[]⟩, .slice (some ⟨w.heap.size + 1 + 1, 0, none⟩) 2 2] 25)).alloc (.cells #[.int .i64 103, .string ⟨#[97]⟩, .slice none 0 0] 25)).heap.size = w.heap.size + 1 + 1 from by simp] at this
    rw [hW1]; exact this
  have hk : Kids W1 (· < W1.heap.size) 2 (some ⟨w.heap.size + 1 + 1, 0, none⟩) pairT.c := by
    have hl : leafT.ok := ⟨by show I64 103; unfold I64; omega, by decide, by decide⟩
    intro i x hx
    have hi : i = 0 ∨ i = 1 := by
      have := (List.getElem?_eq_some_iff.1 hx).1
      have e : pairT.c.length = 2 := rfl
      omega
    rcases hi with rfl | rfl
    · have hx : x = leafT := (Option.some.inj hx).symm
      subst hx
      refine ⟨hl, w.heap.size + 1 + 1, 0, none, 0, rfl, by omega, ?_, ?_, ?_, Kids.nil _ _ _ _⟩ <;> (rw [Lib.cell_of_heap hc]; rfl)
    · have hx : x = leafT := (Option.some.inj hx).symm
      subst hx
      refine ⟨hl, w.heap.size + 1 + 1, 0, none, 0, rfl, by omega, ?_, ?_, ?_, Kids.nil _ _ _ _⟩ <;> (rw [Lib.cell_of_heap hc]; rfl)
  obtain ⟨z0, z1, z2, _⟩ := three_facts hr
  rw [← hW1]
  refine bodyPost_ret (by simp [results, Tryz.results15, go_sem, z0, z1, z2]; try rfl) rfl ?_
  exact ⟨_, 2, rfl, hk, hb⟩

theorem insT_pair : insT [] pairT = ([⟨103, 1, ⟨#[97]⟩, []⟩, ⟨17, 2, ⟨#[]⟩, [0, 0]⟩], 1) := by kernel_rfl
theorem pair_wf : pairT.wf = true := by kernel_rfl
theorem pair_size : pairT.size = 3 := by kernel_rfl
theorem pair_height : pairT.height = 2 := by kernel_rfl
theorem pair_szAt : szAt [⟨103, 1, ⟨#[97]⟩, []⟩, ⟨17, 2, ⟨#[]⟩, [0, 0]⟩] 1 = 3 := by kernel_rfl
theorem pair_trAt : trAt [⟨103, 1, ⟨#[97]⟩, []⟩, ⟨17, 2, ⟨#[]⟩, [0, 0]⟩] 1 = pairT := by kernel_rfl
theorem pair_ok : OkTo [⟨103, 1, ⟨#[97]⟩, []⟩, ⟨17, 2, ⟨#[]⟩, [0, 0]⟩] 2 := by
  intro i x hi hx
  have h : i = 0 ∨ i = 1 := by omega
  rcases h with rfl | rfl
  · obtain rfl := Option.some.inj hx
    refine ⟨fun z hz => by simp at hz, by kernel_rfl, by kernel_rfl, fun j y hj => absurd hj (by omega)⟩
  · obtain rfl := Option.some.inj hx
    refine ⟨fun z hz => ?_, by kernel_rfl, by kernel_rfl, fun j y hj hy => ?_⟩
    · simp at hz; subst hz; decide
    · obtain rfl : j = 0 := by omega
      obtain rfl := Option.some.inj hy
      intro e
      have := e.1
      simp at this
theorem pair_fine : pairT.ok := ⟨by show I64 17; unfold I64; omega, by decide, by decide⟩
end Go.Proofs.YtbgahkicinkgfaaGreat
