/-
  How a call of add ends: the tree is there; a node is appended.
-/
import Derived.Test.YtbgahkicinkgfaaGreatGtBuild
namespace Go.Proofs.YtbgahkicinkgfaaGreat
open Go.RowKit

theorem set_two0 {w : World} {b : Nat} {v0 v1 u : Value} {t : TypeId} (h : w.heap[b]? = some (.cells #[v0, v1] t (0, 0))) : (w.setCell ⟨b, 0, none⟩ u).heap[b]? = some (.cells #[u, v1] t (0, 0)) := by
  simp [World.setCell, Array.getElem?_modify, h]
theorem two_facts {w : World} {b : Nat} {v0 v1 : Value} {t : TypeId} (h : w.heap[b]? = some (.cells #[v0, v1] t (0, 0))) :
    w.cell? ⟨b, 0, none⟩ = some v0 ∧ w.cell? ⟨b, 1, none⟩ = some v1 ∧ w.frozen? ⟨b, 0, none⟩ = false ∧ w.frozen? ⟨b, 1, none⟩ = false := by
  refine ⟨?_, ?_, Lib.frozen_of_heap h _, Lib.frozen_of_heap h _⟩ <;> (rw [Lib.cell_of_heap h]; rfl)

theorem owns_of_block {w w' : World} {B e size n : Nat} {c : Value} {xs : List Value} (h : w.ownsRow B e size c n xs) (hb : ∀ g, c.ownBlock = some g → w'.heap[g]? = w.heap[g]?) : w'.ownsRow B e size c n xs := by
  refine ⟨h.1, ?_⟩
  rcases h.2 with hn | ⟨g, cap, cur, rfl, hg, hgg, rest⟩
  · exact .inl hn
  · exact .inr ⟨g, cap, cur, rfl, hg, (hb g rfl).trans hgg, rest⟩

section
variable {B bb mb : Nat} {v : Value} {T : Nat → Prop} {l : List N} {x : Tree} {ta : Option Addr} {tc : Nat} {w : World} {lk : List N} {vk c : Value} {wr : World}

theorem AInv.found (h : AInv B bb mb v T l x ta tc w x.c.length lk vk c wr) (hbw : bb < w.heap.size) (hmw : mb < w.heap.size) {w' : World} (hb : Below wr.heap.size wr w') {j : Nat} (hj : insT (gs l) x = (gs lk, j)) :
    AddPost B bb mb v T l x w (.returned (.int .i64 (j : Int))) w' := by
  have hs := hb.size
  have hz := h.sz
  refine ⟨vk, lk, by rw [hj], by rw [hj], (h.inv.below hb).sub ?_ ?_, ?_, h.row⟩
  · intro b hb'
    rcases hb' with q | q
    · exact Or.inl q
    · exact Or.inr ⟨by omega, by omega, q.2.2.2⟩
  · intro b hb'
    rcases hb' with q | q
    · have := h.inv.t b (Or.inl q); exact ⟨by omega, this.2⟩
    · exact ⟨q.2.1, by omega, by omega, q.2.2⟩
  · exact ⟨hb.os.trans h.ap.os, hb.tape.trans h.ap.tape, hb.output.trans h.ap.output, by omega, fun b h1 h2 h3 h4 => (hb.block b (by omega)).trans (h.ap.block b h1 h2 h3 h4)⟩

theorem AInv.pushed (h : AInv B bb mb v T l x ta tc w x.c.length lk vk c wr) (hbw : bb < w.heap.size) (hmw : mb < w.heap.size) {w5 w6 w7 w9 : World} (hb5 : Below wr.heap.size wr w5)
    {X : G} (hg6 : w5.grownBy w6 (some mb)) (hi6 : IdxAt w6 mb (gs lk ++ [X])) (hb7 : Below w6.heap.size w6 w7) {o : Obj} (hg9 : (w7.alloc o).grownBy w9 vk.ownBlock) {ca : Option Addr} {cc g n cap : Nat}
    (ho9 : OwnsN w9 B (.slice (some ⟨g, 0, none⟩) n cap) (lk ++ [⟨X, ca, cc⟩])) (hg : vk.ownBlock = some g ∨ g = w7.heap.size + 1) (hok : N.ok ⟨X, ca, cc⟩) (hI : Ints wr (fun b => c.ownBlock = some b) ca X.c)
    (hins : insT (gs l) x = (gs lk ++ [X], lk.length)) :
    AddPost B bb mb v T l x w (.returned (.int .i64 (lk.length : Int))) (w9.setCell ⟨bb, 0, none⟩ (.slice (some ⟨g, 0, none⟩) n cap)) := by
  have hs5 := hb5.size
  have hs6 := hg6.size
  have hs7 := hb7.size
  have hs9 := hg9.size
  have hz := h.sz
  have s8 : (w7.alloc o).heap.size = w7.heap.size + 1 := by simp
  rw [s8] at hs9
  have s10 : (w9.setCell ⟨bb, 0, none⟩ (.slice (some ⟨g, 0, none⟩) n cap)).heap.size = w9.heap.size := by simp
  have hob : (Value.slice (some ⟨g, 0, none⟩) n cap).ownBlock = some g := rfl
  have hgb : g ≠ bb := fun e => by
    rcases hg with q | q
    · rw [e] at q; exact h.inv.vb q
    · omega
  have hgm : g ≠ mb := fun e => by
    rcases hg with q | q
    · rw [e] at q; exact h.inv.vm q
    · omega
  -- a block that is none of the builder's is as it was
  have far : ∀ b, b < wr.heap.size → b ≠ bb → b ≠ mb → vk.ownBlock ≠ some b → (w9.setCell ⟨bb, 0, none⟩ (.slice (some ⟨g, 0, none⟩) n cap)).heap[b]? = wr.heap[b]? := by
    intro b h1 h2 h3 h4
    rw [heap_setCell_other w9 _ _ _ h2, hg9.block b (by omega) (fun e => h4 e.symm), Below.heap_alloc _ _ _ (by omega), hb7.block b (by omega), hg6.block b (by omega) (by simpa using h3), hb5.block b h1]
  have hbb : w9.heap[bb]? = some (.cells #[vk, .map (some mb)] 61 (0, 0)) := by
    rw [hg9.block bb (by omega) (fun e => h.inv.vb e.symm), Below.heap_alloc _ _ _ (by omega), hb7.block bb (by omega), hg6.block bb (by omega) (by simpa using h.inv.ne), hb5.block bb (by omega)]
    exact h.inv.b
  have hid : IdxAt (w9.setCell ⟨bb, 0, none⟩ (.slice (some ⟨g, 0, none⟩) n cap)) mb (gs (lk ++ [⟨X, ca, cc⟩])) := by
    have e : gs (lk ++ [⟨X, ca, cc⟩]) = gs lk ++ [X] := by simp [gs]
    rw [e]
    refine IdxAt.kept ((IdxAt.to (hi6.to hb7) ((Below.refl _ _).alloc (Nat.le_refl _) o)).kept hg9 (fun e => h.inv.vm e.symm)) (grown_set w9 ⟨bb, 0, none⟩ _) (fun e => h.inv.ne (Option.some.inj e).symm)
  have hfar : ∀ b, ((T b ∨ (w.heap.size < b ∧ b < wr.heap.size ∧ c.ownBlock ≠ some b ∧ vk.ownBlock ≠ some b)) ∨ c.ownBlock = some b) → b < wr.heap.size ∧ b ≠ bb ∧ b ≠ mb ∧ vk.ownBlock ≠ some b := by
    intro b hb
    rcases hb with hb | hb
    · exact h.inv.t b hb
    · have := h.clt hb
      exact ⟨this.2, by omega, by omega, h.cv b hb⟩
  refine ⟨.slice (some ⟨g, 0, none⟩) n cap, lk ++ [⟨X, ca, cc⟩], by rw [hins], by rw [hins]; simp [gs], ⟨set_two0 hbb, ?_, ?_, hid, h.inv.lob, h.inv.lom, h.inv.ne, fun e => hgb (Option.some.inj e), fun e => hgm (Option.some.inj e), ?_⟩, ?_, ?_⟩
  · exact owns_set ho9 _ _ (fun e => hgb (Option.some.inj e))
  · refine Chl.snoc ((h.inv.chl.kept ?_).sub ?_) hok ((hI.kept ?_).sub ?_)
    · exact fun b _ hb => World.cell?_of_block (by obtain ⟨q1, q2, q3, q4⟩ := hfar b (Or.inl hb); exact far b q1 q2 q3 q4)
    · intro b hb
      rcases hb with q | q
      · exact Or.inl q
      · refine Or.inr ⟨by omega, by omega, fun e => ?_⟩
        have e : g = b := Option.some.inj e
        rcases hg with r | r
        · rw [e] at r; exact q.2.2.2 r
        · omega
    · exact fun b _ hb => World.cell?_of_block (by obtain ⟨q1, q2, q3, q4⟩ := hfar b (Or.inr hb); exact far b q1 q2 q3 q4)
    · intro b hb
      have := h.clt hb
      refine Or.inr ⟨by omega, by omega, fun e => ?_⟩
      have e : g = b := Option.some.inj e
      rcases hg with r | r
      · rw [e] at r; exact h.cv b hb r
      · omega
  · intro b hb
    rcases hb with q | q
    · have := h.inv.t b (Or.inl q)
      refine ⟨by omega, this.2.1, this.2.2.1, fun e => ?_⟩
      have e : g = b := Option.some.inj e
      rcases hg with r | r
      · rw [e] at r; exact this.2.2.2 r
      · omega
    · exact ⟨q.2.1, by omega, by omega, q.2.2⟩
  · refine ⟨?_, ?_, ?_, by omega, fun b h1 h2 h3 h4 => ?_⟩
    · rw [show (w9.setCell ⟨bb, 0, none⟩ (.slice (some ⟨g, 0, none⟩) n cap)).os = w9.os from rfl, hg9.os]; exact hb7.os.trans (hg6.os.trans (hb5.os.trans h.ap.os))
    · rw [show (w9.setCell ⟨bb, 0, none⟩ (.slice (some ⟨g, 0, none⟩) n cap)).tape = w9.tape from rfl, hg9.tape]; exact hb7.tape.trans (hg6.tape.trans (hb5.tape.trans h.ap.tape))
    · rw [show (w9.setCell ⟨bb, 0, none⟩ (.slice (some ⟨g, 0, none⟩) n cap)).output = w9.output from rfl, hg9.output]; exact hb7.output.trans (hg6.output.trans (hb5.output.trans h.ap.output))
    · have n2 : vk.ownBlock ≠ some b := fun e => by
        rcases h.row _ e with q | q
        · exact h4 q
        · omega
      rw [far b (by omega) h2 h3 n2]
      exact h.ap.block b h1 h2 h3 h4
  · intro g' e
    have e : g = g' := Option.some.inj e
    subst e
    rcases hg with r | r
    · exact h.row _ r
    · exact Or.inr (by omega)
end
end Go.Proofs.YtbgahkicinkgfaaGreat
