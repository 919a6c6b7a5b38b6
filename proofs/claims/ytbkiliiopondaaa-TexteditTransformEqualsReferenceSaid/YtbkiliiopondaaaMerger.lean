/-
  textedit.merger: its methods by their contracts.
-/
import Derived.Test.YtbkiliiopondaaaRewrite
import Derived.Lib.OthersKept
import Derived.Deep.AppendLies
import Derived.Deep.RegionHeld3
import Derived.Deep.RegionLaw
import Derived.BigRegion
namespace Go.Proofs.Ytbkiliiopondaaa
open Go.RowKit

/-- The merger in block bm: two owned rows of traced bytes, two counters. -/
def Mg (w : World) (B bm : Nat) (fl fr : List Tb) (ll rl : Int) : Prop :=
  ∃ v1 v2, w.heap[bm]? = some (.cells #[v1, v2, .int .i64 ll, .int .i64 rl] 61 (0, 0)) ∧ OwnsT 71 w B v1 fl ∧ OwnsT 71 w B v2 fr ∧ (v1.ownBlock = none ∨ v1.ownBlock ≠ v2.ownBlock) ∧ B ≤ bm

theorem mg_ne {w : World} {B bm : Nat} {v : Value} {l : List Tb} {cs : Array Value} (ho : OwnsT 71 w B v l) (hbk : w.heap[bm]? = some (.cells cs 61 (0, 0))) : v.ownBlock ≠ some bm := own_ne ho hbk (by decide)

/-- The merger's block stands while an owned row is grown. -/
theorem mg_kept {w w1 w3 : World} {B bm : Nat} {v : Value} {l : List Tb} {cs : Array Value} {o : Obj} (h1 : w1 = w ∨ w1 = w.drew) (ho : OwnsT 71 w B v l) (hbk : w.heap[bm]? = some (.cells cs 61 (0, 0))) (hg : (w1.alloc o).grownBy w3 v.ownBlock) : w3.heap[bm]? = some (.cells cs 61 (0, 0)) := by
  have hlt : bm < w.heap.size := (Array.getElem?_eq_some_iff.1 hbk).1
  have hs : w1.heap = w.heap := by rcases h1 with rfl | rfl <;> rfl
  rw [hg.block bm (by simp [hs]; omega) (Ne.symm (mg_ne ho hbk)), Below.heap_alloc _ _ _ (by rw [hs]; exact hlt), hs]
  exact hbk

theorem mg_cells {w : World} {bm : Nat} {v1 v2 v3 v4 : Value} (hbk : w.heap[bm]? = some (.cells #[v1, v2, v3, v4] 61 (0, 0))) :
    w.cell? ⟨bm, 0, none⟩ = some v1 ∧ w.cell? ⟨bm, 1, none⟩ = some v2 ∧ w.cell? ⟨bm, 2, none⟩ = some v3 ∧ w.cell? ⟨bm, 3, none⟩ = some v4 ∧ w.frozen? ⟨bm, 0, none⟩ = false ∧ w.frozen? ⟨bm, 1, none⟩ = false ∧ w.frozen? ⟨bm, 2, none⟩ = false ∧ w.frozen? ⟨bm, 3, none⟩ = false := by
  refine ⟨?_, ?_, ?_, ?_, Lib.frozen_of_heap hbk 0, Lib.frozen_of_heap hbk 1, Lib.frozen_of_heap hbk 2, Lib.frozen_of_heap hbk 3⟩
  all_goals rw [Lib.cell_of_heap hbk]; rfl

theorem mg_alloc {w : World} {bm : Nat} {v1 v2 v3 v4 : Value} (hbk : w.heap[bm]? = some (.cells #[v1, v2, v3, v4] 61 (0, 0))) (o : Obj) :
    (w.alloc o).cell? ⟨bm, 0, none⟩ = some v1 ∧ (w.alloc o).cell? ⟨bm, 1, none⟩ = some v2 := by
  have h := (Below.heap_alloc w o bm (Array.getElem?_eq_some_iff.1 hbk).1).trans hbk
  exact ⟨(mg_cells h).1, (mg_cells h).2.1⟩

/-- What an append of one traced byte to an owned row leaves: the row, the other row, the merger's block, the frames. -/
theorem mg_grown {w w1 w3 : World} {B bm gg cap : Nat} {v v' : Value} {l l' : List Tb} {x : Tb} {cs : Array Value} {o : Obj} (h1 : w1 = w ∨ w1 = w.drew) (ho : OwnsT 71 w B v l) (ho' : OwnsT 71 w B v' l') (hne : v'.ownBlock = none ∨ v'.ownBlock ≠ v.ownBlock) (hbk : w.heap[bm]? = some (.cells cs 61 (0, 0))) (hB : B ≤ bm)
    (hg : (w1.alloc o).grownBy w3 v.ownBlock) (hown : w3.ownsRow B 71 2 (.slice (some ⟨gg, 0, none⟩) (l.length + 1) cap) (l.length + 1) (tbCells l ++ x.cells)) (hat : v.ownBlock = some gg ∨ gg = w.heap.size + 1) :
    OwnsT 71 w3 B (.slice (some ⟨gg, 0, none⟩) (l.length + 1) cap) (l ++ [x]) ∧ OwnsT 71 w3 B v' l' ∧ v'.ownBlock ≠ some gg ∧ w3.heap[bm]? = some (.cells cs 61 (0, 0)) ∧ Below B w w3 ∧ Lib.OthersKept 71 (some bm) w w3 ∧ gg ≠ bm := by
  have hs : w1.heap = w.heap := by rcases h1 with rfl | rfl <;> rfl
  have hlt : bm < w.heap.size := (Array.getElem?_eq_some_iff.1 hbk).1
  have hb1 : Below B w w1 := by rcases h1 with rfl | rfl <;> first | exact Below.refl _ _ | exact (Below.refl _ _).drew
  have hO1 : OwnsT 71 w1 B v' l' := by rcases h1 with rfl | rfl <;> first | exact ho' | exact ho'.drew
  have hOv : OwnsT 71 w1 B v l := by rcases h1 with rfl | rfl <;> first | exact ho | exact ho.drew
  have hk3 := mg_kept h1 ho hbk hg
  have hnew : OwnsT 71 w3 B (.slice (some ⟨gg, 0, none⟩) (l.length + 1) cap) (l ++ [x]) := by
    show World.ownsRow _ _ _ _ _ _ _
    rw [List.length_append, tbCells_append]
    simpa [tbCells] using hown
  have hgne : v'.ownBlock ≠ some gg := by
    intro e
    rcases hat with h | h
    · rcases hne with h' | h'
      · rw [h'] at e; cases e
      · exact h' (e.trans h.symm)
    · have := (ho'.lt _ e).2; omega
  refine ⟨hnew, (hO1.alloc _).kept hg (by rcases hne with h | h <;> first | exact .inl h | exact .inr h), hgne, hk3, ?_, ?_, ?_⟩
  · exact (hb1.alloc (by rw [hs]; omega) _).grown hg (by simp [hs]; omega) (fun j hj => (ho.lt j hj).1)
  · have q : Lib.OthersKept 71 (some bm) w w1 := by rcases h1 with rfl | rfl <;> first | exact Lib.OthersKept.refl _ _ _ | exact (Lib.OthersKept.refl _ _ _).drew
    refine (q.alloc o).grown hg ?_
    intro g hgv
    rcases hOv.2 with ⟨rfl, _⟩ | ⟨g', c', cur, rfl, _, hgg, _⟩
    · simp [Value.ownBlock] at hgv
    · simp [Value.ownBlock] at hgv
      subst hgv
      have hlt' := (Array.getElem?_eq_some_iff.1 hgg).1
      exact ⟨cur, _, (Below.heap_alloc _ _ _ hlt').trans hgg⟩
  · intro e
    exact mg_ne hnew hk3 (by simp [Value.ownBlock, e])

theorem own_setCell {w : World} {B e size n bm i : Nat} {v u : Value} {xs : List Value} (h : w.ownsRow B e size v n xs) (hne : v.ownBlock ≠ some bm) : (w.setCell ⟨bm, i, none⟩ u).ownsRow B e size v n xs :=
  h.kept (row := some bm) ⟨rfl, rfl, rfl, by simp [World.setCell], fun k _ hk => Below.heap_setCell _ _ _ _ (fun e => hk (by simp [e]))⟩ (.inr hne)

theorem set_block {w : World} {bm i : Nat} {cs : Array Value} {u : Value} (hbk : w.heap[bm]? = some (.cells cs 61 (0, 0))) : (w.setCell ⟨bm, i, none⟩ u).heap[bm]? = some (.cells (cs.setIfInBounds i u) 61 (0, 0)) := by
  simp [World.setCell, Array.getElem?_modify, hbk]

theorem or_flip {a b : Option Nat} (h : a = none ∨ a ≠ b) : b = none ∨ b ≠ a := by
  rcases h with h | h
  · cases b with
    | none => exact .inl rfl
    | some k => exact .inr (by rw [h]; simp)
  · exact .inr (Ne.symm h)

/-- Field 0 has been appended to, and stored. -/
theorem mg_push0 {w w1 w3 : World} {B bm gg cap : Nat} {v1 v2 : Value} {fl fr : List Tb} {ll rl : Int} {x : Tb} {o : Obj} (h1 : w1 = w ∨ w1 = w.drew) (hbk : w.heap[bm]? = some (.cells #[v1, v2, .int .i64 ll, .int .i64 rl] 61 (0, 0))) (ho1 : OwnsT 71 w B v1 fl) (ho2 : OwnsT 71 w B v2 fr) (hne : v1.ownBlock = none ∨ v1.ownBlock ≠ v2.ownBlock) (hB : B ≤ bm)
    (hg : (w1.alloc o).grownBy w3 v1.ownBlock) (hown : w3.ownsRow B 71 2 (.slice (some ⟨gg, 0, none⟩) (fl.length + 1) cap) (fl.length + 1) (tbCells fl ++ x.cells)) (hat : v1.ownBlock = some gg ∨ gg = w.heap.size + 1) :
    Hid (Mg (w3.setCell ⟨bm, 0, none⟩ (.slice (some ⟨gg, 0, none⟩) (fl.length + 1) cap)) B bm (fl ++ [x]) fr ll rl) ∧ Below B w (w3.setCell ⟨bm, 0, none⟩ (.slice (some ⟨gg, 0, none⟩) (fl.length + 1) cap)) ∧ Lib.OthersKept 71 (some bm) w (w3.setCell ⟨bm, 0, none⟩ (.slice (some ⟨gg, 0, none⟩) (fl.length + 1) cap)) := by
  obtain ⟨a, b, c, d, e, f, g⟩ := mg_grown h1 ho1 ho2 (or_flip hne) hbk hB hg hown hat
  refine ⟨⟨_, v2, set_block d, own_setCell a (by simp [Value.ownBlock, g]), own_setCell b (mg_ne b d), .inr (by simpa [Value.ownBlock] using Ne.symm c), hB⟩, e.setCell hB _, f.setCell _ rfl _⟩

/-- Field 1 has been appended to, and stored. -/
theorem mg_push1 {w w1 w3 : World} {B bm gg cap : Nat} {v1 v2 : Value} {fl fr : List Tb} {ll rl : Int} {x : Tb} {o : Obj} (h1 : w1 = w ∨ w1 = w.drew) (hbk : w.heap[bm]? = some (.cells #[v1, v2, .int .i64 ll, .int .i64 rl] 61 (0, 0))) (ho1 : OwnsT 71 w B v1 fl) (ho2 : OwnsT 71 w B v2 fr) (hne : v1.ownBlock = none ∨ v1.ownBlock ≠ v2.ownBlock) (hB : B ≤ bm)
    (hg : (w1.alloc o).grownBy w3 v2.ownBlock) (hown : w3.ownsRow B 71 2 (.slice (some ⟨gg, 0, none⟩) (fr.length + 1) cap) (fr.length + 1) (tbCells fr ++ x.cells)) (hat : v2.ownBlock = some gg ∨ gg = w.heap.size + 1) :
    Hid (Mg (w3.setCell ⟨bm, 1, none⟩ (.slice (some ⟨gg, 0, none⟩) (fr.length + 1) cap)) B bm fl (fr ++ [x]) ll rl) ∧ Below B w (w3.setCell ⟨bm, 1, none⟩ (.slice (some ⟨gg, 0, none⟩) (fr.length + 1) cap)) ∧ Lib.OthersKept 71 (some bm) w (w3.setCell ⟨bm, 1, none⟩ (.slice (some ⟨gg, 0, none⟩) (fr.length + 1) cap)) := by
  obtain ⟨a, b, c, d, e, f, g⟩ := mg_grown h1 ho2 ho1 hne hbk hB hg hown hat
  refine ⟨⟨v1, _, set_block d, own_setCell b (mg_ne b d), own_setCell a (by simp [Value.ownBlock, g]), .inr (by simpa [Value.ownBlock] using c), hB⟩, e.setCell hB _, f.setCell _ rfl _⟩

theorem mg_count {w : World} {B bm : Nat} {fl fr : List Tb} {ll rl : Int} (h : Mg w B bm fl fr ll rl) (n : Int) :
    Hid (Mg (w.setCell ⟨bm, 2, none⟩ (.int .i64 n)) B bm fl fr n rl) ∧ Below B w (w.setCell ⟨bm, 2, none⟩ (.int .i64 n)) ∧ Lib.OthersKept 71 (some bm) w (w.setCell ⟨bm, 2, none⟩ (.int .i64 n)) := by
  obtain ⟨v1, v2, hbk, ho1, ho2, hne, hB⟩ := h
  exact ⟨⟨v1, v2, set_block hbk, own_setCell ho1 (mg_ne ho1 hbk), own_setCell ho2 (mg_ne ho2 hbk), hne, hB⟩, (Below.refl _ _).setCell hB _, (Lib.OthersKept.refl 71 (some bm) w).setCell ⟨bm, _, none⟩ rfl _⟩

theorem mg_count3 {w : World} {B bm : Nat} {fl fr : List Tb} {ll rl : Int} (h : Mg w B bm fl fr ll rl) (n : Int) :
    Hid (Mg (w.setCell ⟨bm, 3, none⟩ (.int .i64 n)) B bm fl fr ll n) ∧ Below B w (w.setCell ⟨bm, 3, none⟩ (.int .i64 n)) ∧ Lib.OthersKept 71 (some bm) w (w.setCell ⟨bm, 3, none⟩ (.int .i64 n)) := by
  obtain ⟨v1, v2, hbk, ho1, ho2, hne, hB⟩ := h
  exact ⟨⟨v1, v2, set_block hbk, own_setCell ho1 (mg_ne ho1 hbk), own_setCell ho2 (mg_ne ho2 hbk), hne, hB⟩, (Below.refl _ _).setCell hB _, (Lib.OthersKept.refl 71 (some bm) w).setCell ⟨bm, _, none⟩ rfl _⟩
end Go.Proofs.Ytbkiliiopondaaa
