/-
  The builder in memory: its two fields, the nodes that it has made, the map; what a call of add leaves alone.
-/
import Derived.Test.YtbgahkicinkgfaaGreatGtIdx
import Derived.Test.YtbgahkicinkgfaaGreatGtCopy
import Derived.Test.YtbgahkicinkgfaaGreatGtPlace
namespace Go.Proofs.YtbgahkicinkgfaaGreat
open Go.RowKit

/-- The builder in block bb, its map in block mb, its nodes the slice v, which it owns: no block of theirs below B. -/
structure BInv (w : World) (B bb mb : Nat) (v : Value) (T : Nat → Prop) (l : List N) : Prop where
  b : w.heap[bb]? = some (.cells #[v, .map (some mb)] 61 (0, 0))
  own : OwnsN w B v l
  chl : Chl w T l
  idx : IdxAt w mb (gs l)
  lob : B ≤ bb
  lom : B ≤ mb
  ne : bb ≠ mb
  vb : v.ownBlock ≠ some bb
  vm : v.ownBlock ≠ some mb
  t : ∀ b, T b → b < w.heap.size ∧ b ≠ bb ∧ b ≠ mb ∧ v.ownBlock ≠ some b

/-- Everything is as it was but the builder, its map and its row. -/
structure Apart (w w' : World) (bb mb : Nat) (v : Value) : Prop where
  os : w'.os = w.os
  tape : w'.tape = w.tape
  output : w'.output = w.output
  size : w.heap.size ≤ w'.heap.size
  block : ∀ b, b < w.heap.size → b ≠ bb → b ≠ mb → v.ownBlock ≠ some b → w'.heap[b]? = w.heap[b]?

theorem Apart.refl (w : World) (bb mb : Nat) (v : Value) : Apart w w bb mb v := ⟨rfl, rfl, rfl, Nat.le_refl _, fun _ _ _ _ _ => rfl⟩

/-- The row is the old one or a new one. -/
def RowTo (w : World) (v v' : Value) : Prop := ∀ g, v'.ownBlock = some g → v.ownBlock = some g ∨ w.heap.size ≤ g

theorem RowTo.refl (w : World) (v : Value) : RowTo w v v := fun _ h => Or.inl h
theorem RowTo.trans {w w1 : World} {v v1 v2 : Value} (h : RowTo w v v1) (hs : w.heap.size ≤ w1.heap.size) (h' : RowTo w1 v1 v2) : RowTo w v v2 := fun g hg => by
  rcases h' g hg with h1 | h1
  · exact h g h1
  · exact Or.inr (Nat.le_trans hs h1)
theorem Apart.trans {w w1 w2 : World} {bb mb : Nat} {v v1 : Value} (h : Apart w w1 bb mb v) (hr : RowTo w v v1) (h' : Apart w1 w2 bb mb v1) : Apart w w2 bb mb v := by
  refine ⟨h'.os.trans h.os, h'.tape.trans h.tape, h'.output.trans h.output, Nat.le_trans h.size h'.size, fun b h1 h2 h3 h4 => ?_⟩
  rw [h'.block b (Nat.lt_of_lt_of_le h1 h.size) h2 h3 (fun e => ?_), h.block b h1 h2 h3 h4]
  rcases hr b e with q | q
  · exact h4 q
  · omega
theorem Apart.below {w w' : World} {bb mb : Nat} {v : Value} (h : Below w.heap.size w w') : Apart w w' bb mb v := ⟨h.os, h.tape, h.output, h.size, fun b hb _ _ _ => h.block b hb⟩
theorem Apart.grown {w w' : World} {bb mb : Nat} {v : Value} {row : Option Nat} (hg : w.grownBy w' row) (hr : row = none ∨ row = some bb ∨ row = some mb ∨ row = v.ownBlock) : Apart w w' bb mb v := by
  refine ⟨hg.os, hg.tape, hg.output, hg.size, fun b h1 h2 h3 h4 => hg.block b h1 (fun e => ?_)⟩
  rcases hr with h | h | h | h
  · rw [h] at e; cases e
  · rw [h] at e; exact h2 (Option.some.inj e)
  · rw [h] at e; exact h3 (Option.some.inj e)
  · rw [h] at e; exact h4 e.symm

theorem BInv.lt {w : World} {B bb mb : Nat} {v : Value} {T : Nat → Prop} {l : List N} (h : BInv w B bb mb v T l) : bb < w.heap.size := (Array.getElem?_eq_some_iff.1 h.b).1
theorem BInv.mlt {w : World} {B bb mb : Nat} {v : Value} {T : Nat → Prop} {l : List N} (h : BInv w B bb mb v T l) : mb < w.heap.size := h.idx.lt
theorem BInv.vlt {w : World} {B bb mb : Nat} {v : Value} {T : Nat → Prop} {l : List N} (h : BInv w B bb mb v T l) {g : Nat} (hg : v.ownBlock = some g) : B ≤ g ∧ g < w.heap.size := World.ownsRow.lt h.own g hg

/-- The builder stands while the world grows beside it. -/
theorem BInv.grow {w w' : World} {B bb mb : Nat} {v : Value} {T : Nat → Prop} {l : List N} {row : Option Nat} (h : BInv w B bb mb v T l) (hg : w.grownBy w' row) (h1 : row ≠ some bb) (h2 : row ≠ some mb)
    (h3 : ∀ g, row = some g → v.ownBlock ≠ some g) (h4 : ∀ b, T b → row ≠ some b) : BInv w' B bb mb v T l := by
  refine ⟨(hg.block bb h.lt (Ne.symm h1)).trans h.b, ?_, h.chl.kept (kept_grown hg fun b hb => ⟨(h.t b hb).1, fun e => h4 b hb e.symm⟩), h.idx.kept hg (Ne.symm h2), h.lob, h.lom, h.ne, h.vb, h.vm, fun b hb => ⟨Nat.lt_of_lt_of_le (h.t b hb).1 hg.size, (h.t b hb).2⟩⟩
  refine World.ownsRow.kept h.own hg ?_
  cases hv : v.ownBlock with
  | none => exact Or.inl rfl
  | some g => exact Or.inr (fun e => h3 g e.symm hv)

theorem BInv.below {w w' : World} {B bb mb : Nat} {v : Value} {T : Nat → Prop} {l : List N} (h : BInv w B bb mb v T l) (hb : Below w.heap.size w w') : BInv w' B bb mb v T l :=
  h.grow (row := none) ⟨hb.os, hb.tape, hb.output, hb.size, fun k hk _ => hb.block k hk⟩ (by simp) (by simp) (by simp) (by simp)

theorem BInv.sub {w : World} {B bb mb : Nat} {v : Value} {T T' : Nat → Prop} {l : List N} (h : BInv w B bb mb v T l) (h1 : ∀ b, T b → T' b) (h2 : ∀ b, T' b → b < w.heap.size ∧ b ≠ bb ∧ b ≠ mb ∧ v.ownBlock ≠ some b) : BInv w B bb mb v T' l :=
  ⟨h.b, h.own, h.chl.sub h1, h.idx, h.lob, h.lom, h.ne, h.vb, h.vm, h2⟩

/-- What add leaves. -/
def AddPost (B bb mb : Nat) (v : Value) (T : Nat → Prop) (l : List N) (x : Tree) (w : World) (e : Ending) (w' : World) : Prop :=
  ∃ v' l', e = .returned (.int .i64 ((insT (gs l) x).2 : Nat)) ∧ gs l' = (insT (gs l) x).1 ∧ BInv w' B bb mb v' (fun b => T b ∨ (w.heap.size ≤ b ∧ b < w'.heap.size ∧ v'.ownBlock ≠ some b)) l' ∧ Apart w w' bb mb v ∧ RowTo w v v'

/-- The state between two children. -/
structure AInv (B bb mb : Nat) (v : Value) (T : Nat → Prop) (l : List N) (x : Tree) (ta : Option Addr) (tc : Nat) (w : World) (k : Nat) (lk : List N) (vk c : Value) (wr : World) : Prop where
  g : gs lk = (insF (gs l) (x.c.take k)).1
  inv : BInv wr B bb mb vk (fun b => T b ∨ (w.heap.size < b ∧ b < wr.heap.size ∧ c.ownBlock ≠ some b ∧ vk.ownBlock ≠ some b)) lk
  own : OwnsI wr (w.heap.size + 1) c (insF (gs l) (x.c.take k)).2
  t : wr.heap[w.heap.size]? = some (.cells #[.int .i64 x.k, .string x.t, .slice ta x.c.length tc] 25 (0, 0))
  ap : Apart w wr bb mb v
  row : RowTo w v vk
  nt : vk.ownBlock ≠ some w.heap.size
  cv : ∀ g, c.ownBlock = some g → vk.ownBlock ≠ some g
  sz : w.heap.size + 1 ≤ wr.heap.size

theorem AInv.clt {B bb mb : Nat} {v : Value} {T : Nat → Prop} {l : List N} {x : Tree} {ta : Option Addr} {tc : Nat} {w : World} {k : Nat} {lk : List N} {vk c : Value} {wr : World} (h : AInv B bb mb v T l x ta tc w k lk vk c wr) {g : Nat} (hg : c.ownBlock = some g) :
    w.heap.size + 1 ≤ g ∧ g < wr.heap.size := World.ownsRow.lt h.own g hg
theorem AInv.good {B bb mb : Nat} {v : Value} {T : Nat → Prop} {l : List N} {x : Tree} {ta : Option Addr} {tc : Nat} {w : World} {k : Nat} {lk : List N} {vk c : Value} {wr : World} (h : AInv B bb mb v T l x ta tc w k lk vk c wr) (hg : Good (gs l)) : Good (gs lk) := by
  rw [h.g]; exact (insF_grown (x.c.take k) (gs l)).1.good hg
theorem AInv.len {B bb mb : Nat} {v : Value} {T : Nat → Prop} {l : List N} {x : Tree} {ta : Option Addr} {tc : Nat} {w : World} {k : Nat} {lk : List N} {vk c : Value} {wr : World} (h : AInv B bb mb v T l x ta tc w k lk vk c wr) : lk.length ≤ l.length + sizes (x.c.take k) := by
  have := (insF_grown (x.c.take k) (gs l)).1.len
  rw [← h.g, gs_len, gs_len] at this
  exact this
theorem AInv.ids {B bb mb : Nat} {v : Value} {T : Nat → Prop} {l : List N} {x : Tree} {ta : Option Addr} {tc : Nat} {w : World} {k : Nat} {lk : List N} {vk c : Value} {wr : World} (h : AInv B bb mb v T l x ta tc w k lk vk c wr) : InR lk.length (insF (gs l) (x.c.take k)).2 := by
  have := (insF_grown (x.c.take k) (gs l)).2
  rw [← h.g, gs_len] at this
  exact this

/-- The trees below B stand. -/
theorem Apart.kept {w w' : World} {B bb mb : Nat} {v : Value} (h : Apart w w' bb mb v) (hb : B ≤ bb) (hm : B ≤ mb) (hv : ∀ g, v.ownBlock = some g → B ≤ g) (hw : B ≤ w.heap.size) : Kept (· < B) w w' := fun b _ (hlt : b < B) =>
  World.cell?_of_block (h.block b (Nat.lt_of_lt_of_le hlt hw) (by omega) (by omega) (fun e => by have := hv _ e; omega))

/-- From one child to the next. -/
theorem AInv.step {B bb mb : Nat} {v : Value} {T : Nat → Prop} {l : List N} {x : Tree} {ta : Option Addr} {tc : Nat} {w : World} {k : Nat} {lk : List N} {vk c : Value} {wr : World} (h : AInv B bb mb v T l x ta tc w k lk vk c wr)
    (hT : ∀ b, T b → b < w.heap.size) (hbw : bb < w.heap.size) (hmw : mb < w.heap.size) {y : Tree} (hy : x.c[k]? = some y) {o : Obj} {l2 : List N} {v2 : Value} {w2 : World}
    (hg2 : gs l2 = (insT (gs lk) y).1) (hi2 : BInv w2 B bb mb v2 (fun b => (T b ∨ (w.heap.size < b ∧ b < wr.heap.size ∧ c.ownBlock ≠ some b ∧ vk.ownBlock ≠ some b)) ∨ ((wr.alloc o).heap.size ≤ b ∧ b < w2.heap.size ∧ v2.ownBlock ≠ some b)) l2)
    (ha2 : Apart (wr.alloc o) w2 bb mb vk) (hr2 : RowTo (wr.alloc o) vk v2) {o3 : Obj} {g : Nat} {cap : Nat} {w3 : World}
    (hown : OwnsI w3 (w.heap.size + 1) (.slice (some ⟨g, 0, none⟩) ((insF (gs l) (x.c.take k)).2.length + 1) cap) ((insF (gs l) (x.c.take k)).2 ++ [((insT (gs lk) y).2 : Int)]))
    (hgr : (w2.alloc o3).grownBy w3 c.ownBlock) (hg : c.ownBlock = some g ∨ g = w2.heap.size + 1) :
    AInv B bb mb v T l x ta tc w (k + 1) l2 v2 (.slice (some ⟨g, 0, none⟩) ((insF (gs l) (x.c.take k)).2.length + 1) cap) w3 := by
  have s1 : (wr.alloc o).heap.size = wr.heap.size + 1 := by simp
  have s3 : (w2.alloc o3).heap.size = w2.heap.size + 1 := by simp
  have hs2 := ha2.size
  have hs3 := hgr.size
  have hstep := insF_take (gs l) hy
  have hsz := h.sz
  have hob : (Value.slice (some ⟨g, 0, none⟩) ((insF (gs l) (x.c.take k)).2.length + 1) cap).ownBlock = some g := rfl
  have hv2 : ∀ b, v2.ownBlock = some b → vk.ownBlock = some b ∨ wr.heap.size + 1 ≤ b := fun b hb => by have := hr2 b hb; rw [s1] at this; exact this
  have hcv2 : ∀ b, c.ownBlock = some b → v2.ownBlock ≠ some b := fun b hb e => by
    rcases hv2 b e with q | q
    · exact h.cv b hb q
    · have := (h.clt hb).2; omega
  have hT2 : ∀ b, ((T b ∨ (w.heap.size < b ∧ b < wr.heap.size ∧ c.ownBlock ≠ some b ∧ vk.ownBlock ≠ some b)) ∨ ((wr.alloc o).heap.size ≤ b ∧ b < w2.heap.size ∧ v2.ownBlock ≠ some b)) → c.ownBlock ≠ some b := by
    intro b hb e
    have := h.clt e
    rcases hb with (hb | hb) | hb
    · have := hT b hb; omega
    · exact hb.2.2.1 e
    · rw [s1] at hb; omega
  have hi3 := (hi2.below ((Below.refl _ _).alloc (Nat.le_refl _) o3)).grow hgr (fun e => by have := h.clt e; omega) (fun e => by have := h.clt e; omega) hcv2 hT2
  refine ⟨?_, hi3.sub ?_ ?_, ?_, ?_, ?_, ?_, ?_, ?_, by omega⟩
  · rw [hg2, hstep, h.g]
  · intro b hb
    rw [hob]
    have hb2 := hi2.t b hb
    rcases hb with (hb | hb) | hb
    · exact Or.inl hb
    · refine Or.inr ⟨hb.1, by omega, fun e => ?_, hb2.2.2.2⟩
      rcases hg with q | q
      · exact hb.2.2.1 (q.trans e)
      · have := Option.some.inj e; omega
    · rw [s1] at hb
      refine Or.inr ⟨by omega, by omega, fun e => ?_, hb.2.2⟩
      rcases hg with q | q
      · have := (h.clt (q.trans e)).2; omega
      · have := Option.some.inj e; omega
  · intro b hb
    rcases hb with hb | hb
    · have := hi2.t b (Or.inl (Or.inl hb)); exact ⟨by omega, this.2⟩
    · exact ⟨hb.2.1, by omega, by omega, hb.2.2.2⟩
  · rw [hstep, ← h.g]
    exact hown
  · have n1 : c.ownBlock ≠ some w.heap.size := fun e => by have := (h.clt e).1; omega
    rw [hgr.block _ (by omega) (Ne.symm n1), Below.heap_alloc _ _ _ (by omega), ha2.block _ (by omega) (by omega) (by omega) h.nt, Below.heap_alloc _ _ _ (by omega)]
    exact h.t
  · refine ⟨?_, ?_, ?_, by omega, fun b h1 h2 h3 h4 => ?_⟩
    · rw [hgr.os]; exact ha2.os.trans h.ap.os
    · rw [hgr.tape]; exact ha2.tape.trans h.ap.tape
    · rw [hgr.output]; exact ha2.output.trans h.ap.output
    · have n1 : c.ownBlock ≠ some b := fun e => by have := (h.clt e).1; omega
      have n2 : vk.ownBlock ≠ some b := fun e => by
        rcases h.row _ e with q | q
        · exact h4 q
        · omega
      rw [hgr.block b (by omega) (Ne.symm n1), Below.heap_alloc _ _ _ (by omega), ha2.block b (by omega) h2 h3 n2, Below.heap_alloc _ _ _ (by omega)]
      exact h.ap.block b h1 h2 h3 h4
  · exact (h.row.trans (by omega) hr2)
  · intro e
    rcases hv2 _ e with q | q
    · exact h.nt q
    · omega
  · intro b hb e
    have : g = b := Option.some.inj hb
    subst this
    rcases hg with q | q
    · exact hcv2 _ q e
    · have := hi2.vlt e; omega
end Go.Proofs.YtbgahkicinkgfaaGreat
