/-
  What an insertion means (no program): the tree can be read back; inserted again it changes nothing; equal trees have one index, and only they.
-/
import Derived.Test.YtbgahkicinkgfaaGreatGtPure
namespace Go.Proofs.YtbgahkicinkgfaaGreat
open Go.RowKit

/-- Nodes behind do not turn what an index stands for. -/
theorem trAt_append {l r : List G} (hd : Down (l ++ r)) : ∀ i, i < l.length → trAt (l ++ r) i = trAt l i := by
  intro i
  induction i using Nat.strongRecOn with
  | ind i ih =>
  intro hi
  have hx : l[i]? = some l[i] := List.getElem?_eq_getElem hi
  have hx2 : (l ++ r)[i]? = some l[i] := by rw [List.getElem?_append_left hi]; exact hx
  have hdl : Down l := fun j y hy => hd j y (by rw [List.getElem?_append_left (List.getElem?_eq_some_iff.1 hy).1]; exact hy)
  rw [trAt_eq hd hx2, trAt_eq hdl hx]
  congr 1
  refine List.map_congr_left (fun z hz => ?_)
  have := hdl i _ hx z hz
  exact ih z.toNat (by omega) (by omega)

theorem trAt_grown {l l' : List G} {m : Nat} (h : Grown l l' m) (hg : Good l) {i : Nat} (hi : i < l.length) : trAt l' i = trAt l i := by
  have hd := (h.good hg).down
  obtain ⟨⟨r, rfl⟩, _, _⟩ := h
  exact trAt_append hd i hi

theorem sizes_map (f : Int → Tree) (c : List Int) : sizes (c.map f) = (c.map fun z => (f z).size).foldr (· + ·) 0 := by
  induction c with
  | nil => rfl
  | cons z r ih => simp [sizes, ih]

theorem szAt_size {l : List G} (hd : Down l) : ∀ i, i < l.length → szAt l i = (trAt l i).size := by
  intro i
  induction i using Nat.strongRecOn with
  | ind i ih =>
  intro hi
  have hx : l[i]? = some l[i] := List.getElem?_eq_getElem hi
  rw [szAt_eq hd hx, trAt_eq hd hx]
  simp only [Tree.size]
  congr 1
  rw [sizes_map]
  unfold sumC
  rw [List.map_congr_left]
  intro z hz
  have := hd i _ hx z hz
  exact ih z.toNat (by omega) (by omega)

/-- Two indices that stand for one tree are one. -/
theorem trAt_inj {l : List G} (hg : Good l) : ∀ i j, i < l.length → j < l.length → trAt l i = trAt l j → i = j := by
  intro i
  induction i using Nat.strongRecOn with
  | ind i ih =>
  intro j hi hj h
  have hx : l[i]? = some l[i] := List.getElem?_eq_getElem hi
  have hy : l[j]? = some l[j] := List.getElem?_eq_getElem hj
  rw [trAt_eq hg.down hx, trAt_eq hg.down hy] at h
  injection h with hk ht hc
  have hcc : l[i].c = l[j].c := by
    have hlen : l[i].c.length = l[j].c.length := by have := congrArg List.length hc; simpa using this
    refine List.ext_getElem hlen (fun q h1 h2 => ?_)
    have e : trAt l (l[i].c[q]).toNat = trAt l (l[j].c[q]).toNat := by
      have h3 : (l[i].c.map fun z => trAt l z.toNat)[q]? = (l[j].c.map fun z => trAt l z.toNat)[q]? := by rw [hc]
      rw [List.getElem?_map, List.getElem?_map, List.getElem?_eq_getElem h1, List.getElem?_eq_getElem h2] at h3
      simpa using h3
    have b1 := (hg i _ hx).1 _ (List.getElem_mem h1)
    have b2 := (hg j _ hy).1 _ (List.getElem_mem h2)
    have := ih (l[i].c[q]).toNat (by omega) (l[j].c[q]).toNat (by omega) (by omega) e
    omega
  rcases Nat.lt_trichotomy i j with h1 | h1 | h1
  · exact absurd ⟨hk, ht, hcc⟩ ((hg j _ hy).2.2 i _ h1 hx)
  · exact h1
  · exact absurd ⟨hk.symm, ht.symm, hcc.symm⟩ ((hg i _ hx).2.2 j _ h1 hy)

/-- A tree that the arena has is found, and nothing is added. -/
theorem place_there {l : List G} (hg : Good l) {i : Nat} {x : G} (hx : l[i]? = some x) : place l x.k x.t x.c = some i := by
  cases hp : place l x.k x.t x.c with
  | none => exact absurd ⟨rfl, rfl, rfl⟩ (place_none hp i x hx)
  | some j =>
    obtain ⟨y, hy, e1, e2, e3, _⟩ := place_some hp
    congr 1
    rcases Nat.lt_trichotomy i j with h1 | h1 | h1
    · exact absurd ⟨e1.symm, e2.symm, e3.symm⟩ ((hg j _ hy).2.2 i _ h1 hx)
    · exact h1.symm
    · exact absurd ⟨e1, e2, e3⟩ ((hg i _ hx).2.2 j _ h1 hy)

mutual
theorem insT_there {l : List G} (hg : Good l) : ∀ (x : Tree) (i : Nat), i < l.length → trAt l i = x → insT l x = (l, i)
  | .node k t c, i, hi, h => by
    have hx : l[i]? = some l[i] := List.getElem?_eq_getElem hi
    rw [trAt_eq hg.down hx] at h
    injection h with hk ht hc
    have hF := insF_there hg c l[i].c (fun z hz => by have := (hg i _ hx).1 z hz; omega) hc
    rw [insT, hF]
    simp only
    rw [← hk, ← ht, fin, place_there hg hx]
theorem insF_there {l : List G} (hg : Good l) : ∀ (a : List Tree) (c : List Int), (∀ z, z ∈ c → 0 ≤ z ∧ z.toNat < l.length) → (c.map fun z => trAt l z.toNat) = a → insF l a = (l, c)
  | [], c, _, h => by
    have : c = [] := by cases c with
      | nil => rfl
      | cons z r => simp at h
    subst this
    simp [insF]
  | x :: r, [], _, h => by simp at h
  | x :: r, z :: c, hz, h => by
    simp only [List.map_cons, List.cons.injEq] at h
    have b := hz z List.mem_cons_self
    have h1 := insT_there hg x z.toNat b.2 h.1
    have h2 := insF_there hg r c (fun y hy => hz y (List.mem_cons_of_mem _ hy)) h.2
    simp only [insF, h1, h2]
    rw [Int.toNat_of_nonneg b.1]
end

theorem fin_tree {l : List G} (hg : Good l) {k : Int} {t : ByteArray} {c : List Int} (hc : InR l.length c) : trAt (fin l k t c).1 (fin l k t c).2 = .node k t (c.map fun z => trAt l z.toNat) := by
  have hgr := (fin_grown l k t c hc).1
  unfold fin at hgr ⊢
  cases hp : place l k t c with
  | some j =>
    obtain ⟨y, hy, e1, e2, e3, _⟩ := place_some hp
    simp only
    rw [trAt_eq hg.down hy, e1, e2, e3]
  | none =>
    rw [hp] at hgr
    simp only at hgr ⊢
    rw [trAt_eq (hgr.good hg).down (x := ⟨k, wid l t c, t, c⟩) (by simp)]
    simp only
    congr 1
    refine List.map_congr_left (fun z hz => ?_)
    have := hc z hz
    exact trAt_append (hgr.good hg).down _ (by omega)

mutual
/-- What was inserted can be read back. -/
theorem insT_tree : ∀ (x : Tree) (l : List G), Good l → trAt (insT l x).1 (insT l x).2 = x
  | .node k t c, l, hg => by
    obtain ⟨h1, h2⟩ := insF_grown c l
    simp only [insT]
    rw [fin_tree (h1.good hg) h2, insF_tree c l hg]
theorem insF_tree : ∀ (a : List Tree) (l : List G), Good l → ((insF l a).2.map fun z => trAt (insF l a).1 z.toNat) = a
  | [], l, _ => by simp [insF]
  | x :: r, l, hg => by
    obtain ⟨h1, h2⟩ := insT_grown x l
    obtain ⟨h3, h4⟩ := insF_grown r (insT l x).1
    simp only [insF, List.map_cons, Int.toNat_natCast]
    rw [insF_tree r (insT l x).1 (h1.good hg), trAt_grown h3 (h1.good hg) h2, insT_tree x l hg]
end

/-- Inserted again, a tree changes nothing. -/
theorem insT_again (x : Tree) (l : List G) (hg : Good l) : insT (insT l x).1 x = insT l x := by
  obtain ⟨h1, h2⟩ := insT_grown x l
  exact insT_there (h1.good hg) x _ h2 (insT_tree x l hg)

/-- Two trees have one index if and only if they are one. -/
theorem insT_same {l : List G} (hg : Good l) (x y : Tree) : (insT l x).2 = (insT (insT l x).1 y).2 ↔ x = y := by
  obtain ⟨h1, h2⟩ := insT_grown x l
  obtain ⟨h3, h4⟩ := insT_grown y (insT l x).1
  constructor
  · intro h
    rw [← insT_tree x l hg, ← insT_tree y (insT l x).1 (h1.good hg), ← h, trAt_grown h3 (h1.good hg) h2]
  · rintro rfl
    rw [insT_again x l hg]

/-- The tokens without children, the inner nodes without text. -/
def WfG (l : List G) : Prop := ∀ (i : Nat) (x : G), l[i]? = some x → wfN x.k x.t x.c.length = true
theorem okTo_of {l : List G} (hg : Good l) (hw : WfG l) : OkTo l l.length := fun i x _ hx => ⟨(hg i x hx).1, hw i x hx, (hg i x hx).2.1, (hg i x hx).2.2⟩
theorem OkTo.wfG {l : List G} (h : OkTo l l.length) : WfG l := fun i x hx => (h i x (List.getElem?_eq_some_iff.1 hx).1 hx).2.1

mutual
theorem insT_wf : ∀ (x : Tree) (l : List G), WfG l → x.wf = true → WfG (insT l x).1
  | .node k t c, l, hw, hx => by
    simp only [Tree.wf, Bool.and_eq_true] at hx
    have h1 := insF_wf c l hw hx.2
    simp only [insT]
    unfold fin
    cases hp : place (insF l c).1 k t (insF l c).2 with
    | some j => exact h1
    | none =>
      intro i y hy
      by_cases hi : i < (insF l c).1.length
      · rw [List.getElem?_append_left hi] at hy
        exact h1 i y hy
      · have h2 := (List.getElem?_eq_some_iff.1 hy).1
        simp at h2
        obtain rfl : i = (insF l c).1.length := by omega
        rw [List.getElem?_append_right (Nat.le_refl _), Nat.sub_self] at hy
        simp at hy
        subst hy
        simp only
        rw [insF_len]
        exact hx.1
theorem insF_wf : ∀ (a : List Tree) (l : List G), WfG l → wfs a = true → WfG (insF l a).1
  | [], l, hw, _ => by simpa [insF] using hw
  | x :: r, l, hw, hx => by
    simp only [wfs, Bool.and_eq_true] at hx
    simp only [insF]
    exact insF_wf r _ (insT_wf x l hw hx.1) hx.2
end

/-- The arena stays well made. -/
theorem insT_ok {l : List G} (h : OkTo l l.length) {x : Tree} (hx : x.wf = true) : OkTo (insT l x).1 (insT l x).1.length :=
  okTo_of ((insT_grown x l).1.good h.good) (insT_wf x l h.wfG hx)

/-- What hangs below an inserted tree is there already, in the arena of then. -/
theorem insT_child {l : List G} (hg : Good l) {x y : Tree} (hy : y ∈ x.c) {l' : List G} {m : Nat} (h' : Grown (insT l x).1 l' m) : ∃ i, insT l' y = (l', i) ∧ i < (insT l x).1.length := by
  obtain ⟨h1, h2⟩ := insT_grown x l
  have ht := insT_tree x l hg
  have hx : (insT l x).1[(insT l x).2]? = some ((insT l x).1[(insT l x).2]'h2) := List.getElem?_eq_getElem h2
  have hg1 := h1.good hg
  rw [trAt_eq hg1.down hx] at ht
  rw [← ht] at hy
  simp only [Tree.c] at hy
  obtain ⟨z, hz, e⟩ := List.mem_map.1 hy
  have b := (hg1 _ _ hx).1 z hz
  refine ⟨z.toNat, insT_there (h'.good hg1) y z.toNat (by have := h'.ge; omega) ?_, by omega⟩
  rw [trAt_grown h' hg1 (by omega), e]
end Go.Proofs.YtbgahkicinkgfaaGreat
