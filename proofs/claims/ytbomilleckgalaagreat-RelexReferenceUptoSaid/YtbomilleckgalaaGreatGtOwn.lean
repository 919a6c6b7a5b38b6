/-
  Slices of nodes, of trees and of integers that a call has made itself; appending from whatever source; copyNodes and Clone.
-/
import Derived.Test.YtbomilleckgalaaGreatGtBase
import Derived.Deep.RegionHeld3
import Derived.Deep.DrawnRows
import Derived.Laws.AppendOwnNone
namespace Go.Proofs.YtbomilleckgalaaGreat
open Go.RowKit

/-- The slice value x yields m elements of the given size: the cells news. -/
def SrcIs (w : World) (x : Value) (m size : Nat) (news : List Value) : Prop :=
  news.length = m * size ∧ (∀ u, u ∈ news → u.oneCell' = true) ∧ ((x = .slice none 0 0 ∧ m = 0) ∨ ∃ ad c, x = .slice (some ad) m c ∧ ∀ j u, news[j]? = some u → w.cell? (ad.add j) = some u)

theorem wpList_append_src {P : Program} {w : World} {ops : Array Oper} {rest : List Oper} {o : Oper} {a : Act} {Q : Exit → Act → World → Prop} (hgd : o.guard = none) (s x : Operand) (t : TypeId)
    (ho : o.op = .call { callee := .builtin .append, args := #[s, x], argTypes := #[t, t] })
    (base : Nat) (e : TypeId) (i : TypeInfo) (z : Value) (size bytes : Nat) (ht : P.underlying t = some (.slice e)) (hi : P.info? e = some i) (hz : i.zero = some z)
    (hsize : i.size = size) (hby : i.bytes = bytes) (hzs : z.cells.size = size) (hsz : 0 < size)
    (v : Value) (n : Nat) (xs : List Value) (hs : a.eval s = v) (hown : w.ownsRow base e size v n xs)
    (xv : Value) (m : Nat) (news : List Value) (hx : a.eval x = xv) (hsrc : SrcIs w xv m size news)
    (h63 : n + m ≤ maxLen) (hbytes : (n + m) * bytes ≤ 140737488355328) (hbase : base ≤ w.heap.size)
    (h : ∀ v' w', w'.ownsRow base e size v' (n + m) (xs ++ news) → w.grownBy w' v.ownBlock → (v'.ownBlock = v.ownBlock ∨ v'.ownBlock = some w.heap.size) → wpList P ops Q rest (a.put o.dst v') w') : wpList P ops Q (o :: rest) a w := by
  obtain ⟨hl, h1, hc | ⟨ad, c, rfl, hc⟩⟩ := hsrc
  · obtain ⟨rfl, rfl⟩ := hc
    have hn : news = [] := List.eq_nil_of_length_eq_zero (by simpa using hl)
    subst hn
    refine wpList_append_own_none hgd s x t ho base e i size ht hi v n xs hs hown hx ?_
    exact h v w (by simpa using hown) ⟨rfl, rfl, rfl, Nat.le_refl _, fun _ _ _ => rfl⟩ (Or.inl rfl)
  · exact wpList_append_own_at w hgd s x t ho base e i z size bytes ht hi hz hsize hby hzs hsz v n xs hs hown ad m c news hx hl hc h1 h63 hbytes hbase fun v' w' a b _ d => h v' w' a b d

theorem owns_below {w w' : World} {B e size n : Nat} {v : Value} {xs : List Value} (h : w.ownsRow B e size v n xs) (hb : Below w.heap.size w w') : w'.ownsRow B e size v n xs :=
  h.kept (row := none) ⟨hb.os, hb.tape, hb.output, hb.size, fun k hk _ => hb.block k hk⟩ (by cases hv : v.ownBlock <;> simp)

theorem grown_set (w : World) (a : Addr) (u : Value) : w.grownBy (w.setCell a u) (some a.block) :=
  ⟨rfl, rfl, rfl, by simp, fun i _ hi => heap_setCell_other w a i u (fun e => hi (by rw [e]))⟩
theorem owns_set {w : World} {B e size n : Nat} {v : Value} {xs : List Value} (h : w.ownsRow B e size v n xs) (a : Addr) (u : Value) (hne : v.ownBlock ≠ some a.block) : (w.setCell a u).ownsRow B e size v n xs :=
  h.kept (grown_set w a u) (Or.inr hne)
theorem new_set (w : World) (a : Addr) (u : Value) (cs : Array Value) (t : TypeId) : ((w.setCell a u).alloc (.cells cs t)).heap[w.heap.size]? = some (.cells cs t (0, 0)) := by
  have := heap_alloc_new (w.setCell a u) (.cells cs t)
  rwa [show (w.setCell a u).heap.size = w.heap.size from by simp] at this
theorem kept_grown {w w' : World} {row : Option Nat} {S : Nat → Prop} (hg : w.grownBy w' row) (hs : ∀ b, S b → b < w.heap.size ∧ some b ≠ row) : Kept S w w' := fun b _ hb =>
  World.cell?_of_block (hg.block b (hs b hb).1 (hs b hb).2)
theorem grown_al (w : World) (o : Obj) (row : Option Nat) : w.grownBy (w.alloc o) row := World.grownBy_alloc w o row

/-! ### integers -/

def iCells (zs : List Int) : List Value := zs.map (fun z => .int .i64 z)
theorem iCells_append (a b : List Int) : iCells (a ++ b) = iCells a ++ iCells b := by simp [iCells]
def OwnsI (w : World) (B : Nat) (v : Value) (zs : List Int) : Prop := w.ownsRow B 3 1 v zs.length (iCells zs)
theorem OwnsI.nil (w : World) (B : Nat) : OwnsI w B (.slice none 0 0) [] := World.ownsRow_nil w B 3 1

theorem OwnsI.ints {w : World} {B : Nat} {v : Value} {zs : List Int} (h : OwnsI w B v zs) :
    ∃ a cap, v = .slice a zs.length cap ∧ Ints w (fun b => v.ownBlock = some b) a zs ∧ (a = none → zs = [] ∧ cap = 0) := by
  rcases h.2 with ⟨rfl, h0⟩ | ⟨g, cap, cur, rfl, hb, hg, h1, h2, h3, h4⟩
  · have : zs = [] := List.eq_nil_of_length_eq_zero h0
    subst this
    exact ⟨none, 0, rfl, Ints.nil _ _ _, fun _ => ⟨rfl, rfl⟩⟩
  · refine ⟨some ⟨g, 0, none⟩, cap, rfl, ?_, fun h => by cases h⟩
    intro i z hz
    refine ⟨g, 0, rfl, rfl, ?_⟩
    rw [Nat.zero_add, Lib.cell_of_heap hg]
    have h5 : (iCells zs)[i]? = some (.int .i64 z) := by simp [iCells, hz]
    rw [← h4, List.getElem?_take] at h5
    split at h5
    · simpa using h5
    · cases h5

theorem Ints.src {w : World} {S : Nat → Prop} {a : Option Addr} {c : List Int} (h : Ints w S a c) (cap : Nat) (hn : a = none → c = [] ∧ cap = 0) : SrcIs w (.slice a c.length cap) c.length 1 (iCells c) := by
  refine ⟨by simp [iCells], fun u hu => by obtain ⟨z, _, rfl⟩ := List.mem_map.1 hu; rfl, ?_⟩
  cases a with
  | none =>
    obtain ⟨rfl, rfl⟩ := hn rfl
    exact Or.inl ⟨rfl, rfl⟩
  | some ad =>
    refine Or.inr ⟨ad, cap, rfl, fun j u hu => ?_⟩
    have hz : ∃ z, c[j]? = some z ∧ u = .int .i64 z := by
      unfold iCells at hu
      rw [List.getElem?_map] at hu
      cases hc : c[j]? with
      | none => rw [hc] at hu; simp at hu
      | some z => rw [hc] at hu; exact ⟨z, rfl, by simpa using hu.symm⟩
    obtain ⟨z, hz, rfl⟩ := hz
    obtain ⟨b, o, hab, _, h0⟩ := h j z hz
    cases hab
    have hadd : (⟨b, o, none⟩ : Addr).add j = ⟨b, o + j, none⟩ := by unfold Addr.add; split <;> simp_all
    rw [hadd]; exact h0

/-! ### nodes -/

def ncells (l : List N) : List Value := l.flatMap N.cells
theorem ncells_length (l : List N) : (ncells l).length = l.length * 4 := by
  induction l with
  | nil => rfl
  | cons x r ih => simp only [ncells, List.flatMap_cons, List.length_append, List.length_cons] at ih ⊢; rw [ih]; simp [N.cells]; omega
theorem ncells_append (a b : List N) : ncells (a ++ b) = ncells a ++ ncells b := by simp [ncells]
theorem ncells_at {l : List N} : ∀ {i : Nat} {x : N}, l[i]? = some x → (ncells l)[i * 4]? = some (.int .i64 x.g.k) ∧ (ncells l)[i * 4 + 1]? = some (.int .i64 x.g.w) ∧ (ncells l)[i * 4 + 2]? = some (.string x.g.t) ∧ (ncells l)[i * 4 + 3]? = some (.slice x.a x.g.c.length x.cap) := by
  induction l with
  | nil => intro i x h; simp at h
  | cons y r ih =>
    intro i x h
    cases i with
    | zero => simp at h; subst h; simp [ncells, N.cells]
    | succ i =>
      simp at h
      obtain ⟨a, b, c, d⟩ := ih h
      have e : ncells (y :: r) = [.int .i64 y.g.k, .int .i64 y.g.w, .string y.g.t, .slice y.a y.g.c.length y.cap] ++ ncells r := rfl
      have step : ∀ j u, (ncells r)[j]? = some u → (ncells (y :: r))[j + 4]? = some u := fun j u hu => by
        rw [e, List.getElem?_append_right (by simp)]
        simpa using hu
      refine ⟨?_, ?_, ?_, ?_⟩
      · rw [show (i + 1) * 4 = i * 4 + 4 from by omega]; exact step _ _ a
      · rw [show (i + 1) * 4 + 1 = i * 4 + 1 + 4 from by omega]; exact step _ _ b
      · rw [show (i + 1) * 4 + 2 = i * 4 + 2 + 4 from by omega]; exact step _ _ c
      · rw [show (i + 1) * 4 + 3 = i * 4 + 3 + 4 from by omega]; exact step _ _ d

/-- The children of the nodes l, in blocks of S. -/
def Chl (w : World) (S : Nat → Prop) (l : List N) : Prop := ∀ x, x ∈ l → x.ok ∧ Ints w S x.a x.g.c

theorem Chl.kept {w w' : World} {S : Nat → Prop} {l : List N} (h : Chl w S l) (hk : Kept S w w') : Chl w' S l := fun x hx => ⟨(h x hx).1, (h x hx).2.kept hk⟩
theorem Chl.sub {w : World} {S T : Nat → Prop} {l : List N} (h : Chl w S l) (hs : ∀ i, S i → T i) : Chl w T l := fun x hx => ⟨(h x hx).1, (h x hx).2.sub hs⟩
theorem Chl.nil (w : World) (S : Nat → Prop) : Chl w S [] := fun x hx => by simp at hx
theorem Chl.snoc {w : World} {S : Nat → Prop} {l : List N} {x : N} (h : Chl w S l) (h1 : x.ok) (h2 : Ints w S x.a x.g.c) : Chl w S (l ++ [x]) := by
  intro y hy
  rcases List.mem_append.1 hy with hy | hy
  · exact h y hy
  · simp at hy; subst hy; exact ⟨h1, h2⟩

theorem Nodes.chl {w : World} {S : Nat → Prop} {a : Option Addr} {l : List N} (h : Nodes w S a l) : Chl w S l := by
  intro x hx
  obtain ⟨i, hi⟩ := List.getElem?_of_mem hx
  obtain ⟨h0, b, o, _, _, _, _, _, _, h7⟩ := h i x hi
  exact ⟨h0, h7⟩

theorem ncells_one (l : List N) : ∀ u, u ∈ ncells l → u.oneCell' = true := by
  intro u hu
  obtain ⟨x, _, hx⟩ := List.mem_flatMap.1 hu
  simp [N.cells] at hx
  rcases hx with rfl | rfl | rfl | rfl <;> rfl

/-! ### trees -/

def tcells (l : List (Tree × Option Addr × Nat)) : List Value := l.flatMap fun x => [.int .i64 x.1.k, .string x.1.t, .slice x.2.1 x.1.c.length x.2.2]
theorem tcells_length (l : List (Tree × Option Addr × Nat)) : (tcells l).length = l.length * 3 := by
  induction l with
  | nil => rfl
  | cons x r ih => simp only [tcells, List.flatMap_cons, List.length_append, List.length_cons] at ih ⊢; rw [ih]; simp; omega
theorem tcells_append (a b : List (Tree × Option Addr × Nat)) : tcells (a ++ b) = tcells a ++ tcells b := by simp [tcells]
theorem tcells_at {l : List (Tree × Option Addr × Nat)} : ∀ {i : Nat} {x : Tree × Option Addr × Nat}, l[i]? = some x →
    (tcells l)[i * 3]? = some (.int .i64 x.1.k) ∧ (tcells l)[i * 3 + 1]? = some (.string x.1.t) ∧ (tcells l)[i * 3 + 2]? = some (.slice x.2.1 x.1.c.length x.2.2) := by
  induction l with
  | nil => intro i x h; simp at h
  | cons y r ih =>
    intro i x h
    cases i with
    | zero => simp at h; subst h; simp [tcells]
    | succ i =>
      simp at h
      obtain ⟨a, b, c⟩ := ih h
      have e : tcells (y :: r) = [.int .i64 y.1.k, .string y.1.t, .slice y.2.1 y.1.c.length y.2.2] ++ tcells r := rfl
      have step : ∀ j u, (tcells r)[j]? = some u → (tcells (y :: r))[j + 3]? = some u := fun j u hu => by
        rw [e, List.getElem?_append_right (by simp)]
        simpa using hu
      refine ⟨?_, ?_, ?_⟩
      · rw [show (i + 1) * 3 = i * 3 + 3 from by omega]; exact step _ _ a
      · rw [show (i + 1) * 3 + 1 = i * 3 + 1 + 3 from by omega]; exact step _ _ b
      · rw [show (i + 1) * 3 + 2 = i * 3 + 2 + 3 from by omega]; exact step _ _ c

def OwnsT (w : World) (B : Nat) (v : Value) (l : List (Tree × Option Addr × Nat)) : Prop := w.ownsRow B 40 3 v l.length (tcells l)

/-- What hangs below the trees l, in blocks of S, no higher than n. -/
def Sub (w : World) (S : Nat → Prop) (n : Nat) (l : List (Tree × Option Addr × Nat)) : Prop := ∀ x, x ∈ l → x.1.ok ∧ Kids w S n x.2.1 x.1.c
theorem Sub.kept {w w' : World} {S : Nat → Prop} {n : Nat} {l : List (Tree × Option Addr × Nat)} (h : Sub w S n l) (hk : Kept S w w') : Sub w' S n l := fun x hx => ⟨(h x hx).1, (h x hx).2.kept hk⟩
theorem Sub.up {w : World} {S T : Nat → Prop} {n m : Nat} {l : List (Tree × Option Addr × Nat)} (h : Sub w S n l) (hs : ∀ i, S i → T i) (hm : n ≤ m) : Sub w T m l := fun x hx => ⟨(h x hx).1, (h x hx).2.up hs hm⟩
theorem Sub.nil (w : World) (S : Nat → Prop) (n : Nat) : Sub w S n [] := fun x hx => by simp at hx
theorem Sub.snoc {w : World} {S : Nat → Prop} {n : Nat} {l : List (Tree × Option Addr × Nat)} {x : Tree × Option Addr × Nat} (h : Sub w S n l) (h1 : x.1.ok) (h2 : Kids w S n x.2.1 x.1.c) : Sub w S n (l ++ [x]) := by
  intro y hy
  rcases List.mem_append.1 hy with hy | hy
  · exact h y hy
  · simp at hy; subst hy; exact ⟨h1, h2⟩

theorem OwnsT.kids {w : World} {B : Nat} {v : Value} {l : List (Tree × Option Addr × Nat)} {S : Nat → Prop} {n : Nat} (h : OwnsT w B v l) (hc : Sub w S n l) (hg : ∀ g, v.ownBlock = some g → S g) :
    ∃ a cap, v = .slice a l.length cap ∧ Kids w S (n + 1) a (l.map Prod.fst) := by
  rcases h.2 with ⟨rfl, h0⟩ | ⟨g, cap, cur, rfl, hb, hh, h1, h2, h3, h4⟩
  · have : l = [] := List.eq_nil_of_length_eq_zero h0
    subst this
    exact ⟨none, 0, rfl, Kids.nil _ _ _ _⟩
  · refine ⟨some ⟨g, 0, none⟩, cap, rfl, ?_⟩
    intro i y hy
    have hx : ∃ x, l[i]? = some x ∧ x.1 = y := by
      rw [List.getElem?_map] at hy
      cases hl : l[i]? with
      | none => rw [hl] at hy; simp at hy
      | some x => rw [hl] at hy; exact ⟨x, rfl, by simpa using hy⟩
    obtain ⟨x, hx, rfl⟩ := hx
    obtain ⟨q0, q1, q2⟩ := tcells_at hx
    have hcell : ∀ j u, (tcells l)[j]? = some u → w.cell? ⟨g, 0 + j, none⟩ = some u := by
      intro j u hu
      rw [← h4, List.getElem?_take] at hu
      split at hu
      · rw [Nat.zero_add, Lib.cell_of_heap hh]
        simpa using hu
      · cases hu
    have := hc x (List.mem_of_getElem? hx)
    exact ⟨this.1, g, 0, x.2.1, x.2.2, rfl, hg g rfl, hcell _ _ q0, by have := hcell _ _ q1; rwa [← Nat.add_assoc] at this, by have := hcell _ _ q2; rwa [← Nat.add_assoc] at this, this.2⟩

/-- An operation without a guard, as one step of a region that draws: for a call of a Go function inside 'go_region_law'. -/
theorem step_wanted {ops : Array Oper} {o : Oper} {a : Act} {X E : Prop} (hg : o.guard = none) (h : X) : if Region.wanted o (yielded ops a.tmps) = true then X else E := by
  have hw : Region.wanted o (yielded ops a.tmps) = true := by simp [Region.wanted, hg]
  rw [if_pos hw]
  exact h
end Go.Proofs.YtbomilleckgalaaGreat
