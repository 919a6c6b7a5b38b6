/-
  Common words for the walks of package greentree: trees, nodes and integers in memory; slices that a call has made itself; keys of the map.
  Slices of nodes, of trees and of integers that a call has made itself; appending from whatever source; copyNodes and Clone.
-/
import Derived.Test.YtcpojagfnpajeaaGreatDoorRProg
import Derived.Test.YtcpojagfnpajeaaGreatDoorRZGtPure
import Derived.WalkKit
import Derived.KernelRfl
import Derived.Lib.Hide
import Derived.Deep.AppendLies
import Derived.Deep.AppendSrc
import Derived.Deep.QuietTactic
import Derived.BigQuiet
import Derived.Laws.StructEq
import Derived.Laws.MakeOwn
import Derived.Laws.AppendOwn
import Derived.Maps.OwnSet
import Derived.Maps.AppendAt
import Derived.DeepKeys4
import Derived.Outline
import Derived.IntWalk
import Derived.WalkSpells
import Derived.Lib.Builder
import Derived.Deep.RegionHeld3
import Derived.Deep.DrawnRows
import Derived.Laws.AppendOwnNone
namespace Go.Proofs.YtcpojagfnpajeaaGreatDoorR
open Go.RowKit

theorem info_int : (Tryz.prog.info? 3).map (fun i => (i.zero, i.size, i.bytes)) = some (some (.int .i64 0), 1, 8) := by kernel_rfl

theorem info_byte : (Tryz.prog.info? 5).map (fun i => (i.zero, i.size, i.bytes)) = some (some (.int .u8 0), 1, 1) := by kernel_rfl

theorem info_tree : (Tryz.prog.info? 25).map (fun i => (i.zero, i.size, i.bytes)) = some (some (.agg #[.int .i64 0, .string ⟨#[]⟩, .slice none 0 0]), 3, 48) := by kernel_rfl

/-! ### what does not change -/

def Kept (S : Nat → Prop) (w w' : World) : Prop := ∀ b o, S b → w'.cell? ⟨b, o, none⟩ = w.cell? ⟨b, o, none⟩

/-! ### integers -/

def I64 (z : Int) : Prop := -9223372036854775808 ≤ z ∧ z ≤ 9223372036854775807

/-- The slice at a reads in w as the list zs of integers; its block is one of S. -/
def Ints (w : World) (S : Nat → Prop) (a : Option Addr) (zs : List Int) : Prop :=
  ∀ i z, zs[i]? = some z → ∃ b o, a = some ⟨b, o, none⟩ ∧ S b ∧ w.cell? ⟨b, o + i, none⟩ = some (.int .i64 z)

theorem Ints.kept {w w' : World} {S : Nat → Prop} {a : Option Addr} {zs : List Int} (h : Ints w S a zs) (hk : Kept S w w') : Ints w' S a zs := by
  intro i z hz
  obtain ⟨b, o, h1, h2, h3⟩ := h i z hz
  exact ⟨b, o, h1, h2, (hk b _ h2).trans h3⟩
theorem Ints.sub {w : World} {S T : Nat → Prop} {a : Option Addr} {zs : List Int} (h : Ints w S a zs) (hs : ∀ i, S i → T i) : Ints w T a zs := by
  intro i z hz
  obtain ⟨b, o, h1, h2, h3⟩ := h i z hz
  exact ⟨b, o, h1, hs b h2, h3⟩
theorem Ints.nil (w : World) (S : Nat → Prop) (a : Option Addr) : Ints w S a [] := fun i z h => by simp at h

/-! ### nodes of an arena -/

/-- A node with the header of its children. -/
structure N where
  g : G
  a : Option Addr
  cap : Nat

def N.cells (x : N) : List Value := [.int .i64 x.g.k, .int .i64 x.g.w, .string x.g.t, .slice x.a x.g.c.length x.cap]
/-- The value of a node. -/
abbrev gv (g : G) (a : Option Addr) (cap : Nat) : Value := .agg #[.int .i64 g.k, .int .i64 g.w, .string g.t, .slice a g.c.length cap]

/-- The integers fit, the text and the list of children are no longer than they may be. -/
def N.ok (x : N) : Prop := I64 x.g.k ∧ I64 x.g.w ∧ x.g.t.size ≤ maxLen ∧ x.g.c.length * 8 ≤ 140737488351232 ∧ (∀ z, z ∈ x.g.c → I64 z) ∧ (x.a = none → x.g.c = [] ∧ x.cap = 0)

/-- The slice at a reads in w as the nodes l; all blocks are of S. -/
def Nodes (w : World) (S : Nat → Prop) (a : Option Addr) (l : List N) : Prop :=
  ∀ i x, l[i]? = some x → x.ok ∧ ∃ b o, a = some ⟨b, o, none⟩ ∧ S b ∧ w.cell? ⟨b, o + i * 4, none⟩ = some (.int .i64 x.g.k) ∧ w.cell? ⟨b, o + i * 4 + 1, none⟩ = some (.int .i64 x.g.w) ∧
    w.cell? ⟨b, o + i * 4 + 2, none⟩ = some (.string x.g.t) ∧ w.cell? ⟨b, o + i * 4 + 3, none⟩ = some (.slice x.a x.g.c.length x.cap) ∧ Ints w S x.a x.g.c

def gs (l : List N) : List G := l.map N.g
/-! ### trees -/

def Tree.ok (x : Tree) : Prop := I64 x.k ∧ x.t.size ≤ maxLen ∧ x.c.length ≤ maxLen

/-- The slice at a reads in w as the trees l, of no greater height than n; all blocks are of S. -/
def Kids (w : World) (S : Nat → Prop) : Nat → Option Addr → List Tree → Prop
  | 0, _, l => l = []
  | n + 1, a, l => ∀ i x, l[i]? = some x → x.ok ∧ ∃ b o sa cap, a = some ⟨b, o, none⟩ ∧ S b ∧ w.cell? ⟨b, o + i * 3, none⟩ = some (.int .i64 x.k) ∧ w.cell? ⟨b, o + i * 3 + 1, none⟩ = some (.string x.t) ∧
      w.cell? ⟨b, o + i * 3 + 2, none⟩ = some (.slice sa x.c.length cap) ∧ Kids w S n sa x.c

theorem Kids.kept {w w' : World} {S : Nat → Prop} (hk : Kept S w w') : ∀ {n : Nat} {a : Option Addr} {l : List Tree}, Kids w S n a l → Kids w' S n a l
  | 0, _, _, h => h
  | n + 1, a, l, h => by
    intro i x hx
    obtain ⟨h0, b, o, sa, cap, h1, h2, h3, h4, h5, h6⟩ := h i x hx
    exact ⟨h0, b, o, sa, cap, h1, h2, (hk b _ h2).trans h3, (hk b _ h2).trans h4, (hk b _ h2).trans h5, h6.kept hk⟩

theorem Kids.up {w : World} {S T : Nat → Prop} (hs : ∀ i, S i → T i) : ∀ {n : Nat} {a : Option Addr} {l : List Tree} {m : Nat}, Kids w S n a l → n ≤ m → Kids w T m a l
  | 0, _, _, 0, h, _ => h
  | 0, _, _, m + 1, h, _ => by
    rw [show _ = [] from h]
    intro i x hx
    simp at hx
  | n + 1, a, l, 0, _, hm => absurd hm (by omega)
  | n + 1, a, l, m + 1, h, hm => by
    intro i x hx
    obtain ⟨h0, b, o, sa, cap, h1, h2, h3, h4, h5, h6⟩ := h i x hx
    exact ⟨h0, b, o, sa, cap, h1, hs b h2, h3, h4, h5, h6.up hs (by omega)⟩

theorem Kids.nil (w : World) (S : Nat → Prop) (n : Nat) (a : Option Addr) : Kids w S n a [] := by
  cases n with
  | zero => rfl
  | succ n => exact fun i x hx => by simp at hx

theorem Kids.at {w : World} {S : Nat → Prop} {n : Nat} {a : Option Addr} {l : List Tree} (h : Kids w S n a l) {i : Nat} {x : Tree} (hx : l[i]? = some x) :
    x.ok ∧ ∃ m b o sa cap, m < n ∧ a = some ⟨b, o, none⟩ ∧ S b ∧ w.cell? ⟨b, o + i * 3, none⟩ = some (.int .i64 x.k) ∧ w.cell? ⟨b, o + i * 3 + 1, none⟩ = some (.string x.t) ∧
      w.cell? ⟨b, o + i * 3 + 2, none⟩ = some (.slice sa x.c.length cap) ∧ Kids w S m sa x.c := by
  cases n with
  | zero => rw [show l = [] from h] at hx; simp at hx
  | succ n =>
    obtain ⟨h0, b, o, sa, cap, h1, h2, h3, h4, h5, h6⟩ := h i x hx
    exact ⟨h0, n, b, o, sa, cap, by omega, h1, h2, h3, h4, h5, h6⟩

/-- The value of a tree. -/
abbrev tv (x : Tree) (a : Option Addr) (cap : Nat) : Value := .agg #[.int .i64 x.k, .string x.t, .slice a x.c.length cap]

/-! ### keys of the map -/

def keyV (k : Int) (t e : ByteArray) : Value := .agg #[.int .i64 k, .string t, .string e]

theorem below_drewN' {B : Nat} {a w : World} (h : Below B a w) (n : Nat) : Below B a (w.drewN n) := ⟨h.os, h.tape, h.output, h.size, h.block⟩
theorem below_drew' {B : Nat} {a w : World} (h : Below B a.drew w) : Below B a w := ⟨h.os, h.tape, h.output, h.size, h.block⟩
/-! ### blocks of one, three and four cells -/

theorem set_one0 {w : World} {b : Nat} {v0 u : Value} {t : TypeId} (h : w.heap[b]? = some (.cells #[v0] t (0, 0))) : (w.setCell ⟨b, 0, none⟩ u).heap[b]? = some (.cells #[u] t (0, 0)) := by
  simp [World.setCell, Array.getElem?_modify, h]
theorem set_three0 {w : World} {b : Nat} {v0 v1 v2 u : Value} {t : TypeId} (h : w.heap[b]? = some (.cells #[v0, v1, v2] t (0, 0))) : (w.setCell ⟨b, 0, none⟩ u).heap[b]? = some (.cells #[u, v1, v2] t (0, 0)) := by
  simp [World.setCell, Array.getElem?_modify, h]
theorem set_three1 {w : World} {b : Nat} {v0 v1 v2 u : Value} {t : TypeId} (h : w.heap[b]? = some (.cells #[v0, v1, v2] t (0, 0))) : (w.setCell ⟨b, 1, none⟩ u).heap[b]? = some (.cells #[v0, u, v2] t (0, 0)) := by
  simp [World.setCell, Array.getElem?_modify, h]
theorem set_three2 {w : World} {b : Nat} {v0 v1 v2 u : Value} {t : TypeId} (h : w.heap[b]? = some (.cells #[v0, v1, v2] t (0, 0))) : (w.setCell ⟨b, 2, none⟩ u).heap[b]? = some (.cells #[v0, v1, u] t (0, 0)) := by
  simp [World.setCell, Array.getElem?_modify, h]
theorem set_three {w : World} {b : Nat} {v0 v1 v2 u0 u1 u2 : Value} {t : TypeId} (h : w.heap[b]? = some (.cells #[v0, v1, v2] t (0, 0))) :
    (((w.setCell ⟨b, 0, none⟩ u0).setCell ⟨b, 1, none⟩ u1).setCell ⟨b, 2, none⟩ u2).heap[b]? = some (.cells #[u0, u1, u2] t (0, 0)) := set_three2 (set_three1 (set_three0 h))

theorem one_facts {w : World} {b : Nat} {v0 : Value} {t : TypeId} (h : w.heap[b]? = some (.cells #[v0] t (0, 0))) : w.cell? ⟨b, 0, none⟩ = some v0 ∧ w.frozen? ⟨b, 0, none⟩ = false := by
  refine ⟨?_, Lib.frozen_of_heap h _⟩
  rw [Lib.cell_of_heap h]; rfl
theorem three_facts {w : World} {b : Nat} {v0 v1 v2 : Value} {t : TypeId} (h : w.heap[b]? = some (.cells #[v0, v1, v2] t (0, 0))) :
    w.cell? ⟨b, 0, none⟩ = some v0 ∧ w.cell? ⟨b, 1, none⟩ = some v1 ∧ w.cell? ⟨b, 2, none⟩ = some v2 ∧ w.frozen? ⟨b, 0, none⟩ = false ∧ w.frozen? ⟨b, 1, none⟩ = false ∧ w.frozen? ⟨b, 2, none⟩ = false := by
  refine ⟨?_, ?_, ?_, Lib.frozen_of_heap h _, Lib.frozen_of_heap h _, Lib.frozen_of_heap h _⟩ <;> (rw [Lib.cell_of_heap h]; rfl)
theorem alloc_keeps {w : World} {b : Nat} {o : Obj} (o' : Obj) (h : w.heap[b]? = some o) : (w.alloc o').heap[b]? = some o := by
  rw [Below.heap_alloc _ _ _ (Array.getElem?_eq_some_iff.1 h).1]; exact h
end Go.Proofs.YtcpojagfnpajeaaGreatDoorR

namespace Go.Proofs.YtcpojagfnpajeaaGreatDoorR
open Go.RowKit

/-- The slice value x yields m elements of the given size: the cells news. -/
def SrcIs (w : World) (x : Value) (m size : Nat) (news : List Value) : Prop :=
  news.length = m * size ∧ (∀ u, u ∈ news → u.oneCell' = true) ∧ ((x = .slice none 0 0 ∧ m = 0) ∨ ∃ ad c, x = .slice (some ad) m c ∧ ∀ j u, news[j]? = some u → w.cell? (ad.add j) = some u)

theorem wpList_append_src {P : Program} {w : World} {ops : Array Oper} {rest : List Oper} {o : Oper} {a : Act} {Q : Exit → Act → World → Prop} (hgd : o.guard = none) (s x : Operand) (t : TypeId)
    (ho : o.op = .call { callee := .builtin .append, args := #[s, x], argTypes := #[t, t] })
    (base : Nat) (e : TypeId) (i : TypeInfo) (z : Value) (size bytes : Nat) (ht : P.underlying t = some (.slice e)) (hi : P.info? e = some i) (hz : i.zero = some z)
    (hsize : i.size = size) (hby : i.bytes = bytes) (hzs : z.cells.size = size) (hsz : 0 < size)
    (v : Value) (n : Nat) (xs : List Value) (hs : a.eval s = v) (hown : w.ownsRow base e size v n xs)
    (xv : Value) (m : Nat) (news : List Value) (hx : a.eval x = xv) (hsrc : SrcIs w xv m size news)
    (h63 : n + m ≤ maxLen) (hbytes : (n + m) * bytes ≤ 140737488355328) (hbase : base ≤ w.heap.size)
    (h : ∀ v' w', w'.ownsRow base e size v' (n + m) (xs ++ news) → w.grownBy w' v.ownBlock → (v'.ownBlock = v.ownBlock ∨ v'.ownBlock = some w.heap.size) → wpList P ops Q rest (a.put o.dst v') w') : wpList P ops Q (o :: rest) a w := by
  obtain ⟨hl, h1, hc | ⟨ad, c, rfl, hc⟩⟩ := hsrc
  · obtain ⟨rfl, rfl⟩ := hc
    have hn : news = [] := List.eq_nil_of_length_eq_zero (by simpa using hl)
    subst hn
    refine wpList_append_own_none hgd s x t ho base e i size ht hi v n xs hs hown hx ?_
    exact h v w (by simpa using hown) ⟨rfl, rfl, rfl, Nat.le_refl _, fun _ _ _ => rfl⟩ (Or.inl rfl)
  · exact wpList_append_own_at w hgd s x t ho base e i z size bytes ht hi hz hsize hby hzs hsz v n xs hs hown ad m c news hx hl hc h1 h63 hbytes hbase fun v' w' a b _ d => h v' w' a b d

theorem owns_below {w w' : World} {B e size n : Nat} {v : Value} {xs : List Value} (h : w.ownsRow B e size v n xs) (hb : Below w.heap.size w w') : w'.ownsRow B e size v n xs :=
  h.kept (row := none) ⟨hb.os, hb.tape, hb.output, hb.size, fun k hk _ => hb.block k hk⟩ (by cases hv : v.ownBlock <;> simp)

theorem grown_set (w : World) (a : Addr) (u : Value) : w.grownBy (w.setCell a u) (some a.block) :=
  ⟨rfl, rfl, rfl, by simp, fun i _ hi => heap_setCell_other w a i u (fun e => hi (by rw [e]))⟩
theorem owns_set {w : World} {B e size n : Nat} {v : Value} {xs : List Value} (h : w.ownsRow B e size v n xs) (a : Addr) (u : Value) (hne : v.ownBlock ≠ some a.block) : (w.setCell a u).ownsRow B e size v n xs :=
  h.kept (grown_set w a u) (Or.inr hne)
theorem kept_grown {w w' : World} {row : Option Nat} {S : Nat → Prop} (hg : w.grownBy w' row) (hs : ∀ b, S b → b < w.heap.size ∧ some b ≠ row) : Kept S w w' := fun b _ hb =>
  World.cell?_of_block (hg.block b (hs b hb).1 (hs b hb).2)
/-! ### integers -/

def iCells (zs : List Int) : List Value := zs.map (fun z => .int .i64 z)
theorem iCells_append (a b : List Int) : iCells (a ++ b) = iCells a ++ iCells b := by simp [iCells]
def OwnsI (w : World) (B : Nat) (v : Value) (zs : List Int) : Prop := w.ownsRow B 3 1 v zs.length (iCells zs)
theorem OwnsI.nil (w : World) (B : Nat) : OwnsI w B (.slice none 0 0) [] := World.ownsRow_nil w B 3 1

theorem OwnsI.ints {w : World} {B : Nat} {v : Value} {zs : List Int} (h : OwnsI w B v zs) :
    ∃ a cap, v = .slice a zs.length cap ∧ Ints w (fun b => v.ownBlock = some b) a zs ∧ (a = none → zs = [] ∧ cap = 0) := by
  rcases h.2 with ⟨rfl, h0⟩ | ⟨g, cap, cur, rfl, hb, hg, h1, h2, h3, h4⟩
  · have : zs = [] := List.eq_nil_of_length_eq_zero h0
    subst this
    exact ⟨none, 0, rfl, Ints.nil _ _ _, fun _ => ⟨rfl, rfl⟩⟩
  · refine ⟨some ⟨g, 0, none⟩, cap, rfl, ?_, fun h => by cases h⟩
    intro i z hz
    refine ⟨g, 0, rfl, rfl, ?_⟩
    rw [Nat.zero_add, Lib.cell_of_heap hg]
    have h5 : (iCells zs)[i]? = some (.int .i64 z) := by simp [iCells, hz]
    rw [← h4, List.getElem?_take] at h5
    split at h5
    · simpa using h5
    · cases h5

/-! ### nodes -/

def ncells (l : List N) : List Value := l.flatMap N.cells
/-- The children of the nodes l, in blocks of S. -/
def Chl (w : World) (S : Nat → Prop) (l : List N) : Prop := ∀ x, x ∈ l → x.ok ∧ Ints w S x.a x.g.c

/-! ### trees -/

def tcells (l : List (Tree × Option Addr × Nat)) : List Value := l.flatMap fun x => [.int .i64 x.1.k, .string x.1.t, .slice x.2.1 x.1.c.length x.2.2]
theorem tcells_length (l : List (Tree × Option Addr × Nat)) : (tcells l).length = l.length * 3 := by
  induction l with
  | nil => rfl
  | cons x r ih => simp only [tcells, List.flatMap_cons, List.length_append, List.length_cons] at ih ⊢; rw [ih]; simp; omega
theorem tcells_append (a b : List (Tree × Option Addr × Nat)) : tcells (a ++ b) = tcells a ++ tcells b := by simp [tcells]
theorem tcells_at {l : List (Tree × Option Addr × Nat)} : ∀ {i : Nat} {x : Tree × Option Addr × Nat}, l[i]? = some x →
    (tcells l)[i * 3]? = some (.int .i64 x.1.k) ∧ (tcells l)[i * 3 + 1]? = some (.string x.1.t) ∧ (tcells l)[i * 3 + 2]? = some (.slice x.2.1 x.1.c.length x.2.2) := by
  induction l with
  | nil => intro i x h; simp at h
  | cons y r ih =>
    intro i x h
    cases i with
    | zero => simp at h; subst h; simp [tcells]
    | succ i =>
      simp at h
      obtain ⟨a, b, c⟩ := ih h
      have e : tcells (y :: r) = [.int .i64 y.1.k, .string y.1.t, .slice y.2.1 y.1.c.length y.2.2] ++ tcells r := rfl
      have step : ∀ j u, (tcells r)[j]? = some u → (tcells (y :: r))[j + 3]? = some u := fun j u hu => by
        rw [e, List.getElem?_append_right (by simp)]
        simpa using hu
      refine ⟨?_, ?_, ?_⟩
      · rw [show (i + 1) * 3 = i * 3 + 3 from by omega]; exact step _ _ a
      · rw [show (i + 1) * 3 + 1 = i * 3 + 1 + 3 from by omega]; exact step _ _ b
      · rw [show (i + 1) * 3 + 2 = i * 3 + 2 + 3 from by omega]; exact step _ _ c

def OwnsT (w : World) (B : Nat) (v : Value) (l : List (Tree × Option Addr × Nat)) : Prop := w.ownsRow B 25 3 v l.length (tcells l)

/-- What hangs below the trees l, in blocks of S, no higher than n. -/
def Sub (w : World) (S : Nat → Prop) (n : Nat) (l : List (Tree × Option Addr × Nat)) : Prop := ∀ x, x ∈ l → x.1.ok ∧ Kids w S n x.2.1 x.1.c
theorem Sub.kept {w w' : World} {S : Nat → Prop} {n : Nat} {l : List (Tree × Option Addr × Nat)} (h : Sub w S n l) (hk : Kept S w w') : Sub w' S n l := fun x hx => ⟨(h x hx).1, (h x hx).2.kept hk⟩
theorem Sub.up {w : World} {S T : Nat → Prop} {n m : Nat} {l : List (Tree × Option Addr × Nat)} (h : Sub w S n l) (hs : ∀ i, S i → T i) (hm : n ≤ m) : Sub w T m l := fun x hx => ⟨(h x hx).1, (h x hx).2.up hs hm⟩
theorem Sub.nil (w : World) (S : Nat → Prop) (n : Nat) : Sub w S n [] := fun x hx => by simp at hx
theorem Sub.snoc {w : World} {S : Nat → Prop} {n : Nat} {l : List (Tree × Option Addr × Nat)} {x : Tree × Option Addr × Nat} (h : Sub w S n l) (h1 : x.1.ok) (h2 : Kids w S n x.2.1 x.1.c) : Sub w S n (l ++ [x]) := by
  intro y hy
  rcases List.mem_append.1 hy with hy | hy
  · exact h y hy
  · simp at hy; subst hy; exact ⟨h1, h2⟩

theorem OwnsT.kids {w : World} {B : Nat} {v : Value} {l : List (Tree × Option Addr × Nat)} {S : Nat → Prop} {n : Nat} (h : OwnsT w B v l) (hc : Sub w S n l) (hg : ∀ g, v.ownBlock = some g → S g) :
    ∃ a cap, v = .slice a l.length cap ∧ Kids w S (n + 1) a (l.map Prod.fst) := by
  rcases h.2 with ⟨rfl, h0⟩ | ⟨g, cap, cur, rfl, hb, hh, h1, h2, h3, h4⟩
  · have : l = [] := List.eq_nil_of_length_eq_zero h0
    subst this
    exact ⟨none, 0, rfl, Kids.nil _ _ _ _⟩
  · refine ⟨some ⟨g, 0, none⟩, cap, rfl, ?_⟩
    intro i y hy
    have hx : ∃ x, l[i]? = some x ∧ x.1 = y := by
      rw [List.getElem?_map] at hy
      cases hl : l[i]? with
      | none => rw [hl] at hy; simp at hy
      | some x => rw [hl] at hy; exact ⟨x, rfl, by simpa using hy⟩
    obtain ⟨x, hx, rfl⟩ := hx
    obtain ⟨q0, q1, q2⟩ := tcells_at hx
    have hcell : ∀ j u, (tcells l)[j]? = some u → w.cell? ⟨g, 0 + j, none⟩ = some u := by
      intro j u hu
      rw [← h4, List.getElem?_take] at hu
      split at hu
      · rw [Nat.zero_add, Lib.cell_of_heap hh]
        simpa using hu
      · cases hu
    have := hc x (List.mem_of_getElem? hx)
    exact ⟨this.1, g, 0, x.2.1, x.2.2, rfl, hg g rfl, hcell _ _ q0, by have := hcell _ _ q1; rwa [← Nat.add_assoc] at this, by have := hcell _ _ q2; rwa [← Nat.add_assoc] at this, this.2⟩

end Go.Proofs.YtcpojagfnpajeaaGreatDoorR
