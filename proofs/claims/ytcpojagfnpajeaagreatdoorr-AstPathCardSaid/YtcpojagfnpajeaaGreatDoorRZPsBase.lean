/-
  The parser in memory: its struct, its tokens, the children of the innermost node; what a call of a method leaves alone.
-/
import Derived.Test.YtcpojagfnpajeaaGreatDoorRZPsPure
import Derived.Test.YtcpojagfnpajeaaGreatDoorRZGtLow
namespace Go.Proofs.YtcpojagfnpajeaaGreatDoorR.Ps
open Go.RowKit

/-- What stays the same while a source is parsed: the parser's block, how many blocks there were when it was made, its tokens. -/
structure Env where
  b : Nat
  n0 : Nat
  tk : List Tk
  ta : Option Addr
  tc : Nat

abbrev P (E : Env) : Value := .pointer (some ⟨E.b, 0, none⟩)
def Bs (E : Env) (j : Nat) : Prop := j < E.n0 ∧ j ≠ E.b

/-- The slice at a reads in w as the tokens l; its block is one of B. -/
def TkS (w : World) (B : Nat → Prop) (a : Option Addr) (l : List Tk) : Prop :=
  ∀ i x, l[i]? = some x → ∃ b o, a = some ⟨b, o, none⟩ ∧ B b ∧ w.cell? ⟨b, o + i * 2, none⟩ = some (.int .i64 x.1) ∧ w.cell? ⟨b, o + i * 2 + 1, none⟩ = some (.string (Lx.bs x.2))
theorem TkS.kept {w w' : World} {B : Nat → Prop} {a : Option Addr} {l : List Tk} (h : TkS w B a l) (hk : Kept B w w') : TkS w' B a l := by
  intro i x hx
  obtain ⟨b, o, h1, h2, h3, h4⟩ := h i x hx
  exact ⟨b, o, h1, h2, (hk b _ h2).trans h3, (hk b _ h2).trans h4⟩

/-- The places of the significant tokens, from k on. -/
def idxs : Nat → List Tk → List Int
  | _, [] => []
  | k, t :: r => if sigB t then (k : Int) :: idxs (k + 1) r else idxs (k + 1) r

theorem idxs_len (k : Nat) (l : List Tk) : (idxs k l).length = (sigs l).length := by
  induction l generalizing k with
  | nil => rfl
  | cons t r ih =>
    unfold idxs sigs
    cases h : sigB t with
    | true => simp [h, ih]; rfl
    | false => simp [h, ih]; rfl

theorem idxs_at {k : Nat} {l : List Tk} : ∀ {n : Nat} {t : Tk}, (sigs l)[n]? = some t → ∃ j : Nat, (idxs k l)[n]? = some ((k + j : Nat) : Int) ∧ l[j]? = some t := by
  induction l generalizing k with
  | nil => intro n t h; simp [sigs] at h
  | cons x r ih =>
    intro n t h
    unfold sigs at h
    cases hx : sigB x with
    | true =>
      rw [List.filter_cons_of_pos (by simpa using hx)] at h
      cases n with
      | zero => simp at h; exact ⟨0, by simp [idxs, hx], by simp [h]⟩
      | succ n =>
        obtain ⟨j, h1, h2⟩ := ih (k := k + 1) (by simpa [sigs] using h)
        exact ⟨j + 1, by simp only [idxs, hx, if_true, List.getElem?_cons_succ]; rw [h1]; congr 2; omega, by simpa using h2⟩
    | false =>
      rw [List.filter_cons_of_neg (by simp [hx])] at h
      obtain ⟨j, h1, h2⟩ := ih (k := k + 1) h
      exact ⟨j + 1, by simp only [idxs, hx]; simp only [Bool.false_eq_true, if_false]; rw [h1]; congr 2; omega, by simpa using h2⟩

/-- The first of the significant tokens, and what is behind it. -/
theorem split_some {l : List Tk} {a r : List Tk} (h : split l = some (a, r)) : l = a ++ r ∧ ∃ t, (sigs l) = t :: sigs r ∧ (∀ k, idxs k l = ((k + a.length - 1 : Nat) : Int) :: idxs (k + a.length) r) ∧ 0 < a.length := by
  induction l generalizing a r with
  | nil => simp [split] at h
  | cons x q ih =>
    unfold split at h
    cases hx : sigB x with
    | true =>
      rw [hx] at h
      simp at h
      obtain ⟨rfl, rfl⟩ := h
      exact ⟨rfl, x, by simp [sigs, hx], fun k => by simp [idxs, hx], by simp⟩
    | false =>
      rw [hx] at h
      simp only [Bool.false_eq_true, if_false] at h
      cases hq : split q with
      | none => rw [hq] at h; simp at h
      | some y =>
        rw [hq] at h
        simp at h
        obtain ⟨rfl, rfl⟩ := h
        obtain ⟨h1, t, h2, h3, h4⟩ := ih (a := y.1) (r := y.2) hq
        refine ⟨by rw [List.cons_append, ← h1], t, by simpa [sigs, hx] using h2, fun k => ?_, by simp⟩
        have := h3 (k + 1)
        simp only [idxs, hx, Bool.false_eq_true, if_false, List.length_cons]
        rw [this]
        congr 1
        · congr 1; omega
        · congr 1; omega

/-- Block j is a row of plain cells. -/
def Pl (w : World) (j : Nat) : Prop := ∃ c t, w.heap[j]? = some (.cells c t (0, 0))
theorem Pl.lt {w : World} {j : Nat} (h : Pl w j) : j < w.heap.size := by
  obtain ⟨c, t, e⟩ := h
  exact (Array.getElem?_eq_some_iff.1 e).1
theorem Pl.of_block {w w' : World} {j : Nat} (h : Pl w j) (e : w'.heap[j]? = w.heap[j]?) : Pl w' j := by
  obtain ⟨c, t, h⟩ := h
  exact ⟨c, t, e.trans h⟩
theorem Pl.below {w w' : World} {j : Nat} (h : Pl w j) (hb : Below w.heap.size w w') : Pl w' j := h.of_block (hb.block j h.lt)
theorem Pl.grown {w w' : World} {j : Nat} {row : Option Nat} (h : Pl w j) (hg : w.grownBy w' row) (hne : some j ≠ row) : Pl w' j := h.of_block (hg.block j h.lt hne)
theorem Pl.set {w : World} {j : Nat} (h : Pl w j) (a : Addr) (u : Value) : Pl (w.setCell a u) j := by
  obtain ⟨c, t, e⟩ := h
  unfold World.setCell
  by_cases hj : a.block = j
  · subst hj
    simp only [Pl, Array.getElem?_modify, e, if_true, Option.map_some]
    split <;> first | exact ⟨_, _, rfl⟩ | (simp_all; done) | (rename_i q; cases q; exact ⟨_, _, rfl⟩)
  · simp only [Pl, Array.getElem?_modify, if_neg hj]
    exact ⟨c, t, e⟩
theorem OwnsT.pl {w : World} {B : Nat} {v : Value} {l : List (Tree × Option Addr × Nat)} (h : OwnsT w B v l) {g : Nat} (hg : v.ownBlock = some g) : Pl w g := by
  rcases h.2 with ⟨rfl, _⟩ | ⟨g', _, _, rfl, _, e, _⟩
  · cases hg
  · cases hg; exact ⟨_, _, e⟩

/-- .. and it was made since the parser was. -/
def Pe (E : Env) (w : World) (j : Nat) : Prop := Pl w j ∧ E.n0 ≤ j
theorem Pe.lt {E : Env} {w : World} {j : Nat} (h : Pe E w j) : j < w.heap.size := h.1.lt
theorem Pe.of_block {E : Env} {w w' : World} {j : Nat} (h : Pe E w j) (e : w'.heap[j]? = w.heap[j]?) : Pe E w' j := ⟨h.1.of_block e, h.2⟩
theorem Pe.below {E : Env} {w w' : World} {j : Nat} (h : Pe E w j) (hb : Below w.heap.size w w') : Pe E w' j := ⟨h.1.below hb, h.2⟩
theorem Pe.grown {E : Env} {w w' : World} {j : Nat} {row : Option Nat} (h : Pe E w j) (hg : w.grownBy w' row) (hne : some j ≠ row) : Pe E w' j := ⟨h.1.grown hg hne, h.2⟩
theorem Pe.set {E : Env} {w : World} {j : Nat} (h : Pe E w j) (a : Addr) (u : Value) : Pe E (w.setCell a u) j := ⟨h.1.set a u, h.2⟩

/-- What is held fast while a call runs (h), and the rows of the nodes around the innermost one (r), in which no subtree lies. -/
structure Ho where
  h : Nat → Prop
  r : Nat → Prop

/-- The parser stands in w in the state s: its fields and the children's row written out. -/
structure PSG (E : Env) (A : Ho) (s : S) (w : World) (k : Nat) (aa : Option Addr) (ac : Nat) (v : Value) (l : List (Tree × Option Addr × Nat)) (m : Nat) : Prop where
  hb : w.heap[E.b]? = some (.cells #[.slice E.ta E.tk.length E.tc, .int .i64 k, .slice aa (sigs s.rest).length ac, v] 92 (0, 0))
  hk : k ≤ E.tk.length
  rest : s.rest = E.tk.drop k
  cap : (sigs s.rest).length ≤ ac
  acm : ac ≤ maxLen
  ints : Ints w (Bs E) aa (idxs k s.rest)
  own : OwnsT w 0 v l
  ch : l.map Prod.fst = s.ch
  sub : Sub w (fun j => Pe E w j ∧ j ≠ E.b ∧ v.ownBlock ≠ some j ∧ ¬ A.r j) m l
  row : ∀ g, v.ownBlock = some g → ¬ A.h g ∧ g ≠ E.b
  tks : TkS w (Bs E) E.ta E.tk
  base : ∀ j, Bs E j → A.h j
  lt : ∀ j, A.h j → j < w.heap.size
  nb : ¬ A.h E.b
  rh : ∀ j, A.r j → A.h j
  tl : E.tk.length ≤ 1000000
  tcm : E.tk.length ≤ E.tc
  tcl : E.tc ≤ maxLen
  toks : ∀ t, t ∈ E.tk → I64 t.1 ∧ t.2.length ≤ maxLen

/-- What is of A is as it was. -/
structure Fr (A : Nat → Prop) (w w' : World) : Prop where
  os : w'.os = w.os
  tape : w'.tape = w.tape
  output : w'.output = w.output
  size : w.heap.size ≤ w'.heap.size
  block : ∀ j, A j → w'.heap[j]? = w.heap[j]?
theorem Fr.refl (A : Nat → Prop) (w : World) : Fr A w w := ⟨rfl, rfl, rfl, Nat.le_refl _, fun _ _ => rfl⟩
theorem Fr.trans {A : Nat → Prop} {a b c : World} (h : Fr A a b) (h' : Fr A b c) : Fr A a c :=
  ⟨h'.os.trans h.os, h'.tape.trans h.tape, h'.output.trans h.output, Nat.le_trans h.size h'.size, fun j hj => (h'.block j hj).trans (h.block j hj)⟩
theorem Fr.sub {A B : Nat → Prop} {a b : World} (h : Fr A a b) (hs : ∀ j, B j → A j) : Fr B a b := ⟨h.os, h.tape, h.output, h.size, fun j hj => h.block j (hs j hj)⟩
theorem Fr.of_below {A : Nat → Prop} {w w' : World} (h : Below w.heap.size w w') (hA : ∀ j, A j → j < w.heap.size) : Fr A w w' := ⟨h.os, h.tape, h.output, h.size, fun j hj => h.block j (hA j hj)⟩

/-- Begun in w0, the parser stands in w in the state s; what is of A is as it was in w0. -/
def At (E : Env) (A : Ho) (w0 : World) (s : S) (w : World) : Prop := (∃ k aa ac v l m, PSG E A s w k aa ac v l m) ∧ Fr A.h w0 w

theorem kept_of_below {B : Nat → Prop} {w w' : World} (h : Below w.heap.size w w') (hB : ∀ j, B j → j < w.heap.size) : Kept B w w' := fun b _ hb => h.cell (hB b hb)

theorem PSG.lb {E : Env} {A : Ho} {s : S} {w : World} {k : Nat} {aa : Option Addr} {ac : Nat} {v : Value} {l : List (Tree × Option Addr × Nat)} {m : Nat} (h : PSG E A s w k aa ac v l m) : E.b < w.heap.size := (Array.getElem?_eq_some_iff.1 h.hb).1
theorem PSG.vlt {E : Env} {A : Ho} {s : S} {w : World} {k : Nat} {aa : Option Addr} {ac : Nat} {v : Value} {l : List (Tree × Option Addr × Nat)} {m : Nat} (h : PSG E A s w k aa ac v l m) {g : Nat} (hg : v.ownBlock = some g) : g < w.heap.size := (World.ownsRow.lt h.own g hg).2

theorem PSG.low {E : Env} {A : Ho} {s : S} {w : World} {k : Nat} {aa : Option Addr} {ac : Nat} {v : Value} {l : List (Tree × Option Addr × Nat)} {m : Nat} (h : PSG E A s w k aa ac v l m) {g : Nat} (hg : v.ownBlock = some g) : E.n0 ≤ g := by
  rcases Nat.lt_or_ge g E.n0 with hl | hl
  · exact absurd (h.base g ⟨hl, (h.row g hg).2⟩) (h.row g hg).1
  · exact hl

theorem PSG.len {E : Env} {A : Ho} {s : S} {w : World} {k : Nat} {aa : Option Addr} {ac : Nat} {v : Value} {l : List (Tree × Option Addr × Nat)} {m : Nat} (h : PSG E A s w k aa ac v l m) : l.length = s.ch.length := by rw [← h.ch, List.length_map]

/-- The parser stands while the world grows. -/
theorem PSG.grow {E : Env} {A : Ho} {s : S} {w w' : World} {k : Nat} {aa : Option Addr} {ac : Nat} {v : Value} {l : List (Tree × Option Addr × Nat)} {m : Nat} (h : PSG E A s w k aa ac v l m) (hb : Below w.heap.size w w') : PSG E A s w' k aa ac v l m where
  hb := (hb.block _ h.lb).trans h.hb
  hk := h.hk
  rest := h.rest
  cap := h.cap
  acm := h.acm
  ints := h.ints.kept (kept_of_below hb fun j hj => h.lt j (h.base j hj))
  own := owns_below h.own hb
  ch := h.ch
  sub := (h.sub.kept (kept_of_below hb fun _ hj => hj.1.lt)).up (fun _ hj => ⟨hj.1.below hb, hj.2⟩) (Nat.le_refl _)
  row := h.row
  tks := h.tks.kept (kept_of_below hb fun j hj => h.lt j (h.base j hj))
  base := h.base
  lt := fun j hj => Nat.lt_of_lt_of_le (h.lt j hj) hb.size
  nb := h.nb
  rh := h.rh
  tl := h.tl
  tcm := h.tcm
  tcl := h.tcl
  toks := h.toks

theorem At.grow {E : Env} {A : Ho} {w0 : World} {s : S} {w w' : World} (h : At E A w0 s w) (hb : Below w.heap.size w w') : At E A w0 s w' := by
  obtain ⟨⟨k, aa, ac, v, l, m, hp⟩, hf⟩ := h
  exact ⟨⟨k, aa, ac, v, l, m, hp.grow hb⟩, hf.trans (Fr.of_below hb hp.lt)⟩
theorem At.alloc {E : Env} {A : Ho} {w0 : World} {s : S} {w : World} (h : At E A w0 s w) (o : Obj) : At E A w0 s (w.alloc o) := h.grow ((Below.refl _ _).alloc (Nat.le_refl _) _)
theorem At.drew {E : Env} {A : Ho} {w0 : World} {s : S} {w : World} (h : At E A w0 s w) : At E A w0 s w.drew := h.grow (Below.refl _ _).drew
/-- The flag is the proof's own. -/
theorem At.val {E : Env} {A : Ho} {w0 : World} {s : S} {w : World} (h : At E A w0 s w) (b : Bool) : At E A w0 { s with val := b } w := by
  obtain ⟨⟨k, aa, ac, v, l, m, hp⟩, hf⟩ := h
  exact ⟨⟨k, aa, ac, v, l, m, ⟨hp.hb, hp.hk, hp.rest, hp.cap, hp.acm, hp.ints, hp.own, hp.ch, hp.sub, hp.row, hp.tks, hp.base, hp.lt, hp.nb, hp.rh, hp.tl, hp.tcm, hp.tcl, hp.toks⟩⟩, hf⟩

/-- Blocks made since are held fast as well: a new beginning. -/
def More (A : Ho) (w w1 : World) : Ho := ⟨fun j => A.h j ∨ (w.heap.size ≤ j ∧ j < w1.heap.size), A.r⟩

theorem At.rebase {E : Env} {A : Ho} {w0 : World} {s : S} {w w1 : World} (h : At E A w0 s w) (hb : Below w.heap.size w w1) : At E (More A w w1) w1 s w1 := by
  obtain ⟨⟨k, aa, ac, v, l, m, hp⟩, hf⟩ := h
  have hq := hp.grow hb
  refine ⟨⟨k, aa, ac, v, l, m, ⟨hq.hb, hq.hk, hq.rest, hq.cap, hq.acm, hq.ints, hq.own, hq.ch, hq.sub, fun g hg => ⟨fun e => ?_, (hq.row g hg).2⟩, hq.tks, fun j hj => Or.inl (hq.base j hj), fun j hj => ?_, fun e => ?_, fun j hj => Or.inl (hq.rh j hj), hq.tl, hq.tcm, hq.tcl, hq.toks⟩⟩, Fr.refl _ _⟩
  · rcases e with e | e
    · exact (hq.row g hg).1 e
    · have := hp.vlt hg; omega
  · rcases hj with hj | hj
    · exact hq.lt j hj
    · exact hj.2
  · rcases e with e | e
    · exact hq.nb e
    · have := hp.lb; omega

theorem At.unbase {E : Env} {A : Ho} {w0 : World} {s s' : S} {w w1 w' : World} (h : At E A w0 s w) (hb : Below w.heap.size w w1) (h' : At E (More A w w1) w1 s' w') : At E A w0 s' w' := by
  obtain ⟨⟨k0, aa0, ac0, v0, l0, m0, h0⟩, hf0⟩ := h
  obtain ⟨⟨k, aa, ac, v, l, m, hp⟩, hf⟩ := h'
  have hlt : ∀ j, A.h j → j < w1.heap.size := fun j hj => Nat.lt_of_lt_of_le (h0.lt j hj) hb.size
  refine ⟨⟨k, aa, ac, v, l, m, ⟨hp.hb, hp.hk, hp.rest, hp.cap, hp.acm, hp.ints, hp.own, hp.ch, hp.sub, fun g hg => ⟨fun e => (hp.row g hg).1 (Or.inl e), (hp.row g hg).2⟩, hp.tks, h0.base, fun j hj => Nat.lt_of_lt_of_le (hlt j hj) hf.size, h0.nb, h0.rh, hp.tl, hp.tcm, hp.tcl, hp.toks⟩⟩, ?_⟩
  exact hf0.trans ((Fr.of_below hb h0.lt).trans (hf.sub fun j hj => Or.inl hj))

theorem At.keeps {E : Env} {A : Ho} {w0 : World} {s : S} {w : World} (h : At E A w0 s w) {j : Nat} {o : Obj} (hj : A.h j) (ho : w0.heap[j]? = some o) : w.heap[j]? = some o := (h.2.block j hj).trans ho

/-- The parser's four cells. -/
theorem four_cells {w : World} {b : Nat} {v0 v1 v2 v3 : Value} {t : TypeId} (h : w.heap[b]? = some (.cells #[v0, v1, v2, v3] t (0, 0))) :
    w.cell? ⟨b, 0, none⟩ = some v0 ∧ w.cell? ⟨b, 1, none⟩ = some v1 ∧ w.cell? ⟨b, 2, none⟩ = some v2 ∧ w.cell? ⟨b, 3, none⟩ = some v3 ∧ w.frozen? ⟨b, 1, none⟩ = false ∧ w.frozen? ⟨b, 2, none⟩ = false ∧ w.frozen? ⟨b, 3, none⟩ = false := by
  refine ⟨?_, ?_, ?_, ?_, Lib.frozen_of_heap h _, Lib.frozen_of_heap h _, Lib.frozen_of_heap h _⟩ <;> (rw [Lib.cell_of_heap h]; rfl)

theorem set4_1 {w : World} {b : Nat} {v0 v1 v2 v3 u : Value} {t : TypeId} (h : w.heap[b]? = some (.cells #[v0, v1, v2, v3] t (0, 0))) : (w.setCell ⟨b, 1, none⟩ u).heap[b]? = some (.cells #[v0, u, v2, v3] t (0, 0)) := by
  simp [World.setCell, Array.getElem?_modify, h]
theorem set4_2 {w : World} {b : Nat} {v0 v1 v2 v3 u : Value} {t : TypeId} (h : w.heap[b]? = some (.cells #[v0, v1, v2, v3] t (0, 0))) : (w.setCell ⟨b, 2, none⟩ u).heap[b]? = some (.cells #[v0, v1, u, v3] t (0, 0)) := by
  simp [World.setCell, Array.getElem?_modify, h]
theorem set4_3 {w : World} {b : Nat} {v0 v1 v2 v3 u : Value} {t : TypeId} (h : w.heap[b]? = some (.cells #[v0, v1, v2, v3] t (0, 0))) : (w.setCell ⟨b, 3, none⟩ u).heap[b]? = some (.cells #[v0, v1, v2, u] t (0, 0)) := by
  simp [World.setCell, Array.getElem?_modify, h]

/-- A method without a result: called at args where the parser stands in a state from which the action leads on, it leaves the parser in the state behind the action. -/
def Does (E : Env) (f : Nat) (args : Array Value) (a : PA) : Prop :=
  ∀ (A : Ho) (w0 w : World) (s s' : S), At E A w0 s w → a s = some s' → Calls Tryz.prog f args w fun e w' => e = .returned (.tuple #[]) ∧ At E A w0 s' w'

/-- Inside a new node: all blocks that stand (but the parser's) are held fast; the row of the node around it is one more. -/
def In (E : Env) (A : Ho) (w : World) : Ho := ⟨fun j => j < w.heap.size ∧ j ≠ E.b, fun j => A.r j ∨ ∃ v, w.cell? ⟨E.b, 3, none⟩ = some v ∧ v.ownBlock = some j⟩

/-- A function value that does so inside a new node, wherever the blocks that stand in w (but the parser's) are as they are there. -/
def Clo (E : Env) (A : Ho) (w : World) (v : Value) (a : PA) : Prop :=
  ∃ f fs cs, v = .func (.func f) fs cs ∧ (∀ xs W, (callFunc f xs).run Tryz.prog W = .ok (.enter f xs) W) ∧ ∀ (w1 : World) (s s' : S), (∀ j, j < w.heap.size → j ≠ E.b → w1.heap[j]? = w.heap[j]?) → At E (In E A w) w1 s w1 → a s = some s' →
    Calls Tryz.prog f (fs ++ cs) w1 fun e w' => e = .returned (.tuple #[]) ∧ At E (In E A w) w1 s' w'

theorem Does.clo {E : Env} {f : Nat} {args : Array Value} {a : PA} (h : Does E f args a) (he : ∀ xs W, (callFunc f xs).run Tryz.prog W = .ok (.enter f xs) W) (A : Ho) (w : World) : Clo E A w (.func (.func f) args #[]) a :=
  ⟨f, args, #[], rfl, he, fun w1 s s' _ h1 h2 => by rw [Array.append_empty]; exact h _ w1 w1 s s' h1 h2⟩
end Go.Proofs.YtcpojagfnpajeaaGreatDoorR.Ps
