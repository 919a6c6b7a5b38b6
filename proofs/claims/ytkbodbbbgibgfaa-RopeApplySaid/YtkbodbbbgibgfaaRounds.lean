/-
  A range over a function whose iterator hands over the values of a list that is known: each round is shown for the value that comes there, and for no other.
-/
import Derived.RangeFuncNested
import Derived.RangeFuncBound
import Derived.RangeFuncCalls
import Derived.RangeFuncLeaves
import Derived.Shelf.Abstract
import Derived.Test.YtkbodbbbgibgfaaProg
namespace Go.Proofs.Ytkbodbbbgibgfaa
open Go.RowKit Go.Shelf

/-- The iterator's function gf hands over just the values xs, in their order, where each round keeps what Kp says. -/
def HandsOver {α : Type} (F : Fence) (n : Nat) (P : Program) (gf : Nat) (lb : Array Value) (encs : α → Array Value) (Kp : World → World → Prop) (xs : List α) (w : World) : Prop :=
  ∀ (l : Nat) (J : List α → World → Prop) (W : World), Below w.heap.size w W → AbidesFrom W.heap.size J →
    (∀ pre x rest W1, xs = pre ++ x :: rest → J pre W1 → YieldAt F (n - 1) P l (encs x) W1 fun e W' => e = .returned (.bool true) ∧ J (pre ++ [x]) W' ∧ Kp W1 W') →
    J [] W → CallsIn F n P gf (#[.func (.yield l) #[] #[]] ++ lb) W fun e W' => (∃ v, e = .returned v) ∧ J xs W'

/-- A round goes on. -/
def GoesOn {α : Type} (B : Nat) (Kp : World → World → Prop) (I : List α → World → Prop) (pre : List α) (W : World) : Exit → Act → World → Prop
  | .normal, _, W' => KeepsFrom B W W' ∧ Kp W W' ∧ I pre W'
  | _, _, _ => False

theorem range_over {F : Fence} {n : Nat} {P : Program} {α : Type} {g : Operand} {ps : Array Tmp} {assign body : Code} {Q : Exit → Act → World → Prop} {a : Act} {w w0 : World} {Kp : World → World → Prop} {xs : List α} {encs : α → Array Value} {gf : Nat} {lb : Array Value}
    (hro : F.round = none) (h1 : 1 ≤ n) (hg : a.eval g = .func (.func gf) #[] lb) (hF : F.fn gf) (eg : ∀ args w, (callFunc gf args).run P w = .ok (.enter gf args) w)
    (hseq : HandsOver F (n - 1) P gf lb encs Kp xs w0) (hKt : ∀ {A B C : World}, Kp A B → Kp B C → Kp A C) (hKb : ∀ (W : World) (l : Nat) (o : Obj), w.heap.size ≤ l → l < W.heap.size → Kp W (W.putObj l o)) (hb0 : Below w0.heap.size w0 w) (hps : ∀ x, (encs x).size = ps.size)
    (I : List α → World → Prop) (hI : OwnFrom w.heap.size I) (h0 : I [] w) (Ax : α → Act → World → Prop) (hAx : ∀ x a', OwnFrom w.heap.size (fun (_ : Unit) W => Ax x a' W))
    (hassign : ∀ (l : Nat) (pre : List α) (x : α) (rest : List α) (W : World) (K : Act → World → Prop), xs = pre ++ x :: rest → I pre W →
      (∀ a' W', KeepsFrom w.heap.size W W' → Kp W W' → I pre W' → Ax x a' W' → K a' W') →
      assign.wpIn (F.inRound l) (n - 1 - 1) P (Exit.then K (fun _ _ _ => False)) { tmps := (ps.zip (encs x)).foldl (fun t (p, v) => t.setIfInBounds p v) a.tmps, defers := [] } W)
    (hbody : ∀ (l : Nat) (pre : List α) (x : α) (rest : List α) (a' : Act) (W : World), xs = pre ++ x :: rest → I pre W → Ax x a' W → body.wpIn (F.inRound l) (n - 1 - 1) P (GoesOn w.heap.size Kp I (pre ++ [x]) W) a' W)
    (hdone : ∀ (D : Nat) (W : World), w.heap.size ≤ D → I xs W → W.heap[D]? = some (.deferred (some [])) → Q .normal { a with defers := { target := .collected D, args := #[] } :: a.defers } W) :
    (Code.rangeFunc g ps assign body).wpIn F n P Q a w := by
  refine wpIn_rangeFunc fun fn hfn => ?_
  obtain ⟨rec, hrec⟩ : ∃ rec : LoopState → Loop, rec = fun st => { state := st, pending := none, fn, tmps := a.tmps, params := ps, assign, body, defers := w.heap.size } := ⟨_, rfl⟩
  -- what the rounds hold: I; the loop's record; the block for deferred calls
  obtain ⟨Ho, hHo⟩ : ∃ Ho : LoopState → World → Prop, Ho = fun st W => W.heap[w.heap.size + 1]? = some (.loop (rec st)) ∧ W.heap[w.heap.size]? = some (.deferred (some [])) := ⟨_, rfl⟩
  have turn : ∀ {st st' : LoopState} {W : World}, Ho st W → Ho st' (W.putObj (w.heap.size + 1) (.loop (rec st'))) := by
    intro st st' W h
    rw [hHo] at h ⊢
    exact ⟨World.putObj_heap_same (Array.getElem?_eq_some_iff.1 h.1).1, (World.putObj_heap_other (by omega)).trans h.2⟩
  have keeps : ∀ {st : LoopState} {W W' : World}, Ho st W → KeepsFrom w.heap.size W W' → Ho st W' := by
    intro st W W' h k
    rw [hHo] at h ⊢
    exact ⟨k.same _ _ (by omega) h.1 rfl, k.same _ _ (Nat.le_refl _) h.2 rfl⟩
  have low : ∀ {st : LoopState} {W : World} (o : Obj), Ho st W → Kp W (W.putObj (w.heap.size + 1) o) := by
    intro st W o h
    rw [hHo] at h
    exact hKb W _ o (by omega) (Array.getElem?_eq_some_iff.1 h.1).1
  have own : ∀ {st : LoopState} {pre : List α} {W : World} (o : Obj), Ho st W → I pre W → I pre (W.putObj (w.heap.size + 1) o) := by
    intro st pre W o h hi
    rw [hHo] at h
    exact hI.putObj o hi (by omega) h.1 rfl
  obtain ⟨W1, hW1⟩ : ∃ W1, (w.alloc (.deferred (some []))).alloc (.loop (rec .ready)) = W1 := ⟨_, rfl⟩
  have hH1 : Ho .ready W1 := by
    rw [hHo, ← hW1]
    refine ⟨?_, ?_⟩
    · have := World.alloc_heap_new (w.alloc (.deferred (some []))) (.loop (rec .ready))
      rwa [World.size_alloc] at this
    · exact (Below.heap_alloc _ _ _ (by simp)).trans (World.alloc_heap_new w _)
  have hI1 : I [] W1 := by rw [← hW1]; exact hI.alloc _ (hI.alloc _ h0)
  have hb1 : Below w0.heap.size w0 W1 := by
    rw [← hW1]
    exact hb0.trans ((((Below.refl _ w).alloc (Nat.le_refl _) _).alloc (by simp) _).mono hb0.size)
  have hz1 : w.heap.size ≤ W1.heap.size := by rw [← hW1]; simp; omega
  refine ⟨w.heap.size + 1, [{ target := .collected w.heap.size, args := #[] }], W1, { target := .fn (.func gf) lb, args := #[.func (.yield (w.heap.size + 1)) #[] #[]] }, W1, gf, #[.func (.yield (w.heap.size + 1)) #[] #[]] ++ lb, W1, ?_, ?_, ?_, ?_, fun _ => h1, ?_⟩
  · rw [hro, ← hW1, hrec]
    exact run_enterLoop_outer _ _ _ _ _
  · simp only [resolve, hg]
    simp [go_sem]
  · intro f' hf'
    simp [Target.leads] at hf'
    subst hf'
    exact hF
  · simp [invoke, go_sem, eg]
  refine (hseq (w.heap.size + 1) (fun pre W => I pre W ∧ Ho .ready W) W1 hb1 ?_ ?_ ⟨hI1, hH1⟩).mono ?_
  · -- the iterator's own steps
    intro pre X Y row hs hgr hr
    have hr' : ∀ r, row = some r → w.heap.size ≤ r ∧ ∃ o : Obj, X.heap[r]? = some o ∧ o.isCells = false := fun r e => by
      obtain ⟨h2, o, h3, h4⟩ := hr r e
      exact ⟨Nat.le_trans hz1 h2, o, h3, Obj.not_cells_of_walk h4⟩
    refine ⟨hI pre X Y row hs.1 hgr hr', ?_⟩
    have hh := hs.2
    rw [hHo] at hh ⊢
    exact ⟨(grownBy_keeps hgr (fun r e => (hr r e).2) hh.1 rfl).trans hh.1, (grownBy_keeps hgr (fun r e => (hr r e).2) hh.2 rfl).trans hh.2⟩
  · -- one round
    rintro pre x rest W hx ⟨hi, hh⟩
    have hl : W.heap[w.heap.size + 1]? = some (.loop (rec .ready)) := by rw [hHo] at hh; exact hh.1
    have hy := run_yield (P := P) (args := encs x) hl (by rw [hrec]; exact hps x)
    rw [hrec] at hy
    refine ⟨fn, _, assign, body, hy, roundIn_of_wpIn hfn (hassign _ pre x rest W _ hx hi ?_)⟩
    intro a' W2 k2 b2 i2 x2
    have hh2 := keeps hh k2
    have hl2 : W2.heap[w.heap.size + 1]? = some (.loop (rec .ready)) := by rw [hHo] at hh2; exact hh2.1
    refine ⟨_, run_beginRound hl2 (by rw [hrec]), ?_⟩
    have e2 : ({ rec .ready with state := .busy } : Loop) = rec .busy := by rw [hrec]
    rw [e2]
    refine wpIn_mono (hbody _ pre x rest a' _ hx (own _ hh2 i2) ((hAx x a').putObj (s := ()) _ x2 (by omega) hl2 rfl)) ?_
    rintro e a3 W3 hp
    cases e with
    | normal =>
      obtain ⟨k3, b3, i3⟩ := hp
      have hh3 := keeps (turn (st' := .busy) hh2) k3
      have hl3 : W3.heap[w.heap.size + 1]? = some (.loop (rec .busy)) := by rw [hHo] at hh3; exact hh3.1
      refine ⟨_, _, run_endRound none hl3, rfl, ?_, hKt b2 (hKt (low _ hh2) (hKt b3 (low _ hh3)))⟩
      have e3 : ({ rec .busy with state := if (none : Option Code).isNone = true then LoopState.ready else LoopState.done, pending := none } : Loop) = rec .ready := by rw [hrec]; rfl
      rw [e3]
      exact ⟨own _ hh3 i3, turn hh3⟩
    | ret => exact hp.elim
    | exit id => exact hp.elim
    | goto t => exact hp.elim
    | panic ch => exact hp.elim
    | outgrown => exact hp.elim
  · -- behind the iterator
    rintro e W2 ⟨⟨v, rfl⟩, hi, hh⟩
    have hl : W2.heap[w.heap.size + 1]? = some (.loop (rec .ready)) := by rw [hHo] at hh; exact hh.1
    have hd : W2.heap[w.heap.size]? = some (.deferred (some [])) := by rw [hHo] at hh; exact hh.2
    refine ⟨none, _, by have := run_endLoop (P := P) hl (by rw [hrec]; simp); rw [hrec] at this; exact this, ?_⟩
    exact hdone _ _ (Nat.le_refl _) (own _ hh hi) ((World.putObj_heap_other (by omega)).trans hd)
end Go.Proofs.Ytkbodbbbgibgfaa
