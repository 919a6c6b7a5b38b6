/-
  Slices of edits that a call has made itself; strings.Clone.
-/
import Derived.Test.YtdmmoknddkfnmaaShelf
import Derived.Test.YtdmmoknddkfnmaaPure
import Derived.Deep.AppendLies
import Derived.Laws.MakeOwn
namespace Go.Proofs.Ytdmmoknddkfnmaa
open Go.RowKit

theorem info_ed : (Try.prog.info? 35).map (fun i => (i.zero, i.size, i.bytes)) = some (some (.agg #[.int .i64 0, .int .i64 0, .string ⟨#[]⟩]), 3, 32) := by kernel_rfl

def edCells (l : List Ed) : List Value := l.flatMap Ed.cells

theorem edCells_length (l : List Ed) : (edCells l).length = l.length * 3 := by
  induction l with
  | nil => rfl
  | cons x r ih => simp only [edCells, List.flatMap_cons, List.length_append, List.length_cons] at ih ⊢; rw [ih]; simp [Ed.cells]; omega

theorem edCells_append (a b : List Ed) : edCells (a ++ b) = edCells a ++ edCells b := by simp [edCells]

theorem edCells_at {l : List Ed} : ∀ {i : Nat} {x : Ed}, l[i]? = some x → (edCells l)[i * 3]? = some (.int .i64 x.s) ∧ (edCells l)[i * 3 + 1]? = some (.int .i64 x.e) ∧ (edCells l)[i * 3 + 2]? = some (.string x.t) := by
  induction l with
  | nil => intro i x h; simp at h
  | cons y r ih =>
    intro i x h
    cases i with
    | zero => simp at h; subst h; simp [edCells, Ed.cells]
    | succ i =>
      simp at h
      obtain ⟨a, b, c⟩ := ih h
      have e : edCells (y :: r) = [.int .i64 y.s, .int .i64 y.e, .string y.t] ++ edCells r := rfl
      refine ⟨?_, ?_, ?_⟩
      · rw [e, List.getElem?_append_right (by simp; omega)]
        simp only [List.length_cons, List.length_nil]
        rw [show (i + 1) * 3 - (0 + 1 + 1 + 1) = i * 3 from by omega]; exact a
      · rw [e, List.getElem?_append_right (by simp; omega)]
        simp only [List.length_cons, List.length_nil]
        rw [show (i + 1) * 3 + 1 - (0 + 1 + 1 + 1) = i * 3 + 1 from by omega]; exact b
      · rw [e, List.getElem?_append_right (by simp; omega)]
        simp only [List.length_cons, List.length_nil]
        rw [show (i + 1) * 3 + 2 - (0 + 1 + 1 + 1) = i * 3 + 2 from by omega]; exact c

/-- The value v owns the edits l, from block B on. -/
def Owns (w : World) (B : Nat) (v : Value) (l : List Ed) : Prop := w.ownsRow B 35 3 v l.length (edCells l)

theorem owns_below {w w' : World} {B e size n : Nat} {v : Value} {xs : List Value} (h : w.ownsRow B e size v n xs) (hb : Below w.heap.size w w') : w'.ownsRow B e size v n xs :=
  h.kept (row := none) ⟨hb.os, hb.tape, hb.output, hb.size, fun k hk _ => hb.block k hk⟩ (by cases hv : v.ownBlock <;> simp)

theorem Owns.below {w w' : World} {B : Nat} {v : Value} {l : List Ed} (h : Owns w B v l) (hb : Below w.heap.size w w') : Owns w' B v l := owns_below h hb

theorem Owns.eds {w : World} {B : Nat} {v : Value} {l : List Ed} (h : Owns w B v l) (hok : ∀ x, x ∈ l → x.ok) : ∃ a cap, v = .slice a l.length cap ∧ Eds w w.heap.size a l := by
  rcases h.2 with ⟨rfl, h0⟩ | ⟨g, cap, cur, rfl, hb, hg, h1, h2, h3, h4⟩
  · refine ⟨none, 0, by rw [h0], ?_⟩
    have : l = [] := List.eq_nil_of_length_eq_zero h0
    subst this
    intro i x hx
    simp at hx
  · refine ⟨some ⟨g, 0, none⟩, cap, rfl, ?_⟩
    intro i x hx
    obtain ⟨a, b, c⟩ := edCells_at hx
    have hcell : ∀ j u, (edCells l)[j]? = some u → w.cell? ⟨g, 0 + j, none⟩ = some u := by
      intro j u hu
      rw [← h4, List.getElem?_take] at hu
      split at hu
      · rw [Nat.zero_add, cell_of_row w g j cur 35 (0, 0) hg]
        simpa using hu
      · cases hu
    refine ⟨hok x (List.mem_of_getElem? hx), g, 0, rfl, ?_, hcell _ _ a, by have := hcell _ _ b; rwa [← Nat.add_assoc] at this, by have := hcell _ _ c; rwa [← Nat.add_assoc] at this⟩
    rcases Nat.lt_or_ge g w.heap.size with hlt | hge
    · exact hlt
    · rw [Array.getElem?_eq_none hge] at hg; cases hg

theorem clone_any (s : ByteArray) (w : World) (hs : s.size ≤ 281474976710656) :
    Calls Try.prog 25 #[.string s] w fun e w' => e = .returned (.string s) ∧ Below w.heap.size w w' := by
  go_enter Try.func25, Try.ntmps25
  go_wp2_with fail
  refine (Try.stringslite_Clone s w hs).mono ?_
  rintro e w' ⟨rfl, hb⟩
  go_wp2_with fail
  go_ret
  exact ⟨rfl, hb⟩

def invFrom (s : ByteArray) : Int → List Ed → List Ed
  | _, [] => []
  | d, x :: r => ⟨x.s + d, x.s + d + x.t.size, s.extract x.s.toNat x.e.toNat⟩ :: invFrom s (d + (x.t.size - (x.e - x.s))) r

def invL (s : ByteArray) (l : List Ed) : List Ed := invFrom s 0 l

theorem inv_step {s : ByteArray} {acc out : List Ed} {d : Int} {l : List Ed} {k : Nat} {x : Ed} (hx : l[k]? = some x) (h : out = acc ++ invFrom s d (l.drop k)) :
    out = (acc ++ [⟨x.s + d, x.s + d + x.t.size, s.extract x.s.toNat x.e.toNat⟩]) ++ invFrom s (d + (x.t.size - (x.e - x.s))) (l.drop (k + 1)) := by
  rw [h, drop_at hx, invFrom]
  simp
end Go.Proofs.Ytdmmoknddkfnmaa
