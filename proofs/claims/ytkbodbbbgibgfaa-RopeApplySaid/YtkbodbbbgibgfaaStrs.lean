/-
  Slices of strings that a call has made itself.
-/
import Derived.Test.YtkbodbbbgibgfaaEx
import Derived.Deep.AppendLies
import Derived.Laws.MakeOwn
import Derived.Laws.AppendOwn
import Derived.Laws.Concat
namespace Go.Proofs.Ytkbodbbbgibgfaa
open Go.RowKit

theorem info_str : (Try.prog.info? 9).map (fun i => (i.zero, i.size, i.bytes)) = some (some (.string ⟨#[]⟩), 1, 16) := by kernel_rfl

/-- The value v owns the strings l, from block B on. -/
def OwnsS (w : World) (B : Nat) (v : Value) (l : List ByteArray) : Prop := w.ownsRow B 9 1 v l.length (l.map .string)

theorem ownsS_below {w w' : World} {B : Nat} {v : Value} {l : List ByteArray} (h : OwnsS w B v l) (hb : Below w.heap.size w w') : OwnsS w' B v l :=
  World.ownsRow.kept h (row := none) ⟨hb.os, hb.tape, hb.output, hb.size, fun k hk _ => hb.block k hk⟩ (by cases hv : v.ownBlock <;> simp)

theorem OwnsS.strs {w : World} {B : Nat} {v : Value} {l : List ByteArray} (h : OwnsS w B v l) : ∃ a cap, v = .slice a l.length cap ∧ l.length ≤ cap ∧ Strs w w.heap.size a l := by
  rcases h.2 with ⟨rfl, h0⟩ | ⟨g, cap, cur, rfl, hb, hg, h1, h2, h3, h4⟩
  · refine ⟨none, 0, by rw [h0], by omega, ?_⟩
    have : l = [] := List.eq_nil_of_length_eq_zero h0
    subst this
    intro i x hx
    simp at hx
  · refine ⟨some ⟨g, 0, none⟩, cap, rfl, h1, ?_⟩
    intro i x hx
    have hm : (l.map Value.string)[i]? = some (.string x) := by simp [hx]
    refine ⟨g, 0, rfl, ?_, ?_⟩
    · rcases Nat.lt_or_ge g w.heap.size with hlt | hge
      · exact hlt
      · rw [Array.getElem?_eq_none hge] at hg; cases hg
    · rw [← h4, List.getElem?_take] at hm
      split at hm
      · rw [Nat.zero_add, cell_of_row w g i cur 9 (0, 0) hg]
        simpa using hm
      · cases hm

def cuts (l : List ByteArray) (m : Nat) : List ByteArray := (l.take m).map (cut 100)

theorem cuts_step {l : List ByteArray} {k : Nat} {x : ByteArray} (h : l[k]? = some x) : cuts l (k + 1) = cuts l k ++ [cut 100 x] := by
  unfold cuts
  rw [List.take_add_one, h]; simp

theorem cuts_length {l : List ByteArray} {k : Nat} (h : k ≤ l.length) : (cuts l k).length = k := by
  unfold cuts
  rw [List.length_map, List.length_take]; omega

theorem cat_len {l : List ByteArray} {n : Nat} (h : ∀ x ∈ l, x.size ≤ n) : (cat l).length ≤ n * l.length := by
  induction l with
  | nil => simp [cat]
  | cons x r ih =>
    have h1 := h x (by simp)
    have h2 := ih (fun y hy => h y (by simp [hy]))
    have e : x.data.toList.length = x.size := by simp
    simp only [cat, List.flatMap_cons, List.length_append, List.length_cons] at *
    rw [e, Nat.mul_add]
    omega

theorem cuts_len (l : List ByteArray) {k : Nat} (hk : k ≤ l.length) (h20 : k ≤ 20) : (cat (cuts l k)).length ≤ 2000 := by
  have := cat_len (l := cuts l k) (n := 100) (fun x hx => by
    unfold cuts at hx
    obtain ⟨y, _, rfl⟩ := List.mem_map.1 hx
    exact cut_size _ _)
  rw [cuts_length hk] at this
  omega

theorem cat_cuts_step {l : List ByteArray} {k : Nat} {x : ByteArray} (h : l[k]? = some x) : cat (cuts l (k + 1)) = cat (cuts l k) ++ (cut 100 x).data.toList := by
  rw [cuts_step h, cat_append]; simp [cat]

theorem append_mk (acc : List UInt8) (s : ByteArray) : (⟨acc.toArray⟩ : ByteArray) ++ s = ⟨(acc ++ s.data.toList).toArray⟩ := by
  cases s with
  | mk d =>
    have e : (⟨d⟩ : ByteArray) = ⟨d.toList.toArray⟩ := by simp
    rw [e, ByteArray.mk_append_mk]

theorem size_mk (acc : List UInt8) : (⟨acc.toArray⟩ : ByteArray).size = acc.length := by simp [ByteArray.size]
end Go.Proofs.Ytkbodbbbgibgfaa
