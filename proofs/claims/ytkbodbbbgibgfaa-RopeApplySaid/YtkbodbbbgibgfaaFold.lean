/-
  Plain mathematics: the edits applied from the last to the first give what Apply gives; and ropes' functions on nodes, by contents.
-/
import Derived.Test.YtkbodbbbgibgfaaBack
import Derived.Test.YtkbodbbbgibgfaaHeld
namespace Go.Proofs.Ytkbodbbbgibgfaa
open Go.RowKit

/-- The edits from k on have been applied. -/
def Step (src : List UInt8) (l : List Ed) (k : Nat) (c : List UInt8) : Prop := ∀ q, 0 ≤ q → Ord src.length q (l.drop k) → c = src.take q.toNat ++ applyFrom src q (l.drop k)

theorem ord_dsum {n : Int} {l : List Ed} : ∀ {p : Int}, Ord n p l → 0 ≤ dsum l := by
  induction l with
  | nil => intro p _; simp [dsum]
  | cons x r ih => intro p h; have := ih h.2.2; have := h.2.1; simp only [dsum]; omega

theorem tsum_drop_le (l : List Ed) (k : Nat) : tsum (l.drop k) ≤ tsum l := by
  have h := tsum_append (l.take k) (l.drop k)
  rw [List.take_append_drop] at h
  omega

theorem step_start (src : List UInt8) (l : List Ed) : Step src l l.length src := by
  intro q _ _
  rw [List.drop_eq_nil_of_le (Nat.le_refl _), applyFrom, List.take_append_drop]

theorem step_end {src : List UInt8} {l : List Ed} {c : List UInt8} (hO : Ord src.length 0 l) (h : Step src l 0 c) : c = applyL src l := by
  have := h 0 (Int.le_refl _) (by simpa using hO)
  simpa [applyL] using this

structure Next (src : List UInt8) (l : List Ed) (k : Nat) (c : List UInt8) (x : Ed) : Prop where
  s0 : 0 ≤ x.s
  se : x.s ≤ x.e
  ec : x.e ≤ c.length
  cl : c.length ≤ 1000000
  tl : x.t.size ≤ 1000000
  step : Step src l k ((c.take x.e.toNat).take x.s.toNat ++ x.t.data.toList ++ c.drop x.e.toNat)

theorem step_next {src : List UInt8} {l : List Ed} {k : Nat} {c : List UInt8} {x : Ed} (hO : Ord src.length 0 l) (ht : tsum l ≤ 200000) (hn : src.length ≤ 2000) (hx : l[k]? = some x) (h : Step src l (k + 1) c) : Next src l k c x := by
  obtain ⟨h0, h1, h2, h3⟩ := hO.drop hx
  have hc := h x.e (by omega) h3
  have hd := ord_dsum h3
  have hl := apply_len (src := src) (by omega) h3
  have hts := tsum_drop_le l (k + 1)
  have htx := tsum_take hx
  have htk := tsum_take_le l (k + 1)
  have e1 : (src.take x.e.toNat).length = x.e.toNat := by rw [List.length_take]; omega
  have e2 : c.take x.e.toNat = src.take x.e.toNat := by rw [hc, List.take_left' e1]
  have e3 : c.drop x.e.toNat = applyFrom src x.e (l.drop (k + 1)) := by rw [hc, List.drop_left' e1]
  refine ⟨h0, h1, ?_, ?_, by omega, ?_⟩
  · rw [hc, List.length_append, e1]; omega
  · rw [hc, List.length_append, e1]; omega
  · intro q hq hOq
    rw [e2, e3, drop_at hx]
    rw [drop_at hx] at hOq
    have hqs : q ≤ x.s := hOq.1
    have e4 : (src.take x.e.toNat).take x.s.toNat = src.take x.s.toNat := by rw [List.take_take, Nat.min_eq_left (by omega)]
    have e5 : src.take x.s.toNat = src.take q.toNat ++ (src.drop q.toNat).take (x.s.toNat - q.toNat) := by
      rw [← List.take_add, Nat.add_sub_cancel' (by omega)]
    rw [e4, e5, applyFrom]
    simp [List.append_assoc]

theorem fits_tsum {n : Int} {l : List Ed} (h : errV n l = 0) (hn : 0 ≤ n) : tsum l ≤ 200000 := by
  obtain ⟨h1, h2, h3, h4⟩ := errV_zero h
  have hi := (sep_inside (p := -1) (by omega) h3).dsum_le h1 (by omega) l.length
  rw [List.take_length] at hi
  unfold fitsB at h4
  have h5 := of_decide_eq_true h4
  omega

/-- node.split, join and build by the contents. -/
def HandsNodes (c d : List UInt8) (w : World) (e : Ending) (w' : World) : Prop := ∃ p q, e = .returned (.tuple #[.pointer p, .pointer q]) ∧ Hid (IsRope w' p c) ∧ Hid (IsRope w' q d) ∧ Below w.heap.size w w'

def HandsNode (c : List UInt8) (w : World) (e : Ending) (w' : World) : Prop := ∃ p, e = .returned (.pointer p) ∧ Hid (IsRope w' p c) ∧ Below w.heap.size w w'

theorem nsplit (p : Option Addr) (c : List UInt8) (i : Int) (w : World) (R : Hid (IsRope w p c)) (h0 : 0 ≤ i) (h1 : i ≤ c.length) (hn : c.length ≤ 1099511627776) :
    Calls Try.prog 24 #[.pointer p, .int .i64 i] w (HandsNodes (c.take i.toNat) (c.drop i.toNat) w) := by
  obtain ⟨t, r, v, rfl⟩ := R.out
  refine (split_any t p i w (Lib.hid r) v h0 h1 hn).mono ?_
  rintro e w' ⟨p1, q1, a, b, rfl, R1, R2, e1, e2, v1, v2, hb⟩
  exact ⟨p1, q1, rfl, ⟨a, R1.out, v1, e1⟩, ⟨b, R2.out, v2, e2⟩, hb⟩

theorem njoin (p q : Option Addr) (c d : List UInt8) (w : World) (R1 : Hid (IsRope w p c)) (R2 : Hid (IsRope w q d)) (hn : c.length + d.length ≤ 1099511627776) :
    Calls Try.prog 26 #[.pointer p, .pointer q] w (HandsNode (c ++ d) w) := by
  obtain ⟨t1, r1, v1, rfl⟩ := R1.out
  obtain ⟨t2, r2, v2, rfl⟩ := R2.out
  refine (join_any t1 t2 p q w (Lib.hid r1) (Lib.hid r2) v1 v2 hn).mono ?_
  rintro e w' ⟨p1, t, rfl, R, e1, v, hb⟩
  exact ⟨p1, rfl, ⟨t, R.out, v, e1⟩, hb⟩

theorem nbuild (s : ByteArray) (w : World) (h : s.size ≤ 1099511627776) : Calls Try.prog 27 #[.string s] w (HandsNode s.data.toList w) := by
  refine (build_opt s w h).mono ?_
  rintro e w' ⟨p1, t, rfl, R, e1, v, hb⟩
  exact ⟨p1, rfl, ⟨t, R.out, v, e1⟩, hb⟩
end Go.Proofs.Ytkbodbbbgibgfaa
