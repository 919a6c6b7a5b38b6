/-
  Ropes as plain trees: contents, height, leaves; the height condition; what joining and rotating keep.
-/
import Derived.Test.YtkbodbbbgibgfaaProg
import Derived.WalkKit
import Derived.KernelRfl
import Derived.Lib.Hide
namespace Go.Proofs.Ytkbodbbbgibgfaa
open Go.RowKit

inductive Tr where
  | leaf (s : ByteArray)
  | node (l r : Tr)

namespace Tr
def con : Tr → List UInt8
  | leaf s => s.data.toList
  | node l r => l.con ++ r.con

def ht : Tr → Nat
  | leaf _ => 0
  | node l r => max l.ht r.ht + 1

def lvs : Tr → Nat
  | leaf _ => 1
  | node l r => l.lvs + r.lvs

def siz : Tr → Nat
  | leaf _ => 1
  | node l r => l.siz + r.siz + 1

/-- Leaves are not empty, the heights of siblings differ by one at most. -/
def avl : Tr → Prop
  | leaf s => 0 < s.size
  | node l r => l.avl ∧ r.avl ∧ l.ht ≤ r.ht + 1 ∧ r.ht ≤ l.ht + 1

def len (t : Tr) : Nat := t.con.length

theorem len_node (l r : Tr) : (node l r).len = l.len + r.len := by simp [len, con]
theorem len_leaf (s : ByteArray) : (leaf s).len = s.size := rfl

theorem lvs_pos : ∀ t : Tr, 0 < t.lvs
  | leaf _ => Nat.one_pos
  | node l r => by have := lvs_pos l; simp only [lvs]; omega

theorem ht_lt : ∀ t : Tr, t.ht < t.lvs
  | leaf _ => Nat.one_pos
  | node l r => by
    have := ht_lt l; have := ht_lt r
    simp only [lvs, ht]; omega

theorem lvs_le : ∀ {t : Tr}, t.avl → t.lvs ≤ t.len
  | leaf s, h => h
  | node l r, h => by
    have := lvs_le h.1; have := lvs_le h.2.1
    simp only [lvs, len_node]; omega

theorem len_pos {t : Tr} (h : t.avl) : 0 < t.len := Nat.lt_of_lt_of_le (lvs_pos t) (lvs_le h)

/-- A rotation, or none. -/
structure Bal (l r t : Tr) : Prop where
  con : t.con = l.con ++ r.con
  avl : t.avl
  lo : max l.ht r.ht ≤ t.ht
  hi : t.ht ≤ max l.ht r.ht + 1
  even : l.ht ≤ r.ht + 1 → r.ht ≤ l.ht + 1 → t.ht = max l.ht r.ht + 1

structure Joined (l r t : Tr) : Prop where
  con : t.con = l.con ++ r.con
  avl : t.avl
  lo : max l.ht r.ht ≤ t.ht
  hi : t.ht ≤ max l.ht r.ht + 1

theorem Bal.joined {l r t : Tr} (h : Bal l r t) : Joined l r t := ⟨h.con, h.avl, h.lo, h.hi⟩

theorem bal_plain {l r : Tr} (hl : l.avl) (hr : r.avl) (h1 : l.ht ≤ r.ht + 1) (h2 : r.ht ≤ l.ht + 1) : Bal l r (node l r) :=
  ⟨rfl, ⟨hl, hr, h1, h2⟩, by simp only [ht]; omega, by simp only [ht]; omega, fun _ _ => rfl⟩

theorem bal_left2 {o a b r : Tr} (hl : (node o (node a b)).avl) (hr : r.avl) (h1 : r.ht + 1 < (node o (node a b)).ht) (h2 : (node o (node a b)).ht ≤ r.ht + 2) (h3 : o.ht < (node a b).ht) :
    Bal (node o (node a b)) r (node (node o a) (node b r)) := by
  obtain ⟨ho, ⟨ha, hb, q1, q2⟩, q3, q4⟩ := hl
  simp only [ht] at *
  refine ⟨by simp [Tr.con], ⟨⟨ho, ha, ?_, ?_⟩, ⟨hb, hr, ?_, ?_⟩, ?_, ?_⟩, ?_, ?_, fun e1 e2 => by simp only [ht] at e1 e2; omega⟩ <;> (try simp only [ht]) <;> omega

theorem bal_left1 {o m r : Tr} (hl : (node o m).avl) (hr : r.avl) (h1 : r.ht + 1 < (node o m).ht) (h2 : (node o m).ht ≤ r.ht + 2) (h3 : ¬ o.ht < m.ht) :
    Bal (node o m) r (node o (node m r)) := by
  obtain ⟨ho, hm, q3, q4⟩ := hl
  simp only [ht] at *
  refine ⟨by simp [Tr.con], ⟨ho, ⟨hm, hr, ?_, ?_⟩, ?_, ?_⟩, ?_, ?_, fun e1 e2 => by simp only [ht] at e1 e2; omega⟩ <;> (try simp only [ht]) <;> omega

theorem bal_right2 {o a b l : Tr} (hr : (node (node a b) o).avl) (hl : l.avl) (h1 : l.ht + 1 < (node (node a b) o).ht) (h2 : (node (node a b) o).ht ≤ l.ht + 2) (h3 : o.ht < (node a b).ht) :
    Bal l (node (node a b) o) (node (node l a) (node b o)) := by
  obtain ⟨⟨ha, hb, q1, q2⟩, ho, q3, q4⟩ := hr
  simp only [ht] at *
  refine ⟨by simp [Tr.con], ⟨⟨hl, ha, ?_, ?_⟩, ⟨hb, ho, ?_, ?_⟩, ?_, ?_⟩, ?_, ?_, fun e1 e2 => by simp only [ht] at e1 e2; omega⟩ <;> (try simp only [ht]) <;> omega

theorem bal_right1 {o m l : Tr} (hr : (node m o).avl) (hl : l.avl) (h1 : l.ht + 1 < (node m o).ht) (h2 : (node m o).ht ≤ l.ht + 2) (h3 : ¬ o.ht < m.ht) :
    Bal l (node m o) (node (node l m) o) := by
  obtain ⟨hm, ho, q3, q4⟩ := hr
  simp only [ht] at *
  refine ⟨by simp [Tr.con], ⟨⟨hl, hm, ?_, ?_⟩, ho, ?_, ?_⟩, ?_, ?_, fun e1 e2 => by simp only [ht] at e1 e2; omega⟩ <;> (try simp only [ht]) <;> omega

theorem join_left {a b r t u : Tr} (hl : (node a b).avl) (hr : r.ht + 1 < (node a b).ht ∨ r.ht = 0) (hj : Joined b r t) (hb : Bal a t u) : Joined (node a b) r u := by
  obtain ⟨ha, hb', q3, q4⟩ := hl
  obtain ⟨c1, v1, l1, u1⟩ := hj
  obtain ⟨c2, v2, l2, u2, e2⟩ := hb
  simp only [ht] at *
  refine ⟨by rw [c2, c1]; simp [Tr.con], v2, ?_, ?_⟩ <;> simp only [ht] <;> by_cases h1 : a.ht ≤ t.ht + 1 <;> by_cases h2 : t.ht ≤ a.ht + 1 <;> (try have := e2 h1 h2) <;> omega

theorem join_left_diff {a b r t : Tr} (hl : (node a b).avl) (hr : r.ht + 1 < (node a b).ht ∨ r.ht = 0) (hj : Joined b r t) : a.ht ≤ t.ht + 2 ∧ t.ht ≤ a.ht + 2 := by
  obtain ⟨ha, hb', q3, q4⟩ := hl
  obtain ⟨c1, v1, l1, u1⟩ := hj
  simp only [ht] at *
  omega

theorem join_right {a b l t u : Tr} (hr : (node a b).avl) (hl : l.ht + 1 < (node a b).ht ∨ l.ht = 0) (hj : Joined l a t) (hb : Bal t b u) : Joined l (node a b) u := by
  obtain ⟨ha, hb', q3, q4⟩ := hr
  obtain ⟨c1, v1, l1, u1⟩ := hj
  obtain ⟨c2, v2, l2, u2, e2⟩ := hb
  simp only [ht] at *
  refine ⟨by rw [c2, c1]; simp [Tr.con], v2, ?_, ?_⟩ <;> simp only [ht] <;> by_cases h1 : b.ht ≤ t.ht + 1 <;> by_cases h2 : t.ht ≤ b.ht + 1 <;> (try have := e2 h2 h1) <;> omega

theorem join_right_diff {a b l t : Tr} (hr : (node a b).avl) (hl : l.ht + 1 < (node a b).ht ∨ l.ht = 0) (hj : Joined l a t) : t.ht ≤ b.ht + 2 ∧ b.ht ≤ t.ht + 2 := by
  obtain ⟨ha, hb', q3, q4⟩ := hr
  obtain ⟨c1, v1, l1, u1⟩ := hj
  simp only [ht] at *
  omega

theorem join_leaf {s t : ByteArray} (h1 : 0 < s.size) (h2 : 0 < t.size) : Joined (leaf s) (leaf t) (leaf (s ++ t)) :=
  ⟨by simp [Tr.con], by simp only [Tr.avl, ByteArray.size_append]; omega, by simp [ht], by simp [ht]⟩

theorem Joined.len {l r t : Tr} (h : Joined l r t) : t.len = l.len + r.len := by simp [Tr.len, h.con]
theorem Bal.len {l r t : Tr} (h : Bal l r t) : t.len = l.len + r.len := by simp [Tr.len, h.con]

end Tr

/-- Fibonacci numbers from 1, 1 on. -/
def fibs : Nat → Nat × Nat
  | 0 => (1, 1)
  | n + 1 => ((fibs n).2, (fibs n).1 + (fibs n).2)

theorem fibs_le (n : Nat) : (fibs n).1 ≤ (fibs n).2 := by
  induction n with
  | zero => exact Nat.le_refl _
  | succ n ih => simp only [fibs]; omega

theorem fibs_mono {n m : Nat} (h : n ≤ m) : (fibs n).2 ≤ (fibs m).2 := by
  induction h with
  | refl => exact Nat.le_refl _
  | step _ ih => simp only [fibs]; omega

theorem Tr.fib_le : ∀ {t : Tr}, t.avl → (fibs t.ht).2 ≤ t.lvs
  | leaf s, _ => Nat.le_refl _
  | node l r, h => by
    have a := fib_le h.1
    have b := fib_le h.2.1
    have q3 := h.2.2.1
    have q4 := h.2.2.2
    simp only [Tr.ht, Tr.lvs]
    have key : ∀ {x y : Tr}, (fibs x.ht).2 ≤ x.lvs → (fibs y.ht).2 ≤ y.lvs → x.ht ≤ y.ht → y.ht ≤ x.ht + 1 → (fibs (y.ht + 1)).2 ≤ x.lvs + y.lvs := by
      intro x y a b h1 h2
      simp only [fibs]
      rcases Nat.lt_or_eq_of_le h1 with h | h
      · have e : y.ht = x.ht + 1 := by omega
        have : (fibs y.ht).1 = (fibs x.ht).2 := by rw [e]; rfl
        omega
      · have := fibs_le y.ht
        rw [h] at a
        omega
    rcases Nat.le_total l.ht r.ht with h | h
    · rw [Nat.max_eq_right h]; exact key a b h q4
    · rw [Nat.max_eq_left h, Nat.add_comm l.lvs]; exact key b a h q3

end Go.Proofs.Ytkbodbbbgibgfaa
