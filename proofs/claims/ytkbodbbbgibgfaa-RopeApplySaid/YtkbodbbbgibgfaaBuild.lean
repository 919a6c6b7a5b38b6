/-
  leaf, strings.Clone, build by their contracts: a tree of a string; siblings' lengths differ by one at most, therefore their heights.
-/
import Derived.Test.YtkbodbbbgibgfaaBal
import Derived.Test.YtkbodbbbgibgfaaShelf
import Derived.Lib.IndexBytes
namespace Go.Proofs.Ytkbodbbbgibgfaa
open Go.RowKit
attribute [local go_sem ↓] Go.wp_at_zero Go.wp_at_succ

theorem clone_any (s : ByteArray) (w : World) (hs : s.size ≤ 281474976710656) :
    Calls Try.prog 40 #[.string s] w fun e w' => e = .returned (.string s) ∧ Below w.heap.size w w' := by
  go_enter Try.func40, Try.ntmps40
  go_wp2_with fail
  refine (Try.stringslite_Clone s w hs).mono ?_
  rintro e w' ⟨rfl, hb⟩
  go_wp2_with fail
  go_ret
  exact ⟨rfl, hb⟩

/-- Two stand-ins for what a string of no bytes is to the walk. -/
theorem nonempty_of {s : ByteArray} (h : 0 < s.size) : s.toList.isEmpty = false := by
  rw [ByteArray.toList_eq]
  have hz : s.data.toList.length = s.size := by simp
  cases hl : s.data.toList with
  | nil => rw [hl] at hz; simp only [List.length_nil] at hz; omega
  | cons a r => rfl

theorem empty_of {s : ByteArray} (h : s.size = 0) : s = ⟨#[]⟩ := by
  have : s.data = #[] := Array.eq_empty_of_size_eq_zero h
  cases s; simp_all

theorem leaf_some (s : ByteArray) (w : World) (hs : 0 < s.size) :
    Calls Try.prog 36 #[.string s] w fun e w' => ∃ p, e = .returned (.pointer p) ∧ Hid (Rep w' w'.heap.size p (.leaf s)) ∧ Below w.heap.size w w' := by
  have h0 := nonempty_of hs
  go_enter Try.func36, Try.ntmps36
  go_wp2_with fail
  go_ret
  exact ⟨_, rfl, ⟨w.heap.size, rfl, by simp, nodeAt_new w s none none s.size 0 1⟩, (Below.refl _ _).alloc (Nat.le_refl _) _⟩

theorem leaf_none (w : World) :
    Calls Try.prog 36 #[.string ⟨#[]⟩] w fun e w' => e = .returned (.pointer none) ∧ w = w' := by
  go_enter Try.func36, Try.ntmps36
  go_wp2_with fail
  go_ret
  exact ⟨rfl, rfl⟩

/-- The height of a built tree. -/
def hb (n : Nat) : Nat := if n ≤ 32 then 0 else hb (n - n / 2) + 1
termination_by n
decreasing_by omega

theorem hb_mono : ∀ (n m : Nat), m ≤ n → hb m ≤ hb n := by
  intro n
  induction n using Nat.strongRecOn with
  | _ n ih =>
    intro m hm
    rw [hb, hb.eq_def n]
    split
    · omega
    · rw [if_neg (by omega)]
      have := ih (n - n / 2) (by omega) (m - m / 2) (by omega)
      omega

theorem hb_succ (n : Nat) : hb (n + 1) ≤ hb n + 1 := by
  induction n using Nat.strongRecOn with
  | _ n ih =>
    rw [hb.eq_def (n + 1)]
    split
    · omega
    · by_cases h : n ≤ 32
      · have : hb (n + 1 - (n + 1) / 2) = 0 := by rw [hb, if_pos (by omega)]
        omega
      · rw [hb.eq_def n, if_neg h]
        have h1 := ih (n - n / 2) (by omega)
        have h2 := hb_mono (n - n / 2 + 1) (n + 1 - (n + 1) / 2) (by omega)
        omega

structure Built (s : ByteArray) (t : Tr) : Prop where
  con : t.con = s.data.toList
  avl : t.avl
  ht : t.ht = hb s.size

theorem built_leaf {s : ByteArray} (h0 : 0 < s.size) (h : s.size ≤ 32) : Built s (.leaf s) := ⟨rfl, h0, by rw [hb, if_pos h]; rfl⟩

theorem built_node {s : ByteArray} {l r : Tr} (h : 32 < s.size) (hl : Built (s.extract 0 (s.size / 2)) l) (hr : Built (s.extract (s.size / 2) s.size) r) : Built s (.node l r) := by
  have e1 := hl.ht
  have e2 := hr.ht
  simp only [ByteArray.size_extract] at e1 e2
  have a1 := hb_mono (s.size - s.size / 2) (s.size / 2) (by omega)
  have a2 := hb_succ (s.size / 2)
  have a3 := hb_mono (s.size / 2 + 1) (s.size - s.size / 2) (by omega)
  rw [show min (s.size / 2) s.size - 0 = s.size / 2 by omega] at e1
  rw [show min s.size s.size - s.size / 2 = s.size - s.size / 2 by omega] at e2
  refine ⟨?_, ⟨hl.avl, hr.avl, by omega, by omega⟩, ?_⟩
  · rw [Tr.con, hl.con, hr.con, Lib.extract_data, Lib.extract_to_end]
    simp
  · rw [hb.eq_def, if_neg (by omega)]
    simp only [Tr.ht]
    omega

theorem Built.len {s : ByteArray} {t : Tr} (h : Built s t) : t.len = s.size := by simp [Tr.len, h.con]

theorem halves {s : ByteArray} {l r : Tr} (hl : Built (s.extract 0 (s.size / 2)) l) (hr : Built (s.extract (s.size / 2) s.size) r) (h : s.size ≤ 1099511627776) : l.len + r.len ≤ 1099511627776 := by
  rw [hl.len, hr.len, ByteArray.size_extract, ByteArray.size_extract]
  omega

theorem below_drew' {w w' : World} (h : Below w.drew.heap.size w.drew w') : Below w.heap.size w w' := (Below.refl _ _).drew.trans h

def HandsBuilt (s : ByteArray) (w : World) (e : Ending) (w' : World) : Prop := ∃ p t, e = .returned (.pointer p) ∧ Hid (Rep w' w'.heap.size p t) ∧ Built s t ∧ Below w.heap.size w w'

set_option maxHeartbeats 1000000 in
theorem build_none (w : World) : Calls Try.prog 27 #[.string ⟨#[]⟩] w fun e w' => e = .returned (.pointer none) ∧ Below w.heap.size w w' := by
  go_enter Try.func27, Try.ntmps27
  go_wp2_with fail
  refine (clone_any ⟨#[]⟩ w (by decide)).mono ?_
  rintro e w' ⟨rfl, hb⟩
  go_wp2_with fail
  refine (leaf_none w').mono ?_
  rintro e w2 ⟨rfl, rfl⟩
  go_wp2_with fail
  go_ret
  exact ⟨rfl, hb⟩

set_option maxHeartbeats 1000000 in
set_option maxRecDepth 100000 in
theorem build_some (k : Nat) : ∀ (s : ByteArray) (w : World), s.size ≤ k → 0 < s.size → s.size ≤ 1099511627776 → Calls Try.prog 27 #[.string s] w (HandsBuilt s w) := by
  induction k with
  | zero => intro s w h1 h2; omega
  | succ k ih =>
    intro s w h1 h2 h3
    by_cases h32 : s.size ≤ 32
    · have K := Lib.hid (clone_any s w (by omega))
      have K2 := Lib.hid (fun W => leaf_some s W h2)
      have B := Lib.hid (built_leaf h2 h32)
      clear ih
      go_enter Try.func27, Try.ntmps27
      go_wp2_with fail
      refine K.out.mono ?_
      rintro e w' ⟨rfl, hb⟩
      go_wp2_with fail
      refine (K2.out w').mono ?_
      rintro e w2 ⟨p, rfl, hr, hb2⟩
      go_wp2_with fail
      go_ret
      exact ⟨_, _, rfl, hr, B.out, hb.trans (hb2.mono hb.size)⟩
    · have K1 := Lib.hid (fun W => ih (s.extract 0 (s.size / 2)) W (by rw [ByteArray.size_extract]; omega) (by rw [ByteArray.size_extract]; omega) (by rw [ByteArray.size_extract]; omega))
      have K2 := Lib.hid (fun W => ih (s.extract (s.size / 2) s.size) W (by rw [ByteArray.size_extract]; omega) (by rw [ByteArray.size_extract]; omega) (by rw [ByteArray.size_extract]; omega))
      clear ih
      have g1 : (0 : Int) ≤ (s.size : Int) / 2 := by omega
      have g2 : (s.size : Int) / 2 ≤ s.size := by omega
      have g3 : ((s.size : Int) / 2).toNat = s.size / 2 := by omega
      go_enter Try.func27, Try.ntmps27
      go_wp2_with fail
      have HN := Lib.hid (fun l r (hl : Built (s.extract 0 (s.size / 2)) l) (hr : Built (s.extract (s.size / 2) s.size) r) => halves hl hr h3)
      have HB := Lib.hid (fun l r (hl : Built (s.extract 0 (s.size / 2)) l) (hr : Built (s.extract (s.size / 2) s.size) r) => built_node (by omega) hl hr)
      go_region_held3 (fun w' => True) (trivial)
        (first
          | (go_at_call 27; refine (K1.out _).mono ?_; rintro e w1 ⟨p1, t1, rfl, hp1, hB1, hb1⟩; clear K1)
          | (go_at_call 27; refine (K2.out _).mono ?_; rintro e w2 ⟨p2, t2, rfl, hp2, hB2, hb2⟩; have hp3 := Lib.hid (hp1.out.to hb2); clear hp1 K2)
          | (go_at_call 39; refine (inner_any t1 t2 p1 p2 _ hp3 hp2 hB1.avl hB2.avl (HN.out t1 t2 hB1 hB2)).mono ?_; rintro e w3 ⟨p3, rfl, hp4, hb4⟩))
      go_wp2_with fail
      go_ret
      have hb5 : Below w.heap.size w w1 := by first | exact hb1 | exact below_drew' hb1
      have hb6 := hb5.trans (hb2.mono hb5.size)
      exact ⟨_, _, rfl, hp4, HB.out t1 t2 hB1 hB2, hb6.trans (hb4.mono hb6.size)⟩

theorem build_any (s : ByteArray) (w : World) (h0 : 0 < s.size) (h : s.size ≤ 1099511627776) : Calls Try.prog 27 #[.string s] w (HandsBuilt s w) := build_some s.size s w (Nat.le_refl _) h0 h
end Go.Proofs.Ytkbodbbbgibgfaa
