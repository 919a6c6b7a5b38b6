/-
  Mod, isBalanced and the laws' example, by their contracts.
-/
import Derived.Test.YtkbodbbbgibgfaaFrom
import Derived.Deep.LoopGhost
namespace Go.Proofs.Ytkbodbbbgibgfaa
open Go.RowKit
attribute [local go_sem ↓] Go.wp_at_zero Go.wp_at_succ

theorem fibs_pos (n : Nat) : 1 ≤ (fibs n).1 ∧ 1 ≤ (fibs n).2 := by
  induction n with
  | zero => exact ⟨Nat.le_refl _, Nat.le_refl _⟩
  | succ n ih => simp only [fibs]; omega

/-- A rope of at most 10000 bytes is balanced, says isBalanced. -/
def Fits (c : List UInt8) (h n : Nat) : Prop := (c = [] ∧ h = 0 ∧ n = 0) ∨ (c ≠ [] ∧ (fibs h).2 ≤ n ∧ n ≤ c.length ∧ h < n)

theorem fits_small {c : List UInt8} {h n : Nat} (H : Fits c h n) (hc : c.length ≤ 10000) : h < 20 := by
  rcases H with ⟨_, rfl, _⟩ | ⟨_, h1, h2, _⟩
  · omega
  · rcases Nat.lt_or_ge h 20 with h' | h'
    · exact h'
    · have := fibs_mono h'
      have e : (fibs 20).2 = 17711 := by decide
      omega

theorem rlen_any (p : Option Addr) (c : List UInt8) (w : World) (R : Hid (IsRope w p c)) : Calls Try.prog 11 #[.agg #[.pointer p]] w fun e w' => e = .returned (.int .i64 (c.length : Nat)) ∧ Below w.heap.size w w' := by
  obtain ⟨t, r, _, rfl⟩ := R.out
  exact len_any t p w r

theorem rstr_any (p : Option Addr) (c : List UInt8) (w : World) (R : Hid (IsRope w p c)) (hn : c.length ≤ 1099511627776) : Calls Try.prog 10 #[.agg #[.pointer p]] w fun e w' => e = .returned (.string ⟨c.toArray⟩) ∧ Below w.heap.size w w' := by
  obtain ⟨t, r, _, rfl⟩ := R.out
  exact string_any t p w r hn

set_option maxHeartbeats 2000000 in
set_option maxRecDepth 100000 in
theorem bal_any (p : Option Addr) (c : List UInt8) (w : World) (R : Hid (IsRope w p c)) (hn : c.length ≤ 10000) :
    Calls Try.prog 17 #[.agg #[.pointer p]] w fun e w' => e = .returned (.bool true) ∧ Below w.heap.size w w' := by
  go_enter Try.func17, Try.ntmps17
  go_wp2_with fail
  have c0 : (w.alloc (.cells #[.pointer p] 27)).cell? ⟨w.heap.size, 0, none⟩ = some (.pointer p) := by go_simp
  have hB : Below w.heap.size w (w.alloc (.cells #[.pointer p] 27)) := (Below.refl _ _).alloc (Nat.le_refl _) _
  have hz : w.heap.size < (w.alloc (.cells #[.pointer p] 27)).heap.size := by simp
  generalize w.alloc (.cells #[.pointer p] 27) = w0 at *
  refine (shape_any p c w0 (Lib.hid (R.out.to hB))).mono ?_
  rintro e w1 ⟨h, n, rfl, hf, hb⟩
  have HF := Lib.hid (show Fits c h n from hf)
  have h20 := fits_small hf hn
  have c1 : w1.cell? ⟨w.heap.size, 0, none⟩ = some (.pointer p) := (hb.cell (p := ⟨w.heap.size, 0, none⟩) hz).trans c0
  have hz1 := hb.size
  have R1 := Lib.hid ((R.out.to hB).to hb)
  have hB1 := hB.trans (hb.mono (Nat.le_of_lt hz))
  clear hf c0
  go_wp2_with fail
  go_loop [5, 6, 13] (fun a b i => ∃ k : Nat, k ≤ h ∧ i = .int .i64 k ∧ a = .int .i64 ((fibs k).1 : Nat) ∧ b = .int .i64 ((fibs k).2 : Nat)) (fun _ _ i => h - (intOf i).toNat)
  case atStart => exact ⟨0, Nat.zero_le _, rfl, rfl, rfl⟩
  case round =>
    obtain ⟨k, hk, rfl, rfl, rfl⟩ := hrel
    have m1 := fibs_mono hk
    have m2 := fibs_mono (Nat.le_of_lt h20)
    have m3 := fibs_le k
    have e20 : (fibs 20).2 = 17711 := by decide
    have b1 : ((fibs k).1 : Int) ≤ 20000 := by omega
    have b2 : ((fibs k).2 : Int) ≤ 20000 := by omega
    have b3 : (0 : Int) ≤ ((fibs k).1 : Int) := by omega
    have b4 : (0 : Int) ≤ ((fibs k).2 : Int) := by omega
    clear m1 m2 m3 e20
    by_cases hlt : k < h
    · have F1 : Hid ((fibs (k + 1)).1 = (fibs k).2) := rfl
      have F2 : Hid ((fibs (k + 1)).2 = (fibs k).1 + (fibs k).2) := rfl
      go_wp2_with fail
      go_round
      case rel => exact ⟨k + 1, by omega, by go_num, by rw [F1.out], by rw [F2.out]; go_num⟩
      case measure => simp [intOf]; omega
    · obtain rfl : k = h := by omega
      have K1 := Lib.hid (rlen_any p c w1 R1)
      rcases HF.out with ⟨rfl, rfl, rfl⟩ | ⟨hc, h1, h2, h3⟩
      · go_wp2_with fail
        refine K1.out.mono ?_
        rintro e w2 ⟨rfl, hb2⟩
        go_wp2_with fail
        go_ret
        exact ⟨rfl, hB1.trans (hb2.mono (by omega))⟩
      · have hl : 0 < c.length := by cases c with
          | nil => exact (hc rfl).elim
          | cons a r => simp
        have n1 : ((c.length : Int) == 0) = false := by simp; omega
        have n2 : ¬ (c.length : Int) = 0 := by omega
        have n3 : (n : Int) ≥ ((fibs k).2 : Nat) := by omega
        have n4 : (n : Int) ≤ (c.length : Nat) := by omega
        have n5 : (k : Int) < 60 := by omega
        go_wp2_with fail
        refine K1.out.mono ?_
        rintro e w2 ⟨rfl, hb2⟩
        have c2 : w2.cell? ⟨w.heap.size, 0, none⟩ = some (.pointer p) := (hb2.cell (p := ⟨w.heap.size, 0, none⟩) (by simp; omega)).trans c1
        have K2 := Lib.hid (rlen_any p c w2 (Lib.hid (R1.out.to hb2)))
        have hz2 := hb2.size
        clear K1
        go_wp2_with fail
        refine K2.out.mono ?_
        rintro e w3 ⟨rfl, hb3⟩
        go_wp2_with fail
        go_ret
        exact ⟨rfl, (hB1.trans (hb2.mono (by omega))).trans (hb3.mono (by omega))⟩

/-- A cell of the call's own that holds a rope. -/
theorem one_cell (w : World) (p : Option Addr) : Below w.heap.size w (w.alloc (.cells #[.pointer p] 27)) ∧ (w.alloc (.cells #[.pointer p] 27)).cell? ⟨w.heap.size, 0, none⟩ = some (.pointer p) ∧ (w.alloc (.cells #[.pointer p] 27)).frozen? ⟨w.heap.size, 0, none⟩ = false ∧ (w.alloc (.cells #[.pointer p] 27)).heap.size = w.heap.size + 1 :=
  ⟨(Below.refl _ _).alloc (Nat.le_refl _) _, by go_simp, by go_simp, by simp⟩

/-- Two of them. -/
theorem two_cells (w : World) (p q : Option Addr) : Below w.heap.size w ((w.alloc (.cells #[.pointer p] 27)).alloc (.cells #[.pointer q] 27)) ∧ ((w.alloc (.cells #[.pointer p] 27)).alloc (.cells #[.pointer q] 27)).cell? ⟨w.heap.size, 0, none⟩ = some (.pointer p) ∧
    ((w.alloc (.cells #[.pointer p] 27)).alloc (.cells #[.pointer q] 27)).cell? ⟨w.heap.size + 1, 0, none⟩ = some (.pointer q) ∧ ((w.alloc (.cells #[.pointer p] 27)).alloc (.cells #[.pointer q] 27)).heap.size = w.heap.size + 1 + 1 :=
  ⟨((Below.refl _ _).alloc (Nat.le_refl _) _).alloc (by simp) _, by go_simp, by go_simp, by simp⟩

theorem IsRope.later {w w' : World} {p : Option Addr} {c : List UInt8} (h : Hid (IsRope w p c)) (hb : Below w.heap.size w w') : Hid (IsRope w' p c) := Lib.hid (h.out.to hb)

theorem byte_two (p : Option Addr) (w : World) (R : Hid (IsRope w p [97, 98, 99])) : Calls Try.prog 13 #[.agg #[.pointer p], .int .i64 2] w fun e w' => e = .returned (.tuple #[.int .u8 99, .int .i64 0]) ∧ Below w.heap.size w w' := by
  refine (byteAt_in p _ 2 w R (by omega) (by decide) (by decide)).mono ?_
  rintro e w' ⟨x, hx, rfl, hb⟩
  obtain rfl : x = 99 := by simpa using hx.symm
  exact ⟨rfl, hb⟩

def abc : ByteArray := ⟨#[97, 98, 99]⟩

set_option maxHeartbeats 2000000 in
set_option maxRecDepth 100000 in
theorem example_any (w : World) : Calls Try.prog 7 #[] w fun e w' => e = .returned (.bool true) ∧ Below w.heap.size w w' := by
  have K1 := Lib.hid (new_any abc w (by decide))
  have K2 := Lib.hid (fun W p (h : Hid (IsRope W p abc.data.toList)) => split_in p _ 2 W h (by omega) (by decide) (by decide))
  unfold abc at K1
  go_enter Try.func7, Try.ntmps7
  go_wp2_with fail
  refine K1.out.mono ?_
  rintro e w1 ⟨p, rfl, R1, hb1⟩
  have K3 := Lib.hid (K2.out w1 p R1)
  clear K1 K2
  go_wp2_with fail
  refine K3.out.mono ?_
  rintro e w2 ⟨p1, p2, rfl, R2, R3, hb2⟩
  have hB := hb1.trans (hb2.mono hb1.size)
  clear K3 R1
  have R2' : Hid (IsRope w2 p1 [97, 98]) := R2
  have R3' : Hid (IsRope w2 p2 [99]) := R3
  clear R2 R3
  go_wp2_with fail
  obtain ⟨hb3, c1, c2, hz⟩ := two_cells w2 p1 p2
  generalize (w2.alloc (.cells #[.pointer p1] 27)).alloc (.cells #[.pointer p2] 27) = w3 at *
  have HZ := Lib.hid hz
  have hB3 := hB.trans (hb3.mono hB.size)
  have l1 : w2.heap.size < w3.heap.size := by omega
  have l2 : w2.heap.size + 1 < w3.heap.size := by omega
  have P1 := IsRope.later R2' hb3
  have P2 := IsRope.later R3' hb3
  clear hz R2' R3' hB hb3 hb1 hb2
  refine (concat_any p1 p2 [97, 98] [99] w3 P1 P2 (by decide)).mono ?_
  rintro e w4 ⟨p4, rfl, R4, hb4⟩
  have K4 := Lib.hid (byte_two p4 w4 R4)
  have hB4 := hB3.trans (hb4.mono hB3.size)
  have C1 := Lib.hid ((hb4.cell (p := ⟨w2.heap.size, 0, none⟩) l1).trans c1)
  have C2 := Lib.hid ((hb4.cell (p := ⟨w2.heap.size + 1, 0, none⟩) l2).trans c2)
  have Q1 := IsRope.later P1 hb4
  have Q2 := IsRope.later P2 hb4
  have l3 := Nat.lt_of_lt_of_le l1 hb4.size
  have l4 := Nat.lt_of_lt_of_le l2 hb4.size
  clear P1 P2 c1 c2 R4 hB3
  go_wp2_with fail
  refine K4.out.mono ?_
  rintro e w5 ⟨rfl, hb5⟩
  have hB5 := hB4.trans (hb5.mono hB4.size)
  have d1 := (hb5.cell (p := ⟨w2.heap.size, 0, none⟩) l3).trans C1.out
  have D2 := Lib.hid ((hb5.cell (p := ⟨w2.heap.size + 1, 0, none⟩) l4).trans C2.out)
  have S1 := IsRope.later Q1 hb5
  have S2 := IsRope.later Q2 hb5
  have K5 := Lib.hid (rstr_any p1 [97, 98] w5 S1 (by decide))
  have l5 := Nat.lt_of_lt_of_le l4 hb5.size
  clear C1 C2 Q1 Q2 K4 hB4
  go_wp2_with fail
  refine K5.out.mono ?_
  rintro e w6 ⟨rfl, hb6⟩
  have hB6 := hB5.trans (hb6.mono hB5.size)
  have e2 := (hb6.cell (p := ⟨w2.heap.size + 1, 0, none⟩) l5).trans D2.out
  have K6 := Lib.hid (rstr_any p2 [99] w6 (IsRope.later S2 hb6) (by decide))
  clear D2 S1 S2 K5 hB5 d1
  go_wp2_with fail
  refine K6.out.mono ?_
  rintro e w7 ⟨rfl, hb7⟩
  have hB7 := hB6.trans (hb7.mono hB6.size)
  clear K6 e2 hB6
  go_wp2_with fail
  refine (len_none w7).mono ?_
  rintro e w8 ⟨rfl, hb8⟩
  go_wp2_with fail
  go_ret
  exact ⟨rfl, hB7.trans (hb8.mono hB7.size)⟩
end Go.Proofs.Ytkbodbbbgibgfaa
