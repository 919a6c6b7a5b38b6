/-
  EqualLists at int, sameGreen, sameTree and sameArena, by their contracts.
-/
import Derived.Test.YtjnnilidnceplaaGtWf
namespace Go.Proofs.Ytjnnilidnceplaa
open Go.RowKit

set_option maxHeartbeats 400000 in
theorem ints_yes (zs : List Int) (a1 : Option Addr) (c1 : Nat) (a2 : Option Addr) (c2 : Nat) (w : World) (hl : zs.length ≤ maxLen) (h1 : Ints w (· < w.heap.size) a1 zs) (h2 : Ints w (· < w.heap.size) a2 zs) :
    Calls Try.prog 26 #[.slice a1 zs.length c1, .slice a2 zs.length c2] w fun e w' => e = .returned (.bool true) ∧ Below w.heap.size w w' := by
  unfold maxLen at hl
  have H1 := Lib.hid h1
  have H2 := Lib.hid h2
  clear h1 h2
  go_enter Try.func26, Try.ntmps26
  go_wp2_with fail
  go_loopw [13] (fun i wr => ∃ k : Nat, k ≤ zs.length ∧ i = .int .i64 k ∧ Below w.heap.size w wr)
    (fun i _ => zs.length - (intOf i).toNat)
  case atStart => exact ⟨0, Nat.zero_le _, rfl, Below.refl _ _⟩
  case round =>
    obtain ⟨k, hk, rfl, hb⟩ := hrel
    by_cases hlt : k < zs.length
    · have hx : zs[k]? = some zs[k] := List.getElem?_eq_getElem hlt
      obtain ⟨x, hX⟩ : ∃ x, x = zs[k] := ⟨_, rfl⟩
      rw [← hX] at hx
      clear hX
      obtain ⟨b, o, rfl, _, h0⟩ := (H1.out.to hb) k x hx
      obtain ⟨b', o', rfl, _, g0⟩ := (H2.out.to hb) k x hx
      have hk0 : (0 : Int) ≤ (k : Int) := by omega
      have hk1 : (k : Int) < (zs.length : Int) := by omega
      clear hx
      go_wp2_with fail
      go_quiet (fail)
      go_wp2_with fail
      go_roundw
      case rel => exact ⟨k + 1, by omega, by go_num, below_drewN' hb _⟩
      case measure => simp [intOf]; omega
    · go_wp2_with fail
      go_ret
      exact ⟨rfl, hb⟩

set_option maxHeartbeats 400000 in
theorem ints_no (zs ys : List Int) (a1 : Option Addr) (c1 : Nat) (a2 : Option Addr) (c2 : Nat) (w : World) (hne : zs ≠ ys) (hl : zs.length ≤ maxLen) (h1 : Ints w (· < w.heap.size) a1 zs) (h2 : Ints w (· < w.heap.size) a2 ys) :
    Calls Try.prog 26 #[.slice a1 zs.length c1, .slice a2 ys.length c2] w fun e w' => e = .returned (.bool false) ∧ Below w.heap.size w w' := by
  unfold maxLen at hl
  have H1 := Lib.hid h1
  have H2 := Lib.hid h2
  have HN := Lib.hid hne
  clear h1 h2 hne
  by_cases hle : zs.length = ys.length
  case neg =>
    have e : ((zs.length : Int) == ys.length) = false := by simp; omega
    have e' : ((zs.length : Int) != ys.length) = true := by simp; omega
    go_enter Try.func26, Try.ntmps26
    go_wp2_with fail
    go_ret
    exact ⟨rfl, Below.refl _ _⟩
  case pos =>
    rw [← hle]
    have HL := Lib.hid hle
    clear hle
    go_enter Try.func26, Try.ntmps26
    go_wp2_with fail
    go_loopw [13] (fun i wr => ∃ k : Nat, k ≤ zs.length ∧ i = .int .i64 k ∧ Hid (zs.take k = ys.take k) ∧ Below w.heap.size w wr)
      (fun i _ => zs.length - (intOf i).toNat)
    case atStart => exact ⟨0, Nat.zero_le _, rfl, rfl, Below.refl _ _⟩
    case round =>
      obtain ⟨k, hk, rfl, heq, hb⟩ := hrel
      by_cases hlt : k < zs.length
      · have hx : zs[k]? = some zs[k] := List.getElem?_eq_getElem hlt
        obtain ⟨x, hX⟩ : ∃ x, x = zs[k] := ⟨_, rfl⟩
        rw [← hX] at hx
        clear hX
        have hlt2 : k < ys.length := by have := HL.out; omega
        have hy : ys[k]? = some ys[k] := List.getElem?_eq_getElem hlt2
        obtain ⟨y, hY⟩ : ∃ x, x = ys[k] := ⟨_, rfl⟩
        rw [← hY] at hy
        clear hY hlt2
        obtain ⟨b, o, rfl, _, h0⟩ := (H1.out.to hb) k x hx
        obtain ⟨b', o', rfl, _, g0⟩ := (H2.out.to hb) k y hy
        have hk0 : (0 : Int) ≤ (k : Int) := by omega
        have hk1 : (k : Int) < (zs.length : Int) := by omega
        have HX := Lib.hid hx
        have HY := Lib.hid hy
        clear hx hy
        by_cases hxy : x = y
        · subst hxy
          have hn : Hid (zs.take (k + 1) = ys.take (k + 1)) := by
            show _ = _
            rw [List.take_add_one, List.take_add_one, heq.out, HX.out, HY.out]
          go_wp2_with fail
          go_quiet (fail)
          go_wp2_with fail
          go_roundw
          case rel => exact ⟨k + 1, by omega, by go_num, hn, below_drewN' hb _⟩
          case measure => simp [intOf]; omega
        · have e : (x == y) = false := by simp; omega
          have e' : (x != y) = true := by simp; omega
          go_wp2_with fail
          go_quiet (fail)
          go_wp2_with fail
          go_ret
          exact ⟨rfl, below_drewN' hb _⟩
      · have : False := by
          have h := heq.out
          have h2 := HL.out
          rw [List.take_of_length_le (by omega), List.take_of_length_le (by omega)] at h
          exact HN.out h
        exact this.elim

set_option maxHeartbeats 1000000 in
theorem green_yes (g : G) (a1 : Option Addr) (c1 : Nat) (a2 : Option Addr) (c2 : Nat) (w : World) (hl : g.c.length ≤ maxLen) (h1 : Ints w (· < w.heap.size) a1 g.c) (h2 : Ints w (· < w.heap.size) a2 g.c) :
    Calls Try.prog 18 #[gv g a1 c1, gv g a2 c2] w fun e w' => e = .returned (.bool true) ∧ Below w.heap.size w w' := by
  have H1 := Lib.hid h1
  have H2 := Lib.hid h2
  have HL := Lib.hid hl
  clear h1 h2 hl
  go_enter Try.func18, Try.ntmps18
  go_wp2_with ((go_at_call 26; (with_reducible refine (ints_yes _ _ _ _ _ _ HL.out ((H1.out.alloc _).alloc _) ((H2.out.alloc _).alloc _)).mono ?_); rintro e w' ⟨rfl, hb1⟩))
  go_ret
  exact ⟨rfl, (((Below.refl _ _).alloc (Nat.le_refl _) _).alloc (by simp) _).trans (hb1.mono (by simp; omega))⟩

set_option maxHeartbeats 2000000 in
theorem green_no (g h : G) (a1 : Option Addr) (c1 : Nat) (a2 : Option Addr) (c2 : Nat) (w : World) (hne : ¬ (g.k = h.k ∧ g.w = h.w ∧ g.t = h.t ∧ g.c = h.c)) (hl : g.c.length ≤ maxLen) (h1 : Ints w (· < w.heap.size) a1 g.c) (h2 : Ints w (· < w.heap.size) a2 h.c) :
    Calls Try.prog 18 #[gv g a1 c1, gv h a2 c2] w fun e w' => e = .returned (.bool false) ∧ Below w.heap.size w w' := by
  obtain ⟨k1, w1, t1, l1⟩ := g
  obtain ⟨k2, w2, t2, l2⟩ := h
  have H1 := Lib.hid h1
  have H2 := Lib.hid h2
  have HL := Lib.hid hl
  simp only at hne H1 H2 HL
  show Calls Try.prog 18 #[.agg #[.int .i64 k1, .int .i64 w1, .string t1, .slice a1 l1.length c1], .agg #[.int .i64 k2, .int .i64 w2, .string t2, .slice a2 l2.length c2]] w _
  clear h1 h2 hl
  by_cases hk : k1 = k2
  case neg =>
    have e : (k1 == k2) = false := by simp; omega
    clear hne
    go_enter Try.func18, Try.ntmps18
    go_wp2_with fail
    go_ret
    exact ⟨rfl, (((Below.refl _ _).alloc (Nat.le_refl _) _).alloc (by simp) _)⟩
  subst hk
  by_cases hw : w1 = w2
  case neg =>
    have e : (w1 == w2) = false := by simp; omega
    clear hne
    go_enter Try.func18, Try.ntmps18
    go_wp2_with fail
    go_ret
    exact ⟨rfl, (((Below.refl _ _).alloc (Nat.le_refl _) _).alloc (by simp) _)⟩
  subst hw
  by_cases ht : t1 = t2
  case neg =>
    have e : (t1.toList == t2.toList) = false := by
      rw [Bool.eq_false_iff]
      intro h
      have h2 := eq_of_beq h
      rw [ByteArray.toList_eq, ByteArray.toList_eq] at h2
      exact ht (by cases t1; cases t2; simp at h2; simp [h2])
    clear hne ht
    go_enter Try.func18, Try.ntmps18
    go_wp2_with fail
    go_ret
    exact ⟨rfl, (((Below.refl _ _).alloc (Nat.le_refl _) _).alloc (by simp) _)⟩
  subst ht
  have HN : Hid (l1 ≠ l2) := by
    show _ ≠ _
    intro h
    exact hne ⟨rfl, rfl, rfl, h⟩
  clear hne
  go_enter Try.func18, Try.ntmps18
  go_wp2_with ((go_at_call 26; (with_reducible refine (ints_no _ _ _ _ _ _ _ HN.out HL.out ((H1.out.alloc _).alloc _) ((H2.out.alloc _).alloc _)).mono ?_); rintro e w' ⟨rfl, hb1⟩))
  go_ret
  exact ⟨rfl, (((Below.refl _ _).alloc (Nat.le_refl _) _).alloc (by simp) _).trans (hb1.mono (by simp; omega))⟩
end Go.Proofs.Ytjnnilidnceplaa
