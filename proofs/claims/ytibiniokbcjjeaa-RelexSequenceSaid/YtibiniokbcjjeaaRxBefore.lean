/-
  relex.tokensBefore by its contract: the leading tokens that end before an offset, and where the last of them ends.
-/
import Derived.Test.YtibiniokbcjjeaaLxBase
import Derived.Test.YtibiniokbcjjeaaRxPure
namespace Go.Proofs.Ytibiniokbcjjeaa
open Go.RowKit

theorem glue_next {l : List Tk} {k : Nat} {x : Tk} (h : l[k]? = some x) : (glue (l.take (k + 1))).length = (glue (l.take k)).length + (bs x.2).size := by
  unfold glue
  rw [List.take_add_one, h, bs_size]; simp

theorem glue_part (l : List Tk) (k : Nat) : (glue (l.take k)).length ≤ (glue l).length := by have := glue_split l k; omega

set_option maxHeartbeats 1000000 in
set_option maxRecDepth 100000 in
theorem before_any (l : List Tk) (a : Option Addr) (cap : Nat) (off : Int) (w : World) (hl : l.length ≤ 100000) (hg : (glue l).length ≤ 100000) (h : Tks w w.heap.size a l) :
    Calls Try.prog 19 #[.slice a l.length cap, .int .i64 off] w fun e w' => ∃ p : Nat, p ≤ l.length ∧ e = .returned (.tuple #[.int .i64 p, .int .i64 (glue (l.take p)).length]) ∧
      (p = 0 ∨ ((glue (l.take p)).length : Int) < off) ∧ (p = l.length ∨ off ≤ (glue (l.take (p + 1))).length) ∧ Below w.heap.size w w' := by
  have H := Lib.hid h
  clear h
  go_enter Try.func19, Try.ntmps19
  go_wp2_with fail
  go_loopw [4, 5, 10] (fun c e i wr => ∃ k : Nat, k ≤ l.length ∧ c = .int .i64 k ∧ e = .int .i64 (glue (l.take k)).length ∧ i = .int .i64 k ∧ Hid (k = 0 ∨ ((glue (l.take k)).length : Int) < off) ∧ Below w.heap.size w wr)
    (fun _ _ i _ => l.length - (intOf i).toNat)
  case atStart => exact ⟨0, Nat.zero_le _, rfl, rfl, rfl, .inl rfl, Below.refl _ _⟩
  case round =>
    obtain ⟨k, hk, rfl, rfl, rfl, hoff, hb⟩ := hrel
    have hzw := hb.size
    by_cases hlt : k < l.length
    · have hx : l[k]? = some l[k] := List.getElem?_eq_getElem hlt
      obtain ⟨x, hX⟩ : ∃ x, x = l[k] := ⟨_, rfl⟩
      rw [← hX] at hx
      clear hX
      obtain ⟨b, o, rfl, _, p0, p1⟩ := (H.out.below hb (Nat.le_refl _)) k x hx
      have hgt := glue_next hx
      have hle := glue_part l (k + 1)
      have hk0 : (0 : Int) ≤ (k : Int) := by omega
      have hk1 : (k : Int) < (l.length : Int) := by omega
      obtain ⟨kd, tx⟩ := x
      clear hx
      simp only at hgt p1
      generalize bs tx = z at *
      have HG : Hid ((glue (l.take (k + 1))).length = (glue (l.take k)).length + z.size) := hgt
      have g0 : ((glue (l.take k)).length : Int) + z.size ≤ 100000 := by omega
      clear hgt hle
      obtain ⟨q, hq⟩ : ∃ q, q = (glue (l.take k)).length := ⟨_, rfl⟩
      have HQ := Lib.hid hq
      rw [← hq] at g0 ⊢
      clear hq
      by_cases hbr : off ≤ (q : Int) + z.size
      · go_wp2_with fail
        go_ret2
        exact ⟨k, hk, by rw [HQ.out]; rfl, hoff, .inr (by rw [HG.out, ← HQ.out]; omega), hb.alloc hzw _⟩
      · go_wp2_with fail
        go_roundw
        case rel => exact ⟨k + 1, by omega, by go_num, by rw [HG.out, ← HQ.out]; go_num, by go_num, .inr (by rw [HG.out, ← HQ.out]; omega), hb.alloc hzw _⟩
        case measure => simp [intOf]; omega
    · obtain rfl : k = l.length := by omega
      go_wp2_with fail
      go_ret2
      exact ⟨l.length, Nat.le_refl _, rfl, hoff, .inl rfl, hb⟩
end Go.Proofs.Ytibiniokbcjjeaa
