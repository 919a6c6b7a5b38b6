/-
  anchor.validate by its contract.
-/
import Derived.Test.YtdmmoknddkfnmaaAPure
import Derived.Deep.QuietTactic
import Derived.BigQuiet
import Derived.Outline
namespace Go.Proofs.Ytdmmoknddkfnmaa
open Go.RowKit

theorem ord_no {q : Int} {l : List Ed} {k : Nat} {x : Ed} (hq : Hid (ordB (-1) l = ordB q (l.drop k))) (hx : Hid (l[k]? = some x)) (h : x.s ≤ q ∨ x.e < x.s) : ordB (-1) l = false := by
  rw [hq.out, drop_at hx.out, ordB, if_pos h]

theorem ord_go {q : Int} {l : List Ed} {k : Nat} {x : Ed} (hq : Hid (ordB (-1) l = ordB q (l.drop k))) (hx : Hid (l[k]? = some x)) (h : ¬ (x.s ≤ q ∨ x.e < x.s)) :
    Hid (ordB (-1) l = ordB x.e (l.drop (k + 1))) := by
  show _ = _
  rw [hq.out, drop_at hx.out, ordB, if_neg h]

theorem errA_big {l : List Ed} (h : 50 < l.length) : errA l = 2 := by unfold errA; rw [if_pos h]
theorem errA_no {l : List Ed} (h : ¬ 50 < l.length) (h2 : ordB (-1) l = false) : errA l = 3 := by unfold errA; rw [if_neg h, h2]; rfl
theorem errA_ok {l : List Ed} (h : ¬ 50 < l.length) (h2 : ordB (-1) l = true) : errA l = 0 := by unfold errA; rw [if_neg h, h2]; rfl

set_option maxHeartbeats 400000 in
theorem aval_any (a : Option Addr) (cap : Nat) (l : List Ed) (w : World) (hl : l.length ≤ maxLen) (h : Eds w w.heap.size a l) :
    Calls Try.prog 20 #[.slice a l.length cap] w fun e w' => e = .returned (.int .i64 (errA l)) ∧ Below w.heap.size w w' := by
  unfold maxLen at hl
  by_cases h50 : (50 : Int) < l.length
  · have HE := Lib.hid (errA_big (l := l) (by omega))
    go_enter Try.func20, Try.ntmps20
    go_wp2_with fail
    go_ret
    exact ⟨by rw [HE.out]; rfl, Below.refl _ _⟩
  have HN : Hid (ordB (-1) l = false → errA l = 3) := errA_no (by omega)
  have HY : Hid (ordB (-1) l = true → errA l = 0) := errA_ok (by omega)
  go_enter Try.func20, Try.ntmps20
  go_wp2
  go_loopw [2, 3, 11] (fun r p i wr => ∃ (k : Nat) (q : Int), k ≤ l.length ∧ r = .int .i64 0 ∧ i = .int .i64 k ∧ p = .int .i64 q ∧ Hid (ordB (-1) l = ordB q (l.drop k)) ∧ Below w.heap.size w wr) (fun _ _ i _ => l.length - (intOf i).toNat)
  case atStart => exact ⟨0, -1, Nat.zero_le _, rfl, rfl, rfl, rfl, Below.refl _ _⟩
  case round =>
    obtain ⟨k, q, hk, rfl, rfl, rfl, hq, hb⟩ := hrel
    by_cases hlt : k < l.length
    · have hx : l[k]? = some l[k] := List.getElem?_eq_getElem hlt
      obtain ⟨x, hX⟩ : ∃ x, x = l[k] := ⟨_, rfl⟩
      rw [← hX] at hx
      clear hX
      obtain ⟨hok, b, o, rfl, hbl, h0, h1, h2⟩ := (h.below hb) k x hx
      have hz := hb.size
      have Hx := Lib.hid hx
      clear hx
      go_wp2
      case roundEnd =>
        go_roundw
        case rel => exact ⟨k + 1, x.e, by omega, rfl, by go_num, rfl, ord_go hq Hx (by omega), hb.alloc hz _⟩
        case measure => simp [intOf]; omega
      all_goals
        go_ret
        exact ⟨by rw [HN.out (ord_no hq Hx (by omega))]; rfl, hb.alloc hz _⟩
    · go_wp2
      go_ret
      exact ⟨by rw [HY.out (by rw [hq.out, List.drop_eq_nil_of_le (by omega)]; rfl)]; rfl, hb⟩
end Go.Proofs.Ytdmmoknddkfnmaa
