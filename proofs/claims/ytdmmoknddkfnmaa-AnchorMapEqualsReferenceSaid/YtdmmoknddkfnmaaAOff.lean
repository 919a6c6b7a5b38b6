/-
  glossatorref4.MapOffset by its contract.
-/
import Derived.Test.YtdmmoknddkfnmaaMoved
namespace Go.Proofs.Ytdmmoknddkfnmaa
open Go.RowKit

theorem off_in {o : Int} {r : Bool} {l : List Ed} {k : Nat} {x : Ed} (hx : Hid (l[k]? = some x)) (h1 : x.s < o) (h2 : o < x.e) :
    mp o r (l.drop k) = (if r then x.s + x.t.size else x.s) := by
  rw [drop_at hx.out, mp, if_pos ⟨h1, h2⟩]

theorem off_yes {o : Int} {r : Bool} {l : List Ed} {k : Nat} {x : Ed} {p : Int} (hp : Hid (p = wrap64 (mp o r (l.drop (k + 1))))) (hx : Hid (l[k]? = some x)) (h1 : ¬ (x.s < o ∧ o < x.e)) (h2 : prec x o r = true) :
    wrap64 (wrap64 (wrap64 (p + x.t.size) + x.s) - x.e) = wrap64 (mp o r (l.drop k)) := by
  rw [drop_at hx.out, mp, if_neg h1, if_pos h2, hp.out]
  exact w_ref

theorem off_no {o : Int} {r : Bool} {l : List Ed} {k : Nat} {x : Ed} {p : Int} (hp : Hid (p = wrap64 (mp o r (l.drop (k + 1))))) (hx : Hid (l[k]? = some x)) (h1 : ¬ (x.s < o ∧ o < x.e)) (h2 : prec x o r = false) :
    p = wrap64 (mp o r (l.drop k)) := by
  rw [drop_at hx.out, mp, if_neg h1, if_neg (by simp [h2])]
  exact hp.out

set_option maxHeartbeats 1000000 in
theorem off_any (a : Option Addr) (cap : Nat) (l : List Ed) (o : Int) (r : Bool) (w : World) (hl : l.length ≤ 1000000) (ho : -9223372036854775808 ≤ o ∧ o ≤ 9223372036854775807) (h : Eds w w.heap.size a l) :
    Calls Try.prog 18 #[.slice a l.length cap, .int .i64 o, .bool r] w fun e w' => e = .returned (.int .i64 (wrap64 (mp o r l))) ∧ Below w.heap.size w w' := by
  have HO := Lib.hid (w_id ho)
  obtain ⟨ho1, ho2⟩ := ho
  go_enter Try.func18, Try.ntmps18
  go_wp2_with fail
  go_loopw [7, 8] (fun p i wr => ∃ (k : Nat) (q : Int), k ≤ l.length ∧ i = .int .i64 ((k : Int) - 1) ∧ p = .int .i64 q ∧ (-9223372036854775808 ≤ q ∧ q ≤ 9223372036854775807) ∧ Hid (q = wrap64 (mp o r (l.drop k))) ∧ Below w.heap.size w wr)
    (fun _ i _ => (intOf i + 1).toNat)
  case atStart => exact ⟨l.length, o, Nat.le_refl _, rfl, rfl, ⟨ho1, ho2⟩, by show _ = _; rw [List.drop_eq_nil_of_le (Nat.le_refl _), mp, HO.out], Below.refl _ _⟩
  case round =>
    obtain ⟨k', q, hk, rfl, rfl, ⟨hq1, hq2⟩, hq, hb⟩ := hrel
    have hzw := hb.size
    cases k' with
    | succ k =>
      have hlt : k < l.length := by omega
      have hx : l[k]? = some l[k] := List.getElem?_eq_getElem hlt
      obtain ⟨x, hX⟩ : ∃ x, x = l[k] := ⟨_, rfl⟩
      rw [← hX] at hx
      clear hX
      obtain ⟨hok, b, oo, rfl, hbl, h0, h1, h2⟩ := (h.below hb) k x hx
      obtain ⟨ok1, ok2, ok3, ok4, ok5⟩ := hok
      have Hx := Lib.hid hx
      have hki : Hid (((k + 1 : Nat) : Int) - 1 = (k : Int)) := by show _ = _; omega
      rw [hki.out]
      clear hx
      have FY : Hid (¬ (x.s < o ∧ o < x.e) → prec x o r = true → wrap64 (wrap64 (wrap64 (q + x.t.size) + x.s) - x.e) = wrap64 (mp o r (l.drop k))) := fun c d => off_yes hq Hx c d
      have FN : Hid (¬ (x.s < o ∧ o < x.e) → prec x o r = false → q = wrap64 (mp o r (l.drop k))) := fun c d => off_no hq Hx c d
      clear hq
      by_cases c1 : x.s < o ∧ o < x.e
      · obtain ⟨c2, c3⟩ := c1
        have HM := Lib.hid (off_in (r := r) Hx c2 c3)
        cases r with
        | true =>
          have HR : Hid (wrap64 (x.s + x.t.size) = wrap64 (mp o true (l.drop k))) := by show _ = _; rw [HM.out]; rfl
          go_wp2_with fail
          go_roundw
          case rel => exact ⟨k, _, by omega, rfl, rfl, wrap_in64 _, HR, hb.alloc hzw _⟩
          case measure => simp [intOf]
        | false =>
          have HR : Hid (x.s = wrap64 (mp o false (l.drop k))) := by show _ = _; rw [HM.out]; exact (w_id ⟨ok1, ok2⟩).symm
          go_wp2_with fail
          go_roundw
          case rel => exact ⟨k, _, by omega, rfl, rfl, ⟨ok1, ok2⟩, HR, hb.alloc hzw _⟩
          case measure => simp [intOf]
      have C1 := Lib.hid c1
      clear c1
      by_cases c2 : x.e < o
      · have HF := Lib.hid (FY.out C1.out (by unfold prec; rw [if_pos c2]))
        clear FY FN
        by_cases c3 : x.s < o
        · go_wp2_with fail
          go_roundw
          case rel => exact ⟨k, _, by omega, rfl, rfl, wrap_in64 _, HF, hb.alloc hzw _⟩
          case measure => simp [intOf]
        · go_wp2_with fail
          go_roundw
          case rel => exact ⟨k, _, by omega, rfl, rfl, wrap_in64 _, HF, hb.alloc hzw _⟩
          case measure => simp [intOf]
      by_cases c4 : o < x.e
      · have HF := Lib.hid (FN.out C1.out (by unfold prec; rw [if_neg c2, if_neg (by omega)]))
        have c5 : ¬ x.s < o := fun c5 => C1.out ⟨c5, c4⟩
        clear FY FN
        go_wp2_with fail
        go_roundw
        case rel => exact ⟨k, _, by omega, rfl, rfl, ⟨hq1, hq2⟩, HF, hb.alloc hzw _⟩
        case measure => simp [intOf]
      have ceq : (o == x.e) = true := by
        have : o = x.e := by omega
        simpa using this
      by_cases c3 : x.s < o
      · have HF := Lib.hid (FY.out C1.out (by unfold prec; rw [if_neg c2, if_pos (by omega), if_pos c3]))
        clear FY FN
        go_wp2_with fail
        go_roundw
        case rel => exact ⟨k, _, by omega, rfl, rfl, wrap_in64 _, HF, hb.alloc hzw _⟩
        case measure => simp [intOf]
      · cases r with
        | true =>
          have HF := Lib.hid (FY.out C1.out (by unfold prec; rw [if_neg c2, if_pos (by omega), if_neg c3]))
          clear FY FN
          go_wp2_with fail
          go_roundw
          case rel => exact ⟨k, _, by omega, rfl, rfl, wrap_in64 _, HF, hb.alloc hzw _⟩
          case measure => simp [intOf]
        | false =>
          have HF := Lib.hid (FN.out C1.out (by unfold prec; rw [if_neg c2, if_pos (by omega), if_neg c3]))
          clear FY FN
          go_wp2_with fail
          go_roundw
          case rel => exact ⟨k, _, by omega, rfl, rfl, ⟨hq1, hq2⟩, HF, hb.alloc hzw _⟩
          case measure => simp [intOf]
    | zero =>
      have hfin : Hid (q = wrap64 (mp o r l)) := hq
      clear hq
      go_wp2_with fail
      go_ret
      exact ⟨by rw [← hfin.out]; rfl, hb⟩
end Go.Proofs.Ytdmmoknddkfnmaa
