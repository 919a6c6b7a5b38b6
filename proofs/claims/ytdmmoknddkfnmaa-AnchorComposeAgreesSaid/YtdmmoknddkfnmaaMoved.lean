/-
  anchor.precedes and anchor.moved by their contracts.
-/
import Derived.Test.YtdmmoknddkfnmaaAPure
import Derived.Deep.QuietTactic
import Derived.BigQuiet
import Derived.Outline
import Derived.Lib.Builder
namespace Go.Proofs.Ytdmmoknddkfnmaa
open Go.RowKit

theorem prec_ne {x : Ed} {o : Int} {r : Bool} (h : (x.e != o) = true) : decide (x.e < o) = prec x o r := by
  have h1 : x.e ≠ o := by simpa using h
  unfold prec; rw [if_neg h1]
  by_cases h2 : x.e < o
  · simp [h2]
  · simp [h2]

theorem prec_eq {x : Ed} {o : Int} {r : Bool} (h : (x.e != o) = false) : (decide (x.s < o) || r) = prec x o r := by
  have h1 : x.e = o := by simpa using h
  unfold prec; rw [if_neg (by omega), if_pos h1]
  by_cases h2 : x.s < o
  · simp [h2]
  · simp [h2]

set_option maxHeartbeats 400000 in
theorem prec_any (x : Ed) (o : Int) (r : Bool) (w : World) :
    Calls Try.prog 29 #[.agg #[.int .i64 x.s, .int .i64 x.e, .string x.t], .int .i64 o, .bool r] w fun e w' => e = .returned (.bool (prec x o r)) ∧ Below w.heap.size w w' := by
  by_cases hne : x.e = o
  · have he : (x.e != o) = false := by simpa using hne
    have HE := Lib.hid (prec_eq (r := r) he)
    clear hne
    by_cases hs : x.s < o
    · go_enter Try.func29, Try.ntmps29
      go_wp2_with fail
      go_ret
      exact ⟨by rw [← HE.out, decide_eq_true hs]; rfl, (Below.refl _ _).alloc (Nat.le_refl _) _⟩
    · have hd := Lib.hid (decide_eq_false hs)
      go_enter Try.func29, Try.ntmps29
      go_wp2_with fail
      go_ret
      exact ⟨by rw [← HE.out, hd.out]; rfl, (Below.refl _ _).alloc (Nat.le_refl _) _⟩
  · have he : (x.e != o) = true := by simpa using hne
    have HE := Lib.hid (prec_ne (r := r) he)
    clear hne
    go_enter Try.func29, Try.ntmps29
    go_wp2_with fail
    go_ret
    exact ⟨by rw [← HE.out]; rfl, (Below.refl _ _).alloc (Nat.le_refl _) _⟩

theorem mp_in {o : Int} {r : Bool} {l : List Ed} {k : Nat} {x : Ed} {q : Int} (hq : Hid (wrap64 (mp o r l) = wrap64 (mp o r (l.drop k) + q))) (hx : Hid (l[k]? = some x)) (h1 : x.s < o) (h2 : o < x.e) :
    wrap64 (mp o r l) = wrap64 ((if r then x.s + x.t.size else x.s) + q) := by
  rw [hq.out, drop_at hx.out, mp, if_pos ⟨h1, h2⟩]

theorem mp_yes {o : Int} {r : Bool} {l : List Ed} {k : Nat} {x : Ed} {q : Int} (hq : Hid (wrap64 (mp o r l) = wrap64 (mp o r (l.drop k) + q))) (hx : Hid (l[k]? = some x)) (h1 : ¬ (x.s < o ∧ o < x.e)) (h2 : prec x o r = true) :
    Hid (wrap64 (mp o r l) = wrap64 (mp o r (l.drop (k + 1)) + wrap64 (q + wrap64 (x.t.size - wrap64 (x.e - x.s))))) := by
  show _ = _
  have := hq.out
  rw [drop_at hx.out, mp, if_neg h1, if_pos h2] at this
  exact w_step this

theorem mp_no {o : Int} {r : Bool} {l : List Ed} {k : Nat} {x : Ed} {q : Int} (hq : Hid (wrap64 (mp o r l) = wrap64 (mp o r (l.drop k) + q))) (hx : Hid (l[k]? = some x)) (h1 : ¬ (x.s < o ∧ o < x.e)) (h2 : prec x o r = false) :
    Hid (wrap64 (mp o r l) = wrap64 (mp o r (l.drop (k + 1)) + q)) := by
  show _ = _
  have := hq.out
  rw [drop_at hx.out, mp, if_neg h1, if_neg (by simp [h2])] at this
  exact this

set_option maxHeartbeats 1000000 in
theorem moved_any (a : Option Addr) (cap : Nat) (l : List Ed) (o : Int) (r : Bool) (w : World) (hl : l.length ≤ 1000000) (ho : -9223372036854775808 ≤ o ∧ o ≤ 9223372036854775807) (h : Eds w w.heap.size a l) :
    Calls Try.prog 21 #[.slice a l.length cap, .int .i64 o, .bool r] w fun e w' => e = .returned (.int .i64 (wrap64 (mp o r l))) ∧ Below w.heap.size w w' := by
  obtain ⟨ho1, ho2⟩ := ho
  go_enter Try.func21, Try.ntmps21
  go_wp2_with fail
  go_loopw [7, 13] (fun p i wr => ∃ (k : Nat) (q : Int), k ≤ l.length ∧ i = .int .i64 k ∧ p = .int .i64 q ∧ Hid (wrap64 (mp o r l) = wrap64 (mp o r (l.drop k) + q)) ∧ Below w.heap.size w wr)
    (fun _ i _ => l.length - (intOf i).toNat)
  case atStart => exact ⟨0, 0, Nat.zero_le _, rfl, rfl, by show _ = _; simp, Below.refl _ _⟩
  case round =>
    obtain ⟨k, q, hk, rfl, rfl, hq, hb⟩ := hrel
    have hzw := hb.size
    by_cases hlt : k < l.length
    · have hx : l[k]? = some l[k] := List.getElem?_eq_getElem hlt
      obtain ⟨x, hX⟩ : ∃ x, x = l[k] := ⟨_, rfl⟩
      rw [← hX] at hx
      clear hX
      obtain ⟨hok, b, oo, rfl, hbl, h0, h1, h2⟩ := (h.below hb) k x hx
      obtain ⟨ok1, ok2, ok3, ok4, ok5⟩ := hok
      have Hx := Lib.hid hx
      clear hx
      by_cases c1 : x.s < o ∧ o < x.e
      · obtain ⟨c2, c3⟩ := c1
        have HM := Lib.hid (mp_in hq Hx c2 c3)
        clear hq
        cases r with
        | true =>
          have HR := Lib.hid (w_in HM.out)
          clear HM
          go_wp2_with fail
          go_ret
          exact ⟨by rw [← HR.out]; rfl, hb.alloc hzw _⟩
        | false =>
          have HR := Lib.hid (w_left HM.out)
          clear HM
          go_wp2_with fail
          go_ret
          exact ⟨by rw [← HR.out]; rfl, hb.alloc hzw _⟩
      · have HP1 : Hid (prec x o r = true → wrap64 (mp o r l) = wrap64 (mp o r (l.drop (k + 1)) + wrap64 (q + wrap64 (x.t.size - wrap64 (x.e - x.s))))) := fun hp => (mp_yes hq Hx c1 hp).out
        have HP0 : Hid (prec x o r = false → wrap64 (mp o r l) = wrap64 (mp o r (l.drop (k + 1)) + q)) := fun hp => (mp_no hq Hx c1 hp).out
        have hbx := hb.alloc hzw (.cells #[.int .i64 x.s, .int .i64 x.e, .string x.t] 35)
        have hE0 := heap_alloc_new wr (.cells #[.int .i64 x.s, .int .i64 x.e, .string x.t] 35)
        have HE0 := Lib.hid hE0
        have HBX := Lib.hid hbx
        have e0 : (wr.alloc (.cells #[.int .i64 x.s, .int .i64 x.e, .string x.t] 35)).heap.size = wr.heap.size + 1 := by simp
        have HZ := Lib.hid e0
        clear hq hE0 hbx e0
        by_cases c2 : x.s < o
        · have c3 : ¬ o < x.e := fun c3 => c1 ⟨c2, c3⟩
          clear c1
          go_wp2_with fail
          refine (prec_any x o r _).mono ?_
          rintro e w2 ⟨rfl, hb2⟩
          have g0 : w2.cell? ⟨wr.heap.size, 0, none⟩ = some (.int .i64 x.s) := by rw [hb2.cell (by rw [HZ.out]; simp), Lib.cell_of_heap HE0.out]; rfl
          have g1 : w2.cell? ⟨wr.heap.size, 1, none⟩ = some (.int .i64 x.e) := by rw [hb2.cell (by rw [HZ.out]; simp), Lib.cell_of_heap HE0.out]; rfl
          have g2 : w2.cell? ⟨wr.heap.size, 2, none⟩ = some (.string x.t) := by rw [hb2.cell (by rw [HZ.out]; simp), Lib.cell_of_heap HE0.out]; rfl
          have hb3 := HBX.out.trans (hb2.mono HBX.out.size)
          clear hb2
          cases hp : prec x o r with
          | true =>
            go_wp2_with fail
            go_roundw
            case rel => exact ⟨k + 1, _, by omega, by go_num, rfl, HP1.out hp, hb3⟩
            case measure => simp [intOf]; omega
          | false =>
            go_wp2_with fail
            go_roundw
            case rel => exact ⟨k + 1, _, by omega, by go_num, rfl, HP0.out hp, hb3⟩
            case measure => simp [intOf]; omega
        · clear c1
          go_wp2_with fail
          refine (prec_any x o r _).mono ?_
          rintro e w2 ⟨rfl, hb2⟩
          have g0 : w2.cell? ⟨wr.heap.size, 0, none⟩ = some (.int .i64 x.s) := by rw [hb2.cell (by rw [HZ.out]; simp), Lib.cell_of_heap HE0.out]; rfl
          have g1 : w2.cell? ⟨wr.heap.size, 1, none⟩ = some (.int .i64 x.e) := by rw [hb2.cell (by rw [HZ.out]; simp), Lib.cell_of_heap HE0.out]; rfl
          have g2 : w2.cell? ⟨wr.heap.size, 2, none⟩ = some (.string x.t) := by rw [hb2.cell (by rw [HZ.out]; simp), Lib.cell_of_heap HE0.out]; rfl
          have hb3 := HBX.out.trans (hb2.mono HBX.out.size)
          clear hb2
          cases hp : prec x o r with
          | true =>
            go_wp2_with fail
            go_roundw
            case rel => exact ⟨k + 1, _, by omega, by go_num, rfl, HP1.out hp, hb3⟩
            case measure => simp [intOf]; omega
          | false =>
            go_wp2_with fail
            go_roundw
            case rel => exact ⟨k + 1, _, by omega, by go_num, rfl, HP0.out hp, hb3⟩
            case measure => simp [intOf]; omega
    · have hfin : Hid (wrap64 (mp o r l) = wrap64 (o + q)) := by
        show _ = _
        rw [hq.out, List.drop_eq_nil_of_le (by omega), mp]
      clear hq
      go_wp2_with fail
      go_ret
      exact ⟨by rw [hfin.out]; rfl, hb⟩
end Go.Proofs.Ytdmmoknddkfnmaa
