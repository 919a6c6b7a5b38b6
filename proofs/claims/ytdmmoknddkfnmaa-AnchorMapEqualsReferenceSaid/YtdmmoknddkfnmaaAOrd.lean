/-
  glossatorref4.ValidateOrder by its contract.
-/
import Derived.Test.YtdmmoknddkfnmaaAVal
namespace Go.Proofs.Ytdmmoknddkfnmaa
open Go.RowKit

theorem below_drewN {B : Nat} {a w : World} (h : Below B a w) (n : Nat) : Below B a (w.drewN n) := ⟨h.os, h.tape, h.output, h.size, h.block⟩

/-- Where the previous edit ends. -/
def lastE (l : List Ed) : Nat → Int
  | 0 => -1
  | j + 1 => ((l[j]?).map (·.e)).getD 0

set_option maxHeartbeats 2000000 in
set_option maxRecDepth 100000 in
theorem vo_any (a : Option Addr) (cap : Nat) (l : List Ed) (w : World) (hl : l.length ≤ maxLen) (h : Eds w w.heap.size a l) :
    Calls Try.prog 17 #[.slice a l.length cap] w fun e w' => e = .returned (.int .i64 (errA l)) ∧ Below w.heap.size w w' := by
  unfold maxLen at hl
  by_cases h50 : (50 : Int) < l.length
  · have HE := Lib.hid (errA_big (l := l) (by omega))
    go_enter Try.func17, Try.ntmps17
    go_wp2_with fail
    go_ret
    exact ⟨by rw [HE.out]; rfl, Below.refl _ _⟩
  have HN0 : Hid (ordB (-1) l = false → errA l = 3) := errA_no (by omega)
  have HY : Hid (ordB (-1) l = true → errA l = 0) := errA_ok (by omega)
  go_enter Try.func17, Try.ntmps17
  go_wp2_with fail
  go_loopw [2, 3] (fun r i wr => ∃ (k : Nat), k ≤ l.length ∧ r = .int .i64 0 ∧ i = .int .i64 k ∧ Hid (-1 ≤ lastE l k) ∧ Hid (ordB (-1) l = ordB (lastE l k) (l.drop k)) ∧ Below w.heap.size w wr) (fun _ i _ => l.length - (intOf i).toNat)
  case atStart => exact ⟨0, Nat.zero_le _, rfl, rfl, by show (-1 : Int) ≤ -1; omega, rfl, Below.refl _ _⟩
  case round =>
    obtain ⟨k, hk, rfl, rfl, hpv, hq, hb⟩ := hrel
    by_cases hlt : k < l.length
    · have hx : l[k]? = some l[k] := List.getElem?_eq_getElem hlt
      obtain ⟨x, hX⟩ : ∃ x, x = l[k] := ⟨_, rfl⟩
      rw [← hX] at hx
      clear hX
      obtain ⟨hok, b, o, rfl, hbl, h0, h1, h2⟩ := (h.below hb) k x hx
      obtain ⟨ok1, ok2, ok3, ok4, ok5⟩ := hok
      have Hx := Lib.hid hx
      have HL1 : Hid (lastE l (k + 1) = x.e) := by show _ = _; rw [lastE, hx]; rfl
      have hk0 : (0 : Int) ≤ (k : Int) := by omega
      have hk1 : (k : Int) < (l.length : Int) := by omega
      have HBad : Hid (x.s ≤ lastE l k ∨ x.e < x.s → errA l = 3) := fun c => HN0.out (ord_no hq Hx c)
      have HGood : Hid (¬ (x.s ≤ lastE l k ∨ x.e < x.s) → (-1 ≤ lastE l (k + 1)) ∧ ordB (-1) l = ordB (lastE l (k + 1)) (l.drop (k + 1))) := fun c => by
        have q1 := hpv.out
        have q2 := (ord_go hq Hx c).out
        rw [HL1.out]
        exact ⟨by omega, q2⟩
      clear hx hq HN0 HY
      by_cases c1 : x.s < 0
      · have HR := Lib.hid (HBad.out (Or.inl (by have := hpv.out; omega)))
        clear HBad HGood hpv HL1
        have d1 : decide (x.s < 0) = true := decide_eq_true c1
        go_wp2_with fail
        go_quiet (fail)
        go_wp2_with fail
        go_ret
        exact ⟨by rw [HR.out]; rfl, below_drewN hb _⟩
      have d1 : decide (x.s < 0) = false := decide_eq_false c1
      by_cases c2 : x.e < x.s
      · have HR := Lib.hid (HBad.out (Or.inr c2))
        clear HBad HGood hpv HL1
        have d2 : decide (x.e < x.s) = true := decide_eq_true c2
        go_wp2_with fail
        go_quiet (fail)
        go_wp2_with fail
        go_ret
        exact ⟨by rw [HR.out]; rfl, below_drewN hb _⟩
      have d2 : decide (x.e < x.s) = false := decide_eq_false c2
      cases k with
      | zero =>
        have HG := HGood.out (by show ¬ (x.s ≤ -1 ∨ x.e < x.s); omega)
        have HP := Lib.hid HG.1
        have HN := Lib.hid HG.2
        clear HG HBad HGood hpv HL1
        simp only [Nat.zero_mul, Nat.add_zero] at h0 h1 h2
        go_wp2_with fail
        go_quiet (fail)
        go_wp2_with fail
        go_roundw
        case rel => exact ⟨0 + 1, by omega, rfl, by go_num, HP, HN, below_drewN hb _⟩
        case measure => simp [intOf]; omega
      | succ j =>
        have hj : j < l.length := by omega
        have hy : l[j]? = some l[j] := List.getElem?_eq_getElem hj
        obtain ⟨y, hY⟩ : ∃ y, y = l[j] := ⟨_, rfl⟩
        rw [← hY] at hy
        clear hY
        have hpy : lastE l (j + 1) = y.e := by rw [lastE, hy]; rfl
        obtain ⟨_, b', o', hbo, _, _, g1, _⟩ := (h.below hb) j y hy
        simp only [Option.some.injEq, Addr.mk.injEq, and_true] at hbo
        obtain ⟨rfl, rfl⟩ := hbo
        have HB1 : Hid (x.s ≤ y.e → errA l = 3) := fun c => HBad.out (Or.inl (by rw [hpy]; exact c))
        have HG1 : Hid (¬ (x.s ≤ y.e) → (-1 ≤ lastE l (j + 1 + 1)) ∧ ordB (-1) l = ordB (lastE l (j + 1 + 1)) (l.drop (j + 1 + 1))) := fun c => HGood.out (by rw [hpy]; omega)
        have hj0 : (0 : Int) ≤ (j : Int) := by omega
        have hj1 : (j : Int) < (l.length : Int) := by omega
        have hw : IntKind.i64.wrap ((j : Int) + 1 - 1) = (j : Int) := by rw [show ((j : Int) + 1 - 1) = (j : Int) from by omega]; exact IntWalk.i64_in _ (by omega)
        have hp : decide ((0 : Int) < (j : Int) + 1) = true := decide_eq_true (by omega)
        clear HBad HGood hpv HL1 hpy hy
        by_cases c3 : x.s ≤ y.e
        · have HR := Lib.hid (HB1.out c3)
          clear HB1 HG1
          have d3 : decide (x.s ≤ y.e) = true := decide_eq_true c3
          go_wp2_with fail
          go_quiet (fail)
          go_wp2_with fail
          go_ret
          exact ⟨by rw [HR.out]; rfl, below_drewN hb _⟩
        · have HG := HG1.out c3
          have HP := Lib.hid HG.1
          have HN := Lib.hid HG.2
          clear HG HB1 HG1
          have d3 : decide (x.s ≤ y.e) = false := decide_eq_false c3
          go_wp2_with fail
          go_quiet (fail)
          go_wp2_with fail
          go_roundw
          case rel => exact ⟨j + 1 + 1, by omega, rfl, by go_num, HP, HN, below_drewN hb _⟩
          case measure => simp [intOf]; omega
    · have HE := Lib.hid (HY.out (by rw [hq.out, List.drop_eq_nil_of_le (by omega)]; rfl))
      go_wp2_with fail
      go_ret
      exact ⟨by rw [HE.out]; rfl, hb⟩
end Go.Proofs.Ytdmmoknddkfnmaa
