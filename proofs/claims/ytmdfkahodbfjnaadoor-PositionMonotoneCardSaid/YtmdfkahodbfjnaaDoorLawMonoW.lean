/-
  A larger offset has a later position: PositionMonotone, for every source (cut to 300 bytes as the law cuts it) and every two offsets.
-/
import Derived.Test.YtmdfkahodbfjnaaDoorBound
namespace Go.Proofs.YtmdfkahodbfjnaaDoor.lawMono
open Go.RowKit

set_option maxHeartbeats 1000000 in
set_option maxRecDepth 100000 in
theorem walk (s : ByteArray) (a b : Int) (w : World) (hs : s.size ≤ maxLen) (ha : -9223372036854775808 ≤ a ∧ a ≤ 9223372036854775807) (hb : -9223372036854775808 ≤ b ∧ b ≤ 9223372036854775807) (hT : Tabs w) :
    Calls Tryd.prog 5 #[.string s, .int .i64 a, .int .i64 b] w fun e w' => e = .returned (.bool true) ∧ Below w.heap.size w w' := by
  have HSH := Lib.hid (fun W => short_keep s W hs)
  have hc := cut_size s
  have T0 := Lib.hid hT
  clear hs hT
  obtain ⟨t, ht⟩ : ∃ t, t = cut s := ⟨_, rfl⟩
  rw [← ht] at hc HSH
  have K1 := Lib.hid (fun W (hW : Tabs W) => pos_true t a W (by omega) hW ha)
  have K2 := Lib.hid (fun W (hW : Tabs W) => pos_true t b W (by omega) hW hb)
  obtain ⟨V1, hV1⟩ : ∃ V, posV t true a = V := ⟨_, rfl⟩
  obtain ⟨V2, hV2⟩ : ∃ V, posV t true b = V := ⟨_, rfl⟩
  rw [hV1] at K1; rw [hV2] at K2
  obtain ⟨L, C, E⟩ := V1
  obtain ⟨M, D, F⟩ := V2
  clear ht hc ha hb
  by_cases e1 : E = 0
  · subst e1
    by_cases e2 : F = 0
    · subst e2
      by_cases hab : a < b
      · have hl := Lib.hid (later hV1 hV2 hab)
        have dab : decide (b ≤ a) = false := decide_eq_false (by omega)
        clear hV1 hV2
        by_cases hLM : L < M
        · have d1 : decide (L < M) = true := decide_eq_true hLM
          go_enter Tryd.func5, Tryd.ntmps5
          go_wp2_with fail
          refine (example_keep w T0.out).mono ?_
          rintro e' w1 ⟨rfl, hb⟩
          have B1 := hb
          have T1 := Lib.hid (T0.out.to hb)
          clear T0 hb
          go_wp2_with fail
          refine (HSH.out _).mono ?_
          rintro e' w' ⟨rfl, rfl⟩
          go_wp2_with fail
          refine (K1.out _ T1.out).mono ?_
          rintro e' w2 ⟨rfl, hb⟩
          have B2 := B1.trans (hb.mono B1.size)
          have T2 := Lib.hid (T1.out.to hb)
          clear T1 hb K1 B1
          go_wp2_with fail
          refine (K2.out _ (T2.out.alloc _)).mono ?_
          rintro e' w3 ⟨rfl, hb⟩
          have B3 := below_via B2 B2.size hb
          have T3 := Lib.hid ((T2.out.alloc _).to hb)
          have P3 := Lib.hid (below_new hb)
          clear T2 hb K2 B2
          go_wp2_with fail
          refine (example_keep _ (T3.out.alloc _)).mono ?_
          rintro e' w4 ⟨rfl, hb⟩
          have B4 := below_via B3 B3.size hb
          obtain ⟨a0, a1⟩ := two_at (below_old hb P3.out)
          obtain ⟨c0, c1⟩ := two_at (below_new hb)
          clear T3 hb B3 P3
          go_wp2_with fail
          go_ret
          exact ⟨rfl, B4⟩
        · have hCD : C < D := by rcases hl.out with h | h <;> omega
          obtain rfl : L = M := by rcases hl.out with h | h <;> omega
          have d1 : decide (L < L) = false := decide_eq_false (by omega)
          have d2 : decide (C < D) = true := decide_eq_true hCD
          go_enter Tryd.func5, Tryd.ntmps5
          go_wp2_with fail
          refine (example_keep w T0.out).mono ?_
          rintro e' w1 ⟨rfl, hb⟩
          have B1 := hb
          have T1 := Lib.hid (T0.out.to hb)
          clear T0 hb
          go_wp2_with fail
          refine (HSH.out _).mono ?_
          rintro e' w' ⟨rfl, rfl⟩
          go_wp2_with fail
          refine (K1.out _ T1.out).mono ?_
          rintro e' w2 ⟨rfl, hb⟩
          have B2 := B1.trans (hb.mono B1.size)
          have T2 := Lib.hid (T1.out.to hb)
          clear T1 hb K1 B1
          go_wp2_with fail
          refine (K2.out _ (T2.out.alloc _)).mono ?_
          rintro e' w3 ⟨rfl, hb⟩
          have B3 := below_via B2 B2.size hb
          have T3 := Lib.hid ((T2.out.alloc _).to hb)
          have P3 := Lib.hid (below_new hb)
          clear T2 hb K2 B2
          go_wp2_with fail
          refine (example_keep _ (T3.out.alloc _)).mono ?_
          rintro e' w4 ⟨rfl, hb⟩
          have B4 := below_via B3 B3.size hb
          obtain ⟨a0, a1⟩ := two_at (below_old hb P3.out)
          obtain ⟨c0, c1⟩ := two_at (below_new hb)
          clear T3 hb B3 P3
          go_wp2_with fail
          go_ret
          exact ⟨rfl, B4⟩
      · have dab : decide (b ≤ a) = true := decide_eq_true (by omega)
        clear hV1 hV2
        go_enter Tryd.func5, Tryd.ntmps5
        go_wp2_with fail
        refine (example_keep w T0.out).mono ?_
        rintro e' w1 ⟨rfl, hb⟩
        have B1 := hb
        have T1 := Lib.hid (T0.out.to hb)
        clear T0 hb
        go_wp2_with fail
        refine (HSH.out _).mono ?_
        rintro e' w' ⟨rfl, rfl⟩
        go_wp2_with fail
        refine (K1.out _ T1.out).mono ?_
        rintro e' w2 ⟨rfl, hb⟩
        have B2 := B1.trans (hb.mono B1.size)
        have T2 := Lib.hid (T1.out.to hb)
        clear T1 hb K1 B1
        go_wp2_with fail
        refine (K2.out _ (T2.out.alloc _)).mono ?_
        rintro e' w3 ⟨rfl, hb⟩
        have B3 := below_via B2 B2.size hb
        have T3 := Lib.hid ((T2.out.alloc _).to hb)
        have P3 := Lib.hid (below_new hb)
        clear T2 hb K2 B2
        go_wp2_with fail
        refine (example_keep _ (T3.out.alloc _)).mono ?_
        rintro e' w4 ⟨rfl, hb⟩
        have B4 := below_via B3 B3.size hb
        obtain ⟨a0, a1⟩ := two_at (below_old hb P3.out)
        obtain ⟨c0, c1⟩ := two_at (below_new hb)
        clear T3 hb B3 P3
        go_wp2_with fail
        go_ret
        exact ⟨rfl, B4⟩
    · have h2 : (F != 0) = true := by simpa using e2
      clear hV1 hV2 e2
      go_enter Tryd.func5, Tryd.ntmps5
      go_wp2_with fail
      refine (example_keep w T0.out).mono ?_
      rintro e' w1 ⟨rfl, hb⟩
      have B1 := hb
      have T1 := Lib.hid (T0.out.to hb)
      clear T0 hb
      go_wp2_with fail
      refine (HSH.out _).mono ?_
      rintro e' w' ⟨rfl, rfl⟩
      go_wp2_with fail
      refine (K1.out _ T1.out).mono ?_
      rintro e' w2 ⟨rfl, hb⟩
      have B2 := B1.trans (hb.mono B1.size)
      have T2 := Lib.hid (T1.out.to hb)
      clear T1 hb K1 B1
      go_wp2_with fail
      refine (K2.out _ (T2.out.alloc _)).mono ?_
      rintro e' w3 ⟨rfl, hb⟩
      have B3 := below_via B2 B2.size hb
      have T3 := Lib.hid ((T2.out.alloc _).to hb)
      have P3 := Lib.hid (below_new hb)
      clear T2 hb K2 B2
      go_wp2_with fail
      refine (example_keep _ (T3.out.alloc _)).mono ?_
      rintro e' w4 ⟨rfl, hb⟩
      have B4 := below_via B3 B3.size hb
      obtain ⟨a0, a1⟩ := two_at (below_old hb P3.out)
      obtain ⟨c0, c1⟩ := two_at (below_new hb)
      clear T3 hb B3 P3
      go_wp2_with fail
      go_ret
      exact ⟨rfl, B4⟩
  · have h1 : (E != 0) = true := by simpa using e1
    clear hV1 hV2 e1
    go_enter Tryd.func5, Tryd.ntmps5
    go_wp2_with fail
    refine (example_keep w T0.out).mono ?_
    rintro e' w1 ⟨rfl, hb⟩
    have B1 := hb
    have T1 := Lib.hid (T0.out.to hb)
    clear T0 hb
    go_wp2_with fail
    refine (HSH.out _).mono ?_
    rintro e' w' ⟨rfl, rfl⟩
    go_wp2_with fail
    refine (K1.out _ T1.out).mono ?_
    rintro e' w2 ⟨rfl, hb⟩
    have B2 := B1.trans (hb.mono B1.size)
    have T2 := Lib.hid (T1.out.to hb)
    clear T1 hb K1 B1
    go_wp2_with fail
    refine (K2.out _ (T2.out.alloc _)).mono ?_
    rintro e' w3 ⟨rfl, hb⟩
    have B3 := below_via B2 B2.size hb
    have T3 := Lib.hid ((T2.out.alloc _).to hb)
    have P3 := Lib.hid (below_new hb)
    clear T2 hb K2 B2
    go_wp2_with fail
    refine (example_keep _ (T3.out.alloc _)).mono ?_
    rintro e' w4 ⟨rfl, hb⟩
    have B4 := below_via B3 B3.size hb
    obtain ⟨a0, a1⟩ := two_at (below_old hb P3.out)
    obtain ⟨c0, c1⟩ := two_at (below_new hb)
    clear T3 hb B3 P3
    go_wp2_with fail
    go_ret
    exact ⟨rfl, B4⟩
end Go.Proofs.YtmdfkahodbfjnaaDoor.lawMono
