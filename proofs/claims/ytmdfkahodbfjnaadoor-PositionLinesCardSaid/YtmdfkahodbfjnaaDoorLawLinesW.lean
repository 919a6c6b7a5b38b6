/-
  The position with column 0 of each line has the offset that LineStarts returns: PositionLines, for every source (cut to 300 bytes as the law cuts it) and every line.
-/
import Derived.Test.YtmdfkahodbfjnaaDoorBound
namespace Go.Proofs.YtmdfkahodbfjnaaDoor.lawLines
open Go.RowKit

set_option maxHeartbeats 1000000 in
set_option maxRecDepth 100000 in
theorem walk (s : ByteArray) (ln : Int) (w : World) (hs : s.size ≤ maxLen) (ho : -9223372036854775808 ≤ ln ∧ ln ≤ 9223372036854775807) (hT : Tabs w) :
    Calls Tryd.prog 6 #[.string s, .int .i64 ln] w fun e w' => e = .returned (.bool true) ∧ Below w.heap.size w w' := by
  have HSH := Lib.hid (fun W => short_keep s W hs)
  have hc := cut_size s
  have T0 := Lib.hid hT
  clear hs hT
  obtain ⟨t, ht⟩ : ∃ t, t = cut s := ⟨_, rfl⟩
  rw [← ht] at hc HSH
  have K1 := Lib.hid (fun W => starts_any t W (by omega))
  have K2 := Lib.hid (fun W (hW : Tabs W) => off_true t ln 0 W (by omega) hW ho (by omega))
  have hlen := lst_length t t.size
  have hnl := nl_le t t.size
  clear ht
  by_cases c1 : ln < 0
  · rw [offV_out (.inl c1)] at K2
    have d1 : decide (ln < 0) = true := decide_eq_true c1
    clear hlen hnl hc
    go_enter Tryd.func6, Tryd.ntmps6
    go_wp2_with fail
    refine (example_keep w T0.out).mono ?_
    rintro e' w1 ⟨rfl, hb⟩
    have B1 := hb
    have T1 := Lib.hid (T0.out.to hb)
    clear T0 hb
    go_wp2_with fail
    refine (HSH.out _).mono ?_
    rintro e' w' ⟨rfl, rfl⟩
    go_wp2_with fail
    refine (K1.out _).mono ?_
    rintro e' w2 ⟨a, cap, rfl, HI, hb⟩
    have B2 := B1.trans (hb.mono B1.size)
    have T2 := Lib.hid (T1.out.to hb)
    clear T1 hb K1 B1
    go_wp2_with fail
    refine (K2.out _ T2.out).mono ?_
    rintro e' w3 ⟨rfl, hb⟩
    have B3 := B2.trans (hb.mono B2.size)
    have T3 := Lib.hid (T2.out.to hb)
    have I3 := Lib.hid (HI.out.to hb)
    clear T2 hb K2 B2 HI
    go_wp2_with fail
    refine (example_keep _ T3.out).mono ?_
    rintro e' w4 ⟨rfl, hb⟩
    have B4 := B3.trans (hb.mono B3.size)
    have I4 := Lib.hid (I3.out.to hb)
    clear T3 hb B3 I3
    go_wp2_with fail
    go_ret
    exact ⟨rfl, B4⟩
  by_cases c2 : (nl t t.size : Int) < ln
  · rw [offV_out (.inr c2)] at K2
    have d1 : decide (ln < 0) = false := decide_eq_false c1
    have d2 : ((lst t t.size).length : Int) ≤ ln := by omega
    clear hlen hnl hc c2
    go_enter Tryd.func6, Tryd.ntmps6
    go_wp2_with fail
    refine (example_keep w T0.out).mono ?_
    rintro e' w1 ⟨rfl, hb⟩
    have B1 := hb
    have T1 := Lib.hid (T0.out.to hb)
    clear T0 hb
    go_wp2_with fail
    refine (HSH.out _).mono ?_
    rintro e' w' ⟨rfl, rfl⟩
    go_wp2_with fail
    refine (K1.out _).mono ?_
    rintro e' w2 ⟨a, cap, rfl, HI, hb⟩
    have B2 := B1.trans (hb.mono B1.size)
    have T2 := Lib.hid (T1.out.to hb)
    clear T1 hb K1 B1
    go_wp2_with fail
    refine (K2.out _ T2.out).mono ?_
    rintro e' w3 ⟨rfl, hb⟩
    have B3 := B2.trans (hb.mono B2.size)
    have T3 := Lib.hid (T2.out.to hb)
    have I3 := Lib.hid (HI.out.to hb)
    clear T2 hb K2 B2 HI
    go_wp2_with fail
    refine (example_keep _ T3.out).mono ?_
    rintro e' w4 ⟨rfl, hb⟩
    have B4 := B3.trans (hb.mono B3.size)
    have I4 := Lib.hid (I3.out.to hb)
    clear T3 hb B3 I3
    go_wp2_with fail
    go_ret
    exact ⟨rfl, B4⟩
  obtain ⟨k, rfl⟩ : ∃ k : Nat, ln = k := ⟨ln.toNat, by omega⟩
  have hk : k < (lst t t.size).length := by omega
  obtain ⟨z, hz⟩ : ∃ z, (lst t t.size)[k]? = some z := ⟨_, List.getElem?_eq_getElem hk⟩
  rw [col_zero hz] at K2
  have d1 : decide ((k : Int) < 0) = false := decide_eq_false (by omega)
  have d2 : decide ((lst t t.size).length ≤ k) = false := decide_eq_false (by omega)
  have hk0 : (0 : Int) ≤ k := by omega
  have hk1 : (k : Int) < ((lst t t.size).length : Int) := by omega
  have HZ := Lib.hid hz
  clear hlen hnl hc c1 c2 hz
  go_enter Tryd.func6, Tryd.ntmps6
  go_wp2_with fail
  refine (example_keep w T0.out).mono ?_
  rintro e' w1 ⟨rfl, hb⟩
  have B1 := hb
  have T1 := Lib.hid (T0.out.to hb)
  clear T0 hb
  go_wp2_with fail
  refine (HSH.out _).mono ?_
  rintro e' w' ⟨rfl, rfl⟩
  go_wp2_with fail
  refine (K1.out _).mono ?_
  rintro e' w2 ⟨a, cap, rfl, HI, hb⟩
  have B2 := B1.trans (hb.mono B1.size)
  have T2 := Lib.hid (T1.out.to hb)
  clear T1 hb K1 B1
  go_wp2_with fail
  refine (K2.out _ T2.out).mono ?_
  rintro e' w3 ⟨rfl, hb⟩
  have B3 := B2.trans (hb.mono B2.size)
  have T3 := Lib.hid (T2.out.to hb)
  have I3 := Lib.hid (HI.out.to hb)
  clear T2 hb K2 B2 HI
  go_wp2_with fail
  refine (example_keep _ T3.out).mono ?_
  rintro e' w4 ⟨rfl, hb⟩
  have B4 := B3.trans (hb.mono B3.size)
  have I4 := Lib.hid (I3.out.to hb)
  clear T3 hb B3 I3
  obtain ⟨_, b, oo, rfl, hbl, g0⟩ := I4.out k z HZ.out
  clear I4
  go_wp2_with fail
  go_ret
  exact ⟨rfl, B4⟩
end Go.Proofs.YtmdfkahodbfjnaaDoor.lawLines
