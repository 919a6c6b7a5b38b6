/-
  Converting an offset to a position and back yields the same offset, in UTF-16 code units and in code points: PositionRoundTrip, for every source (cut to 300 bytes as the law cuts it) and every offset.
-/
import Derived.Test.YtmdfkahodbfjnaaDoorBound
namespace Go.Proofs.YtmdfkahodbfjnaaDoor.lawTrip
open Go.RowKit

set_option maxHeartbeats 1000000 in
set_option maxRecDepth 100000 in
theorem walk (s : ByteArray) (off : Int) (w : World) (hs : s.size ≤ maxLen) (ho : -9223372036854775808 ≤ off ∧ off ≤ 9223372036854775807) (hT : Tabs w) :
    Calls Tryd.prog 4 #[.string s, .int .i64 off] w fun e w' => e = .returned (.bool true) ∧ Below w.heap.size w w' := by
  have HSH := Lib.hid (fun W => short_keep s W hs)
  have hc := cut_size s
  have T0 := Lib.hid hT
  clear hs hT
  obtain ⟨t, ht⟩ : ∃ t, t = cut s := ⟨_, rfl⟩
  rw [← ht] at hc HSH
  have K1 := Lib.hid (fun W (hW : Tabs W) => pos_true t off W (by omega) hW ho)
  have K2 := Lib.hid (fun W (hW : Tabs W) => pos_false t off W (by omega) hW ho)
  clear ht
  rcases two_ways t off with ⟨e, he, h1, h2⟩ | ⟨L, x, y, h1, h2, hxy⟩
  · rw [h1] at K1; rw [h2] at K2
    have he1 : (e != 0) = true := by simpa using he
    clear h1 h2 he hc
    go_enter Tryd.func4, Tryd.ntmps4
    go_wp2_with fail
    refine (example_keep w T0.out).mono ?_
    rintro e' w1 ⟨rfl, hb⟩
    have B1 := hb
    have T1 := Lib.hid (T0.out.to hb)
    clear T0 hb
    go_wp2_with fail
    refine (HSH.out _).mono ?_
    rintro e' w' ⟨rfl, rfl⟩
    go_wp2_with fail
    refine (K1.out _ T1.out).mono ?_
    rintro e' w2 ⟨rfl, hb⟩
    have B2 := B1.trans (hb.mono B1.size)
    have T2 := Lib.hid (T1.out.to hb)
    clear T1 hb K1 B1
    go_wp2_with fail
    refine (K2.out _ (T2.out.alloc _)).mono ?_
    rintro e' w3 ⟨rfl, hb⟩
    have B3 := below_via B2 B2.size hb
    have T3 := Lib.hid ((T2.out.alloc _).to hb)
    have P3 := Lib.hid (below_new hb)
    clear T2 hb K2 B2
    go_wp2_with fail
    refine (example_keep _ (T3.out.alloc _)).mono ?_
    rintro e' w4 ⟨rfl, hb⟩
    have B4 := below_via B3 B3.size hb
    obtain ⟨a0, a1⟩ := two_at (below_old hb P3.out)
    obtain ⟨c0, c1⟩ := two_at (below_new hb)
    clear T3 hb B3 P3
    go_wp2_with fail
    go_ret
    exact ⟨rfl, B4⟩
  · rw [h1] at K1; rw [h2] at K2
    have hbd := pos_bd h1
    have hbd2 := pos_bd h2
    obtain ⟨_, _, r1⟩ := round_trip h1
    obtain ⟨_, _, r2⟩ := round_trip h2
    have K3 := Lib.hid (fun W (hW : Tabs W) => off_true t L x W (by omega) hW (by omega) (by omega))
    have K4 := Lib.hid (fun W (hW : Tabs W) => off_false t L y W (by omega) hW (by omega) (by omega))
    rw [r1] at K3; rw [r2] at K4
    clear h1 h2 hc hbd hbd2 r1 r2
    go_enter Tryd.func4, Tryd.ntmps4
    go_wp2_with fail
    refine (example_keep w T0.out).mono ?_
    rintro e' w1 ⟨rfl, hb⟩
    have B1 := hb
    have T1 := Lib.hid (T0.out.to hb)
    clear T0 hb
    go_wp2_with fail
    refine (HSH.out _).mono ?_
    rintro e' w' ⟨rfl, rfl⟩
    go_wp2_with fail
    refine (K1.out _ T1.out).mono ?_
    rintro e' w2 ⟨rfl, hb⟩
    have B2 := B1.trans (hb.mono B1.size)
    have T2 := Lib.hid (T1.out.to hb)
    clear T1 hb K1 B1
    go_wp2_with fail
    refine (K2.out _ (T2.out.alloc _)).mono ?_
    rintro e' w3 ⟨rfl, hb⟩
    have B3 := below_via B2 B2.size hb
    have T3 := Lib.hid ((T2.out.alloc _).to hb)
    have P3 := Lib.hid (below_new hb)
    clear T2 hb K2 B2
    go_wp2_with fail
    refine (example_keep _ (T3.out.alloc _)).mono ?_
    rintro e' w4 ⟨rfl, hb⟩
    have B4 := below_via B3 B3.size hb
    have T4 := Lib.hid ((T3.out.alloc _).to hb)
    have P4 := Lib.hid (below_old hb P3.out)
    have Q4 := Lib.hid (below_new hb)
    clear T3 hb B3 P3
    obtain ⟨a0, a1⟩ := two_at P4.out
    go_wp2_with fail
    refine (K3.out _ T4.out).mono ?_
    rintro e' w5 ⟨rfl, hb⟩
    have B5 := B4.trans (hb.mono B4.size)
    have T5 := Lib.hid (T4.out.to hb)
    have P5 := Lib.hid (below_kept hb P4.out)
    have Q5 := Lib.hid (below_kept hb Q4.out)
    clear T4 hb B4 P4 Q4 K3 a0 a1
    obtain ⟨a0, a1⟩ := two_at Q5.out
    go_wp2_with fail
    refine (K4.out _ T5.out).mono ?_
    rintro e' w6 ⟨rfl, hb⟩
    have B6 := B5.trans (hb.mono B5.size)
    obtain ⟨c0, c1⟩ := two_at (below_kept hb P5.out)
    obtain ⟨d0, d1⟩ := two_at (below_kept hb Q5.out)
    clear T5 hb B5 P5 Q5 K4 a0 a1
    go_wp2_with fail
    go_ret
    exact ⟨rfl, B6⟩
end Go.Proofs.YtmdfkahodbfjnaaDoor.lawTrip
