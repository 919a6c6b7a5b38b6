/-
  For every source (cut to 300 bytes as the law cuts it), every offset and every position, LineStarts and the four conversions return what the reference returns, errors included: PositionReference.
-/
import Derived.Test.YtmdfkahodbfjnaaDoorRpos
import Derived.Test.YtmdfkahodbfjnaaDoorRoff
namespace Go.Proofs.YtmdfkahodbfjnaaDoor.lawRef
open Go.RowKit

/-- Both cells of a block stored anew: that block, another one, what lies below. -/
theorem set_both {W : World} {b : Nat} {v0 v1 u0 u1 : Value} (h : W.heap[b]? = some (.cells #[v0, v1] 23 (0, 0))) : ((W.setCell ⟨b, 0, none⟩ u0).setCell ⟨b, 1, none⟩ u1).heap[b]? = some (.cells #[u0, u1] 23 (0, 0)) := set_two1 (set_two0 h)
theorem set_other {W : World} {b b' : Nat} {u0 u1 : Value} {o : Obj} (h : W.heap[b']? = some o) (hb : b' ≠ b) : ((W.setCell ⟨b, 0, none⟩ u0).setCell ⟨b, 1, none⟩ u1).heap[b']? = some o := by
  rw [Below.heap_setCell _ _ _ _ hb, Below.heap_setCell _ _ _ _ hb]; exact h
theorem set_size {W : World} {b : Nat} {u0 u1 : Value} : ((W.setCell ⟨b, 0, none⟩ u0).setCell ⟨b, 1, none⟩ u1).heap.size = W.heap.size := by simp
theorem Tabs_set {W : World} {b : Nat} {u0 u1 : Value} (h : Tabs W) (hb : 3 ≤ b) : Tabs ((W.setCell ⟨b, 0, none⟩ u0).setCell ⟨b, 1, none⟩ u1) :=
  h.fwd hb (((Below.refl b W).setCell (p := ⟨b, 0, none⟩) (Nat.le_refl _) _).setCell (p := ⟨b, 1, none⟩) (Nat.le_refl _) _)
theorem below_set {B b : Nat} {w W : World} {u0 u1 : Value} (h : Below B w W) (hb : B ≤ b) : Below B w ((W.setCell ⟨b, 0, none⟩ u0).setCell ⟨b, 1, none⟩ u1) :=
  (h.setCell (p := ⟨b, 0, none⟩) hb _).setCell (p := ⟨b, 1, none⟩) hb _
theorem below_on {B : Nat} {w W W' : World} (h : Below B w W) (hz : B ≤ W.heap.size) (hb : Below W.heap.size W W') : Below B w W' := h.trans (hb.mono hz)

set_option maxHeartbeats 2000000 in
set_option maxRecDepth 100000 in
theorem walk (s : ByteArray) (off ln col : Int) (w : World) (hs : s.size ≤ maxLen) (ho : -9223372036854775808 ≤ off ∧ off ≤ 9223372036854775807) (hln : -9223372036854775808 ≤ ln ∧ ln ≤ 9223372036854775807) (hcol : -9223372036854775808 ≤ col ∧ col ≤ 9223372036854775807) (hT : Tabs w) :
    Calls Tryd.prog 3 #[.string s, .int .i64 off, .agg #[.int .i64 ln, .int .i64 col]] w fun e w' => e = .returned (.bool true) ∧ Below w.heap.size w w' := by
  have HSH := Lib.hid (fun W => short_law s W hs)
  have hc := cut_size s
  have T0 := Lib.hid hT
  clear hs hT
  obtain ⟨t, ht⟩ : ∃ t, t = cut s := ⟨_, rfl⟩
  rw [← ht] at hc HSH
  have K1 := Lib.hid (fun W => starts_any t W (by omega))
  have K2 := Lib.hid (fun W => rstarts_any t W (by omega))
  have hl := lst_length t t.size
  have hn := nl_le t t.size
  have hlz : (lst t t.size).length ≤ maxLen := by unfold maxLen; omega
  have K3 := Lib.hid (fun W a c b d h1 h2 => equal_ints (lst t t.size) a c b d W hlz h1 h2)
  have K4 := Lib.hid (fun W (hW : Tabs W) => pos_true t off W (by omega) hW ho)
  have K5 := Lib.hid (fun W => rposof_true t off W (by omega) ho)
  have K6 := Lib.hid (fun W (hW : Tabs W) => pos_false t off W (by omega) hW ho)
  have K7 := Lib.hid (fun W => rposof_false t off W (by omega) ho)
  have K8 := Lib.hid (fun W (hW : Tabs W) => off_true t ln col W (by omega) hW hln hcol)
  have K9 := Lib.hid (fun W => roffof_true t ln col W (by omega) hln hcol)
  have K10 := Lib.hid (fun W (hW : Tabs W) => off_false t ln col W (by omega) hW hln hcol)
  have K11 := Lib.hid (fun W => roffof_false t ln col W (by omega) hln hcol)
  clear ht hc hl hn hlz ho hln hcol
  generalize posV t true off = V1 at *
  generalize posV t false off = V2 at *
  generalize offV t true ln col = V3 at *
  generalize offV t false ln col = V4 at *
  generalize lst t t.size = zs at *
  obtain ⟨L, C, E⟩ := V1
  obtain ⟨M, D, F⟩ := V2
  obtain ⟨O, G⟩ := V3
  obtain ⟨P, H⟩ := V4
  go_enter Tryd.func3, Tryd.ntmps3
  go_wp2_with fail
  refine (example_law _ (T0.out.alloc _)).mono ?_
  rintro e' w1 ⟨rfl, hb⟩
  have B1 := below_via (Below.refl w.heap.size w) (Nat.le_refl _) hb
  have T1 := Lib.hid ((T0.out.alloc _).to hb)
  have P1 := Lib.hid (below_new hb)
  clear T0 hb
  go_wp2_with fail
  refine (HSH.out _).mono ?_
  rintro e' w' ⟨rfl, rfl⟩
  clear HSH
  go_wp2_with fail
  refine (K1.out _).mono ?_
  rintro e' w2 ⟨a1, c1, rfl, I2, hb⟩
  have B2 := B1.trans (hb.mono B1.size)
  have T2 := Lib.hid (T1.out.to hb)
  have P2 := Lib.hid (below_kept hb P1.out)
  clear T1 hb B1 P1 K1
  go_wp2_with fail
  refine (K2.out _).mono ?_
  rintro e' w3 ⟨a2, c2, rfl, J3, hb⟩
  have B3 := B2.trans (hb.mono B2.size)
  have T3 := Lib.hid (T2.out.to hb)
  have P3 := Lib.hid (below_kept hb P2.out)
  have I3 := Lib.hid (I2.out.to hb)
  clear T2 hb B2 P2 K2 I2
  go_wp2_with fail
  refine (K3.out _ _ _ _ _ I3.out J3.out).mono ?_
  rintro e' w4 ⟨rfl, hb⟩
  have B4 := B3.trans (hb.mono B3.size)
  have T4 := Lib.hid (T3.out.to hb)
  have P4 := Lib.hid (below_kept hb P3.out)
  clear T3 hb B3 P3 K3 I3 J3
  go_wp2_with fail
  refine (K4.out _ T4.out).mono ?_
  rintro e' w5 ⟨rfl, hb⟩
  have B5 := B4.trans (hb.mono B4.size)
  have T5 := Lib.hid (T4.out.to hb)
  have P5 := Lib.hid (below_kept hb P4.out)
  clear T4 hb B4 P4 K4
  go_wp2_with fail
  refine (K5.out _).mono ?_
  rintro e' w6 ⟨rfl, hb⟩
  have B6 := below_via B5 B5.size hb
  have T6 := Lib.hid ((T5.out.alloc _).to hb)
  have P6 := Lib.hid (below_old hb P5.out)
  have Q6 := Lib.hid (below_new hb)
  have hpb : w.heap.size < w5.heap.size := lt_of_block P5.out
  have HPB := Lib.hid hpb
  have HP3 := Lib.hid T5.out.2
  clear T5 hb B5 P5 K5 hpb
  obtain ⟨x0, x1⟩ := two_at ((Below.heap_alloc w6 (.cells #[.int .i64 L, .int .i64 C] 23) _ (lt_of_block Q6.out)).trans Q6.out)
  go_wp2_with fail
  refine (K6.out _ (T6.out.alloc _)).mono ?_
  rintro e' w7 ⟨rfl, hb⟩
  have B7 := below_via B6 B6.size hb
  have T7 := Lib.hid ((T6.out.alloc _).to hb)
  have P7 := Lib.hid (below_old hb P6.out)
  have Q7 := Lib.hid (below_old hb Q6.out)
  have R7 := Lib.hid (below_new hb)
  have HQB := Lib.hid (lt_of_block Q6.out)
  clear T6 hb B6 P6 Q6 K6 x0 x1
  obtain ⟨x0, x1⟩ := two_at Q7.out
  have f0 := Lib.frozen_of_heap Q7.out 0
  have f1 := Lib.frozen_of_heap Q7.out 1
  go_wp2_with fail
  refine (K7.out _).mono ?_
  rintro e' w8 ⟨rfl, hb⟩
  have B8 := below_on (below_set B7 (Nat.le_of_lt HPB.out)) (by rw [set_size]; exact B7.size) hb
  have T8 := Lib.hid ((Tabs_set T7.out HP3.out).to hb)
  have P8 := Lib.hid (below_kept hb (set_other P7.out (Nat.ne_of_lt HPB.out)))
  have Q8 := Lib.hid (below_kept hb (set_both Q7.out))
  have R8 := Lib.hid (below_kept hb (set_other R7.out (Nat.ne_of_gt HQB.out)))
  clear T7 hb B7 P7 Q7 R7 K7 x0 x1 f0 f1
  have HR3 : Hid (3 ≤ w6.heap.size) := Nat.le_trans HP3.out (Nat.le_of_lt HQB.out)
  have HRB : Hid (w.heap.size < w6.heap.size) := Nat.lt_trans HPB.out HQB.out
  obtain ⟨y0, y1⟩ := two_at R8.out
  have f0 := Lib.frozen_of_heap R8.out 0
  have f1 := Lib.frozen_of_heap R8.out 1
  obtain ⟨x0, x1⟩ := two_at (set_other (b := w6.heap.size) (u0 := .int .i64 M) (u1 := .int .i64 D) Q8.out (Nat.ne_of_lt HQB.out))
  obtain ⟨p0, p1⟩ := two_at (set_other (b := w6.heap.size) (u0 := .int .i64 M) (u1 := .int .i64 D) P8.out (Nat.ne_of_lt HRB.out))
  obtain ⟨r0, r1⟩ := two_at (set_both (u0 := .int .i64 M) (u1 := .int .i64 D) R8.out)
  go_wp2_with fail
  refine (K8.out _ (Tabs_set T8.out HR3.out)).mono ?_
  rintro e' w9 ⟨rfl, hb⟩
  have B9 := below_on (below_set B8 (Nat.le_of_lt HRB.out)) (by rw [set_size]; exact B8.size) hb
  have T9 := Lib.hid ((Tabs_set T8.out HR3.out).to hb)
  have P9 := Lib.hid (below_kept hb (set_other P8.out (Nat.ne_of_lt HRB.out)))
  clear T8 hb B8 P8 Q8 R8 K8 x0 x1 y0 y1 r0 r1 p0 p1 f0 f1
  obtain ⟨p0, p1⟩ := two_at P9.out
  go_wp2_with fail
  refine (K9.out _).mono ?_
  rintro e' w10 ⟨rfl, hb⟩
  have B10 := B9.trans (hb.mono B9.size)
  have T10 := Lib.hid (T9.out.to hb)
  have P10 := Lib.hid (below_kept hb P9.out)
  clear T9 hb B9 P9 K9 p0 p1
  obtain ⟨p0, p1⟩ := two_at P10.out
  go_wp2_with fail
  refine (K10.out _ T10.out).mono ?_
  rintro e' w11 ⟨rfl, hb⟩
  have B11 := B10.trans (hb.mono B10.size)
  have P11 := Lib.hid (below_kept hb P10.out)
  clear T10 hb B10 P10 K10 p0 p1
  obtain ⟨p0, p1⟩ := two_at P11.out
  go_wp2_with fail
  refine (K11.out _).mono ?_
  rintro e' w12 ⟨rfl, hb⟩
  have B12 := B11.trans (hb.mono B11.size)
  clear hb B11 P11 K11 p0 p1
  go_wp2_with fail
  go_ret
  exact ⟨rfl, B12⟩
end Go.Proofs.YtmdfkahodbfjnaaDoor.lawRef
