/-
  The positions before and after a retained byte are mapped to the positions before and after the same byte of the result: AnchorRetainedByte, for every source, every list of edits and every offset.
-/
import Derived.Test.YtdmmoknddkfnmaaKeepPure
import Derived.Test.YtdmmoknddkfnmaaAEx
import Derived.Test.YtdmmoknddkfnmaaApply
import Derived.Deep.RegionHeld3
namespace Go.Proofs.Ytdmmoknddkfnmaa.lawKeep
open Go.RowKit

theorem apply_v (s : ByteArray) (a : Option Addr) (cap : Nat) (l : List Ed) (hs : s.size ≤ maxLen) (hl : l.length ≤ maxLen) (he : errV s.size l = 0) (w : World) (h : Eds w w.heap.size a l) :
    Calls Try.prog 10 #[.string s, .slice a l.length cap] w fun e w' => e = .returned (.tuple #[.string ⟨(applyL s.data.toList l).toArray⟩, .int .i64 0]) ∧ Below w.heap.size w w' := apply_ok s a cap l w hs hl h he

set_option maxHeartbeats 1000000 in
set_option maxRecDepth 100000 in
theorem walk (s : ByteArray) (a : Option Addr) (cap : Nat) (l : List Ed) (n : Int) (w : World) (hs : s.size ≤ maxLen) (hl : l.length ≤ maxLen) (h1 : -9223372036854775808 ≤ n ∧ n ≤ 9223372036854775807) (h : Eds w w.heap.size a l) :
    Calls Try.prog 4 #[.string s, .slice a l.length cap, .int .i64 n] w fun e w' => e = .returned (.bool true) ∧ Below w.heap.size w w' := by
  have E0 := Lib.hid h
  have HL := Lib.hid hl
  have HS := Lib.hid hs
  have HN1 := Lib.hid h1
  clear hl h hs h1
  by_cases he : errV s.size l = 0
  rotate_left
  · have K1 : Hid (∀ W, Eds W W.heap.size a l → Calls Try.prog 10 #[.string s, .slice a l.length cap] W fun e w' => e = .returned (.tuple #[.string ⟨#[]⟩, .int .i64 (errV s.size l)]) ∧ Below W.heap.size W w') := fun W hW => apply_bad s a cap l W HS.out HL.out hW he
    have HE := Lib.hid he
    clear he
    generalize errV s.size l = v at *
    have hv : (v != 0) = true := by simpa using HE.out
    go_enter Try.func4, Try.ntmps4
    go_wp2_with fail
    refine (exa_keep w).mono ?_
    rintro e w1 ⟨rfl, hb⟩
    have B1 := hb
    have E1 := Lib.hid (E0.out.fwd hb)
    clear E0 hb
    go_wp2_with fail
    refine (K1.out w1 E1.out).mono ?_
    rintro e w2 ⟨rfl, hb⟩
    have B2 := B1.trans (hb.mono B1.size)
    have E2 := Lib.hid (E1.out.fwd hb)
    clear E1 hb B1 K1
    go_wp2_with fail
    refine (exa_keep w2).mono ?_
    rintro e w3 ⟨rfl, hb⟩
    have B3 := B2.trans (hb.mono B2.size)
    clear E2 hb B2
    go_wp2_with fail
    go_ret
    exact ⟨rfl, B3⟩
  have K1 : Hid (∀ W, Eds W W.heap.size a l → Calls Try.prog 10 #[.string s, .slice a l.length cap] W fun e w' => e = .returned (.tuple #[.string ⟨(applyL s.data.toList l).toArray⟩, .int .i64 0]) ∧ Below W.heap.size W w') := fun W hW => apply_ok s a cap l W HS.out HL.out hW he
  have HE := Lib.hid he
  have hl5 : Hid (l.length ≤ 50 ∧ s.size ≤ 2000) := ⟨(errV_zero he).2.1, by have := (errV_zero he).1; omega⟩
  have HA := Lib.hid (errV_errA he)
  clear he
  by_cases c1 : n < 0
  · generalize (⟨(applyL s.data.toList l).toArray⟩ : ByteArray) = R at *
    go_enter Try.func4, Try.ntmps4
    go_wp2_with fail
    refine (exa_keep w).mono ?_
    rintro e w1 ⟨rfl, hb⟩
    have B1 := hb
    have E1 := Lib.hid (E0.out.fwd hb)
    clear E0 hb
    go_wp2_with fail
    refine (K1.out w1 E1.out).mono ?_
    rintro e w2 ⟨rfl, hb⟩
    have B2 := B1.trans (hb.mono B1.size)
    have E2 := Lib.hid (E1.out.fwd hb)
    clear E1 hb B1 K1
    go_wp2_with fail
    refine (exa_keep w2).mono ?_
    rintro e w3 ⟨rfl, hb⟩
    have B3 := B2.trans (hb.mono B2.size)
    clear E2 hb B2
    go_wp2_with fail
    go_ret
    exact ⟨rfl, B3⟩
  obtain ⟨k, rfl⟩ : ∃ k : Nat, n = k := ⟨n.toNat, by omega⟩
  by_cases c2 : (s.size : Int) ≤ k
  · generalize (⟨(applyL s.data.toList l).toArray⟩ : ByteArray) = R at *
    go_enter Try.func4, Try.ntmps4
    go_wp2_with fail
    refine (exa_keep w).mono ?_
    rintro e w1 ⟨rfl, hb⟩
    have B1 := hb
    have E1 := Lib.hid (E0.out.fwd hb)
    clear E0 hb
    go_wp2_with fail
    refine (K1.out w1 E1.out).mono ?_
    rintro e w2 ⟨rfl, hb⟩
    have B2 := B1.trans (hb.mono B1.size)
    have E2 := Lib.hid (E1.out.fwd hb)
    clear E1 hb B1 K1
    go_wp2_with fail
    refine (exa_keep w2).mono ?_
    rintro e w3 ⟨rfl, hb⟩
    have B3 := B2.trans (hb.mono B2.size)
    clear E2 hb B2
    go_wp2_with fail
    go_ret
    exact ⟨rfl, B3⟩
  have D := Lib.hid (fun W (hW : Eds W W.heap.size a l) => delat_any a cap l (k : Int) W (by have := hl5.out.1; omega) hW)
  cases hd : delAt l k with
  | true =>
    generalize (⟨(applyL s.data.toList l).toArray⟩ : ByteArray) = R at *
    rw [hd] at D
    clear hd
    go_enter Try.func4, Try.ntmps4
    go_wp2_with fail
    refine (exa_keep w).mono ?_
    rintro e w1 ⟨rfl, hb⟩
    have B1 := hb
    have E1 := Lib.hid (E0.out.fwd hb)
    clear E0 hb
    go_wp2_with fail
    refine (K1.out w1 E1.out).mono ?_
    rintro e w2 ⟨rfl, hb⟩
    have B2 := B1.trans (hb.mono B1.size)
    have E2 := Lib.hid (E1.out.fwd hb)
    clear E1 hb B1 K1
    go_wp2_with fail
    refine (D.out w2 E2.out).mono ?_
    rintro e w2 ⟨rfl, rfl⟩
    clear D
    go_wp2_with fail
    refine (exa_keep w2).mono ?_
    rintro e w3 ⟨rfl, hb⟩
    have B3 := B2.trans (hb.mono B2.size)
    clear E2 hb B2
    go_wp2_with fail
    go_ret
    exact ⟨rfl, B3⟩
  | false =>
    rw [hd] at D
    obtain ⟨m, m1, m2, m3, m4⟩ := kept_byte (src := s.data.toList) (o := k) (l := l) (by rw [← Lib.size_eq]; exact HE.out) (by rw [← Lib.size_eq]; omega) hd
    clear hd
    obtain ⟨R, hR⟩ : ∃ R : ByteArray, R = ⟨(applyL s.data.toList l).toArray⟩ := ⟨_, rfl⟩
    have hRs : R.size = (applyL s.data.toList l).length := by rw [hR]; rfl
    have hRl : R.size ≤ 2000 := by rw [hRs]; exact apply_le (by rw [← Lib.size_eq]; exact HE.out)
    have c3 : m < R.size := by omega
    have c4 : k < s.size := by omega
    have c5 : s.size ≤ 2000 := hl5.out.2
    have hbyte : R[m] = s[k] := by
      have e1 : R.data.toList[m]? = some R[m] := by rw [List.getElem?_eq_getElem (by simpa using c3)]; rfl
      have e2 : s.data.toList[k]? = some s[k] := by rw [List.getElem?_eq_getElem (by simpa using c4)]; rfl
      have e3 : R.data.toList = applyL s.data.toList l := by rw [hR]
      rw [e3, m4, e2] at e1
      exact (Option.some.inj e1).symm
    have hM0 := Lib.hid (errM_ok (l := l) (o := k) HA.out (by omega))
    have hM1 := Lib.hid (errM_ok (l := l) (o := (k : Int) + 1) HA.out (by omega))
    have hV0 : Hid (mapV l k true = m) := by show _ = _; rw [mapV_ok hM0.out, m1]; exact w_id (by omega)
    have hV1 : Hid (mapV l ((k : Int) + 1) false = m + 1) := by show _ = _; rw [mapV_ok hM1.out, m2]; exact w_id (by omega)
    have K2 : Hid (∀ W, Eds W W.heap.size a l → Calls Try.prog 9 #[.slice a l.length cap, .int .i64 k, .bool true] W fun e w' => e = .returned (.tuple #[.int .i64 m, .int .i64 0]) ∧ Below W.heap.size W w') := fun W hW => by
      have := map_any a cap l k true W HL.out HN1.out hW
      rw [hV0.out, hM0.out] at this
      exact this
    have K3 : Hid (∀ W, Eds W W.heap.size a l → Calls Try.prog 9 #[.slice a l.length cap, .int .i64 ((k : Int) + 1), .bool false] W fun e w' => e = .returned (.tuple #[.int .i64 (m + 1), .int .i64 0]) ∧ Below W.heap.size W w') := fun W hW => by
      have := map_any a cap l ((k : Int) + 1) false W HL.out (by omega) hW
      rw [hV1.out, hM1.out] at this
      exact this
    have HB := Lib.hid hbyte
    have wm : IntKind.i64.wrap ((m : Int) + 1) = (m : Int) + 1 := IntWalk.i64_in _ (by omega)
    rw [← hR] at K1
    clear hR hRs hM0 hM1 hV0 hV1 m1 m2 m3 m4 hbyte HE HA HL HN1 HS wm
    go_enter Try.func4, Try.ntmps4
    go_wp2_with fail
    refine (exa_keep w).mono ?_
    rintro e w1 ⟨rfl, hb⟩
    have B1 := hb
    have E1 := Lib.hid (E0.out.fwd hb)
    clear E0 hb
    go_wp2_with fail
    refine (K1.out w1 E1.out).mono ?_
    rintro e w2 ⟨rfl, hb⟩
    have B2 := B1.trans (hb.mono B1.size)
    have E2 := Lib.hid (E1.out.fwd hb)
    clear E1 hb B1 K1
    go_wp2_with fail
    refine (D.out w2 E2.out).mono ?_
    rintro e w2 ⟨rfl, rfl⟩
    clear D
    go_wp2_with fail
    refine (K2.out w2 E2.out).mono ?_
    rintro e w3 ⟨rfl, hb⟩
    have B3 := B2.trans (hb.mono B2.size)
    have E3 := Lib.hid (E2.out.fwd hb)
    clear E2 hb B2 K2
    go_wp2_with fail
    refine (K3.out w3 E3.out).mono ?_
    rintro e w4 ⟨rfl, hb⟩
    have B4 := B3.trans (hb.mono B3.size)
    clear E3 hb B3 K3
    go_wp2_with fail
    have wm : IntKind.i64.wrap ((m : Int) + 1) = (m : Int) + 1 := IntWalk.i64_in _ (by omega)
    go_region_held3 (fun w' => True) (trivial) ((go_at_call 8; refine (exa_keep _).mono ?_; rintro e w9 ⟨rfl, hb⟩))
    all_goals
      have B5 := B4.drew
      have B6 := B5.trans (hb.mono B5.size)
      clear hb B5 B4
      go_wp2_with fail
      go_ret
      refine ⟨?_, B6⟩
      show Ending.returned (Value.bool ((R[m].toNat : Int) == (s[k].toNat : Int))) = _
      rw [HB.out]; simp
end Go.Proofs.Ytdmmoknddkfnmaa.lawKeep
