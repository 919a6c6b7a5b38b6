/-
  For a byte that both lists retain, mapping through a composed list equals mapping through both lists in sequence: AnchorComposeAgrees, for every source, every two lists of edits and every offset.
-/
import Derived.Test.YtdmmoknddkfnmaaAgreePure
import Derived.Test.YtdmmoknddkfnmaaAEx
namespace Go.Proofs.Ytdmmoknddkfnmaa.lawAgree
open Go.RowKit

theorem map_any' (a : Option Addr) (cap : Nat) (l : List Ed) (o : Int) (hl : l.length ≤ maxLen) (ho : -9223372036854775808 ≤ o ∧ o ≤ 9223372036854775807) (m : Int) (hm : wrap64 (mp o true l) = m) (he : errM l o = 0) (W : World) (hW : Eds W W.heap.size a l) :
    Calls Try.prog 9 #[.slice a l.length cap, .int .i64 o, .bool true] W fun e w' => e = .returned (.tuple #[.int .i64 m, .int .i64 0]) ∧ Below W.heap.size W w' := by
  have := map_any a cap l o true W hl ho hW
  rw [mapV_ok he, hm, he] at this
  exact this

set_option maxHeartbeats 2000000 in
set_option maxRecDepth 100000 in
theorem walk (s : ByteArray) (a : Option Addr) (cap : Nat) (l : List Ed) (a2 : Option Addr) (cap2 : Nat) (l2 : List Ed) (n : Int) (w : World) (hs : s.size ≤ maxLen) (hl : l.length ≤ maxLen) (hl2 : l2.length ≤ maxLen) (h1 : -9223372036854775808 ≤ n ∧ n ≤ 9223372036854775807) (h : Eds w w.heap.size a l) (hh : Eds w w.heap.size a2 l2) :
    Calls Try.prog 6 #[.string s, .slice a l.length cap, .slice a2 l2.length cap2, .int .i64 n] w fun e w' => e = .returned (.bool true) ∧ Below w.heap.size w w' := by
  have E0 := Lib.hid h
  have G0 := Lib.hid hh
  have HL := Lib.hid hl
  have HL2 := Lib.hid hl2
  have HS := Lib.hid hs
  have HN1 := Lib.hid h1
  clear hl h hs h1 hh hl2
  by_cases he : compErr s l l2 = 0
  rotate_left
  · have K1 := Lib.hid (fun w (hE : Eds w w.heap.size a l) (hG : Eds w w.heap.size a2 l2) => compose_fails s a cap l a2 cap2 l2 he HS.out HL.out HL2.out w hE hG)
    have K2 : Hid (∀ W, Eds W W.heap.size a l → Calls Try.prog 9 #[.slice a l.length cap, .int .i64 n, .bool true] W fun e w' => e = .returned (.tuple #[.int .i64 (mapV l n true), .int .i64 (errM l n)]) ∧ Below W.heap.size W w') := fun W hW => map_any a cap l n true W HL.out HN1.out hW
    have hv : (compErr s l l2 != 0) = true := by simpa using he
    clear he
    generalize compErr s l l2 = v at *
    generalize errM l n = v2 at *
    generalize mapV l n true = v3 at *
    go_enter Try.func6, Try.ntmps6
    go_wp2_with fail
    refine (exa_keep w).mono ?_
    rintro e w1 ⟨rfl, hb⟩
    have B1 := hb
    have E1 := Lib.hid (E0.out.fwd hb)
    have G1 := Lib.hid (G0.out.fwd hb)
    clear E0 G0 hb
    go_wp2_with fail
    refine (K1.out w1 E1.out G1.out).mono ?_
    rintro e w2 ⟨b1, b2, rfl, hb⟩
    have B2 := B1.trans (hb.mono B1.size)
    have E2 := Lib.hid (E1.out.fwd hb)
    have G2 := Lib.hid (G1.out.fwd hb)
    clear E1 G1 hb B1 K1
    go_wp2_with fail
    refine (K2.out w2 E2.out).mono ?_
    rintro e w3 ⟨rfl, hb⟩
    have B3 := B2.trans (hb.mono B2.size)
    have E3 := Lib.hid (E2.out.fwd hb)
    have G3 := Lib.hid (G2.out.fwd hb)
    clear E2 G2 hb B2 K2
    go_wp2_with fail
    refine (exa_keep w3).mono ?_
    rintro e w4 ⟨rfl, hb⟩
    have B4 := B3.trans (hb.mono B3.size)
    clear E3 G3 hb B3
    go_wp2_with fail
    go_ret
    exact ⟨rfl, B4⟩
  have HE := Lib.hid he
  clear he
  have K1 := Lib.hid (fun w (hE : Eds w w.heap.size a l) (hG : Eds w w.heap.size a2 l2) => compose_zero s a cap l a2 cap2 l2 HE.out HS.out HL.out HL2.out w hE hG)
  have H1 := Lib.hid (comp_zero HE.out)
  have hl5 : l.length ≤ 50 := (errV_zero H1.out.1).2.1
  have hm5 : l2.length ≤ 50 := (errV_zero H1.out.2.1).2.1
  have hs5 : s.size ≤ 2000 := by have := (errV_zero H1.out.1).1; omega
  by_cases c1 : n < 0
  · have HM := Lib.hid (errM_neg (errV_errA H1.out.1) c1)
    have K2 : Hid (∀ W, Eds W W.heap.size a l → Calls Try.prog 9 #[.slice a l.length cap, .int .i64 n, .bool true] W fun e w' => e = .returned (.tuple #[.int .i64 (mapV l n true), .int .i64 1]) ∧ Below W.heap.size W w') := fun W hW => HM.out ▸ map_any a cap l n true W HL.out HN1.out hW
    clear HM HE HL HL2 HS HN1 H1
    generalize compL s l l2 = C at *
    generalize mapV l n true = v3 at *
    go_enter Try.func6, Try.ntmps6
    go_wp2_with fail
    refine (exa_keep w).mono ?_
    rintro e w1 ⟨rfl, hb⟩
    have B1 := hb
    have E1 := Lib.hid (E0.out.fwd hb)
    have G1 := Lib.hid (G0.out.fwd hb)
    clear E0 G0 hb
    go_wp2_with fail
    refine (K1.out w1 E1.out G1.out).mono ?_
    rintro e w2 ⟨b1, b2, rfl, F2, hb⟩
    have B2 := B1.trans (hb.mono B1.size)
    have E2 := Lib.hid (E1.out.fwd hb)
    have G2 := Lib.hid (G1.out.fwd hb)
    clear E1 G1 hb B1 K1
    go_wp2_with fail
    refine (K2.out w2 E2.out).mono ?_
    rintro e w3 ⟨rfl, hb⟩
    have B3 := B2.trans (hb.mono B2.size)
    have E3 := Lib.hid (E2.out.fwd hb)
    have G3 := Lib.hid (G2.out.fwd hb)
    have F3 := Lib.hid (F2.out.fwd hb)
    clear E2 G2 F2 hb B2 K2
    go_wp2_with fail
    refine (exa_keep w3).mono ?_
    rintro e w4 ⟨rfl, hb⟩
    have B4 := B3.trans (hb.mono B3.size)
    clear E3 G3 F3 hb B3
    go_wp2_with fail
    go_ret
    exact ⟨rfl, B4⟩
  obtain ⟨k, rfl⟩ : ∃ k : Nat, n = k := ⟨n.toNat, by omega⟩
  have HM := Lib.hid (errM_ok (l := l) (o := (k : Int)) (errV_errA H1.out.1) (by omega))
  have K2 : Hid (∀ W, Eds W W.heap.size a l → Calls Try.prog 9 #[.slice a l.length cap, .int .i64 (k : Int), .bool true] W fun e w' => e = .returned (.tuple #[.int .i64 (wrap64 (mp k true l)), .int .i64 0]) ∧ Below W.heap.size W w') := fun W hW => map_any' a cap l k HL.out HN1.out _ rfl HM.out W hW
  by_cases c2 : (s.size : Int) ≤ k
  · clear HM HE HL HL2 HS HN1 H1
    generalize compL s l l2 = C at *
    generalize wrap64 (mp k true l) = v3 at *
    go_enter Try.func6, Try.ntmps6
    go_wp2_with fail
    refine (exa_keep w).mono ?_
    rintro e w1 ⟨rfl, hb⟩
    have B1 := hb
    have E1 := Lib.hid (E0.out.fwd hb)
    have G1 := Lib.hid (G0.out.fwd hb)
    clear E0 G0 hb
    go_wp2_with fail
    refine (K1.out w1 E1.out G1.out).mono ?_
    rintro e w2 ⟨b1, b2, rfl, F2, hb⟩
    have B2 := B1.trans (hb.mono B1.size)
    have E2 := Lib.hid (E1.out.fwd hb)
    have G2 := Lib.hid (G1.out.fwd hb)
    clear E1 G1 hb B1 K1
    go_wp2_with fail
    refine (K2.out w2 E2.out).mono ?_
    rintro e w3 ⟨rfl, hb⟩
    have B3 := B2.trans (hb.mono B2.size)
    have E3 := Lib.hid (E2.out.fwd hb)
    have G3 := Lib.hid (G2.out.fwd hb)
    have F3 := Lib.hid (F2.out.fwd hb)
    clear E2 G2 F2 hb B2 K2
    go_wp2_with fail
    refine (exa_keep w3).mono ?_
    rintro e w4 ⟨rfl, hb⟩
    have B4 := B3.trans (hb.mono B3.size)
    clear E3 G3 F3 hb B3
    go_wp2_with fail
    go_ret
    exact ⟨rfl, B4⟩
  have D1 := Lib.hid (fun W (hW : Eds W W.heap.size a l) => delat_any a cap l (k : Int) W (by omega) hW)
  cases hd : delAt l k with
  | true =>
    rw [hd] at D1
    clear hd HM HE HL HL2 HS HN1 H1
    generalize compL s l l2 = C at *
    generalize wrap64 (mp k true l) = v3 at *
    go_enter Try.func6, Try.ntmps6
    go_wp2_with fail
    refine (exa_keep w).mono ?_
    rintro e w1 ⟨rfl, hb⟩
    have B1 := hb
    have E1 := Lib.hid (E0.out.fwd hb)
    have G1 := Lib.hid (G0.out.fwd hb)
    clear E0 G0 hb
    go_wp2_with fail
    refine (K1.out w1 E1.out G1.out).mono ?_
    rintro e w2 ⟨b1, b2, rfl, F2, hb⟩
    have B2 := B1.trans (hb.mono B1.size)
    have E2 := Lib.hid (E1.out.fwd hb)
    have G2 := Lib.hid (G1.out.fwd hb)
    clear E1 G1 hb B1 K1
    go_wp2_with fail
    refine (K2.out w2 E2.out).mono ?_
    rintro e w3 ⟨rfl, hb⟩
    have B3 := B2.trans (hb.mono B2.size)
    have E3 := Lib.hid (E2.out.fwd hb)
    have G3 := Lib.hid (G2.out.fwd hb)
    have F3 := Lib.hid (F2.out.fwd hb)
    clear E2 G2 F2 hb B2 K2
    go_wp2_with fail
    refine (D1.out w3 E3.out).mono ?_
    rintro e w3 ⟨rfl, rfl⟩
    clear D1
    go_wp2_with fail
    refine (exa_keep w3).mono ?_
    rintro e w4 ⟨rfl, hb⟩
    have B4 := B3.trans (hb.mono B3.size)
    clear E3 G3 F3 hb B3
    go_wp2_with fail
    go_ret
    exact ⟨rfl, B4⟩
  | false =>
    rw [hd] at D1
    have hmap := map_valid (r := true) H1.out.1 (o := (k : Int)) (by omega) (by omega)
    have hmw : Hid (wrap64 (mp k true l) = mp k true l) := w_id (by omega)
    rw [hmw.out] at K2
    have D2 := Lib.hid (fun W (hW : Eds W W.heap.size a2 l2) => delat_any a2 cap2 l2 (mp k true l) W (by omega) hW)
    cases hd2 : delAt l2 (mp k true l) with
    | true =>
      rw [hd2] at D2
      clear hd hd2 HM HE HL HL2 HS HN1 H1 hmap hmw
      generalize compL s l l2 = C at *
      generalize mp k true l = v3 at *
      go_enter Try.func6, Try.ntmps6
      go_wp2_with fail
      refine (exa_keep w).mono ?_
      rintro e w1 ⟨rfl, hb⟩
      have B1 := hb
      have E1 := Lib.hid (E0.out.fwd hb)
      have G1 := Lib.hid (G0.out.fwd hb)
      clear E0 G0 hb
      go_wp2_with fail
      refine (K1.out w1 E1.out G1.out).mono ?_
      rintro e w2 ⟨b1, b2, rfl, F2, hb⟩
      have B2 := B1.trans (hb.mono B1.size)
      have E2 := Lib.hid (E1.out.fwd hb)
      have G2 := Lib.hid (G1.out.fwd hb)
      clear E1 G1 hb B1 K1
      go_wp2_with fail
      refine (K2.out w2 E2.out).mono ?_
      rintro e w3 ⟨rfl, hb⟩
      have B3 := B2.trans (hb.mono B2.size)
      have E3 := Lib.hid (E2.out.fwd hb)
      have G3 := Lib.hid (G2.out.fwd hb)
      have F3 := Lib.hid (F2.out.fwd hb)
      clear E2 G2 F2 hb B2 K2
      go_wp2_with fail
      refine (D1.out w3 E3.out).mono ?_
      rintro e w3 ⟨rfl, rfl⟩
      clear D1
      go_wp2_with fail
      refine (D2.out w3 G3.out).mono ?_
      rintro e w3 ⟨rfl, rfl⟩
      clear D2
      go_wp2_with fail
      refine (exa_keep w3).mono ?_
      rintro e w4 ⟨rfl, hb⟩
      have B4 := B3.trans (hb.mono B3.size)
      clear E3 G3 F3 hb B3
      go_wp2_with fail
      go_ret
      exact ⟨rfl, B4⟩
    | false =>
      rw [hd2] at D2
      have ha := agree HE.out (o := k) (by omega) hd hd2
      have K5 : Hid (∀ W, Eds W W.heap.size a2 l2 → Calls Try.prog 9 #[.slice a2 l2.length cap2, .int .i64 (mp k true l), .bool true] W fun e w' => e = .returned (.tuple #[.int .i64 (mp (mp k true l) true l2), .int .i64 0]) ∧ Below W.heap.size W w') := fun W hW => map_any' a2 cap2 l2 (mp k true l) HL2.out (by omega) _ (w_id (by omega)) (errM_ok (errV_errA H1.out.2.1) (by omega)) W hW
      have K6 : Hid (∀ b c W, Eds W W.heap.size b (compL s l l2) → Calls Try.prog 9 #[.slice b (compL s l l2).length c, .int .i64 k, .bool true] W fun e w' => e = .returned (.tuple #[.int .i64 (mp (mp k true l) true l2), .int .i64 0]) ∧ Below W.heap.size W w') := fun b c W hW =>
        map_any' b c (compL s l l2) k (by have := H1.out.2.2.1; have := HL.out; unfold maxLen; omega) HN1.out _ (by rw [ha.2.2.2.2]; exact w_id (by omega)) (errM_ok (errV_errA (comp_valid HE.out).1) (by omega)) W hW
      clear hd hd2 HM HE HL HL2 HS HN1 H1 hmap hmw ha
      generalize compL s l l2 = C at *
      generalize mp (mp k true l) true l2 = v4 at *
      generalize mp k true l = v3 at *
      go_enter Try.func6, Try.ntmps6
      go_wp2_with fail
      refine (exa_keep w).mono ?_
      rintro e w1 ⟨rfl, hb⟩
      have B1 := hb
      have E1 := Lib.hid (E0.out.fwd hb)
      have G1 := Lib.hid (G0.out.fwd hb)
      clear E0 G0 hb
      go_wp2_with fail
      refine (K1.out w1 E1.out G1.out).mono ?_
      rintro e w2 ⟨b1, b2, rfl, F2, hb⟩
      have B2 := B1.trans (hb.mono B1.size)
      have E2 := Lib.hid (E1.out.fwd hb)
      have G2 := Lib.hid (G1.out.fwd hb)
      clear E1 G1 hb B1 K1
      go_wp2_with fail
      refine (K2.out w2 E2.out).mono ?_
      rintro e w3 ⟨rfl, hb⟩
      have B3 := B2.trans (hb.mono B2.size)
      have E3 := Lib.hid (E2.out.fwd hb)
      have G3 := Lib.hid (G2.out.fwd hb)
      have F3 := Lib.hid (F2.out.fwd hb)
      clear E2 G2 F2 hb B2 K2
      go_wp2_with fail
      refine (D1.out w3 E3.out).mono ?_
      rintro e w3 ⟨rfl, rfl⟩
      clear D1
      go_wp2_with fail
      refine (D2.out w3 G3.out).mono ?_
      rintro e w3 ⟨rfl, rfl⟩
      clear D2
      go_wp2_with fail
      refine (K5.out w3 G3.out).mono ?_
      rintro e w4 ⟨rfl, hb⟩
      have B4 := B3.trans (hb.mono B3.size)
      have F4 := Lib.hid (F3.out.fwd hb)
      clear E3 G3 F3 hb B3 K5
      go_wp2_with fail
      refine (K6.out _ _ w4 F4.out).mono ?_
      rintro e w5 ⟨rfl, hb⟩
      have B5 := B4.trans (hb.mono B4.size)
      clear F4 hb B4 K6
      go_wp2_with fail
      refine (exa_keep w5).mono ?_
      rintro e w6 ⟨rfl, hb⟩
      have B6 := B5.trans (hb.mono B5.size)
      clear hb B5
      go_wp2_with fail
      go_ret
      exact ⟨rfl, B6⟩
end Go.Proofs.Ytdmmoknddkfnmaa.lawAgree
