/-
  An offset that no edit touches is restored by mapping it through the edits and then through their inverse: AnchorInvertRoundTrip, for every source, every list of edits, every offset and either gravity.
-/
import Derived.Test.YtdmmoknddkfnmaaBackPure
import Derived.Test.YtdmmoknddkfnmaaAEx
import Derived.Test.YtdmmoknddkfnmaaInvert
namespace Go.Proofs.Ytdmmoknddkfnmaa.lawBack
open Go.RowKit

set_option maxHeartbeats 1000000 in
set_option maxRecDepth 100000 in
theorem walk (s : ByteArray) (a : Option Addr) (cap : Nat) (l : List Ed) (n : Int) (r : Bool) (w : World) (hs : s.size ≤ maxLen) (hl : l.length ≤ maxLen) (h1 : -9223372036854775808 ≤ n ∧ n ≤ 9223372036854775807) (h : Eds w w.heap.size a l) :
    Calls Try.prog 5 #[.string s, .slice a l.length cap, .int .i64 n, .bool r] w fun e w' => e = .returned (.bool true) ∧ Below w.heap.size w w' := by
  have E0 := Lib.hid h
  have HL := Lib.hid hl
  have HS := Lib.hid hs
  have HN1 := Lib.hid h1
  clear hl h hs h1
  by_cases he : errV s.size l = 0
  rotate_left
  · have K1 : Hid (∀ W, Eds W W.heap.size a l → Calls Try.prog 12 #[.string s, .slice a l.length cap] W fun e w' => e = .returned (.tuple #[.slice none 0 0, .int .i64 (errV s.size l)]) ∧ Below W.heap.size W w') := fun W hW => invert_bad s a cap l W HS.out HL.out hW he
    have K2 : Hid (∀ W, Eds W W.heap.size a l → Calls Try.prog 9 #[.slice a l.length cap, .int .i64 n, .bool r] W fun e w' => e = .returned (.tuple #[.int .i64 (mapV l n r), .int .i64 (errM l n)]) ∧ Below W.heap.size W w') := fun W hW => map_any a cap l n r W HL.out HN1.out hW
    have HE := Lib.hid he
    clear he
    generalize errV s.size l = v at *
    generalize errM l n = v2 at *
    generalize mapV l n r = v3 at *
    have hv : (v != 0) = true := by simpa using HE.out
    go_enter Try.func5, Try.ntmps5
    go_wp2_with fail
    refine (exa_keep w).mono ?_
    rintro e w1 ⟨rfl, hb⟩
    have B1 := hb
    have E1 := Lib.hid (E0.out.fwd hb)
    clear E0 hb
    go_wp2_with fail
    refine (K1.out w1 E1.out).mono ?_
    rintro e w2 ⟨rfl, hb⟩
    have B2 := B1.trans (hb.mono B1.size)
    have E2 := Lib.hid (E1.out.fwd hb)
    clear E1 hb B1 K1
    go_wp2_with fail
    refine (K2.out w2 E2.out).mono ?_
    rintro e w3 ⟨rfl, hb⟩
    have B3 := B2.trans (hb.mono B2.size)
    clear E2 hb B2 K2
    go_wp2_with fail
    refine (exa_keep w3).mono ?_
    rintro e w4 ⟨rfl, hb⟩
    have B4 := B3.trans (hb.mono B3.size)
    clear hb B3
    go_wp2_with fail
    go_ret
    exact ⟨rfl, B4⟩
  have hl5 : l.length ≤ 50 := (errV_zero he).2.1
  have hs5 : s.size ≤ 2000 := by have := (errV_zero he).1; omega
  have HE := Lib.hid he
  clear he
  have K1 : Hid (∀ W, Eds W W.heap.size a l → Calls Try.prog 12 #[.string s, .slice a l.length cap] W fun e w' => ∃ b c, e = .returned (.tuple #[.slice b (invL s l).length c, .int .i64 0]) ∧ Hid (Eds w' w'.heap.size b (invL s l)) ∧ Below W.heap.size W w') := fun W hW => by
    refine (invert_ok s a cap l W HS.out HL.out hW HE.out).mono ?_
    rintro e w' ⟨v, rfl, ho, hb⟩
    obtain ⟨b, c, rfl, hE⟩ := ho.out.eds (valid_ok (by omega) (inv_valid HE.out))
    exact ⟨b, c, rfl, hE, hb⟩
  by_cases c1 : n < 0
  · have HM := Lib.hid (errM_neg (errV_errA HE.out) c1)
    have K2 : Hid (∀ W, Eds W W.heap.size a l → Calls Try.prog 9 #[.slice a l.length cap, .int .i64 n, .bool r] W fun e w' => e = .returned (.tuple #[.int .i64 (mapV l n r), .int .i64 1]) ∧ Below W.heap.size W w') := fun W hW => HM.out ▸ map_any a cap l n r W HL.out HN1.out hW
    clear HM HE HL HS HN1
    generalize invL s l = I at *
    generalize mapV l n r = v3 at *
    go_enter Try.func5, Try.ntmps5
    go_wp2_with fail
    refine (exa_keep w).mono ?_
    rintro e w1 ⟨rfl, hb⟩
    have B1 := hb
    have E1 := Lib.hid (E0.out.fwd hb)
    clear E0 hb
    go_wp2_with fail
    refine (K1.out w1 E1.out).mono ?_
    rintro e w2 ⟨b1, b2, rfl, F2, hb⟩
    have B2 := B1.trans (hb.mono B1.size)
    have E2 := Lib.hid (E1.out.fwd hb)
    clear E1 hb B1 K1
    go_wp2_with fail
    refine (K2.out w2 E2.out).mono ?_
    rintro e w3 ⟨rfl, hb⟩
    have B3 := B2.trans (hb.mono B2.size)
    clear E2 F2 hb B2 K2
    go_wp2_with fail
    refine (exa_keep w3).mono ?_
    rintro e w4 ⟨rfl, hb⟩
    have B4 := B3.trans (hb.mono B3.size)
    clear hb B3
    go_wp2_with fail
    go_ret
    exact ⟨rfl, B4⟩
  by_cases c2 : (s.size : Int) < n
  · have HM := Lib.hid (errM_ok (o := n) (errV_errA HE.out) c1)
    have K2 : Hid (∀ W, Eds W W.heap.size a l → Calls Try.prog 9 #[.slice a l.length cap, .int .i64 n, .bool r] W fun e w' => e = .returned (.tuple #[.int .i64 (mapV l n r), .int .i64 0]) ∧ Below W.heap.size W w') := fun W hW => HM.out ▸ map_any a cap l n r W HL.out HN1.out hW
    clear HM HE HL HS HN1
    generalize invL s l = I at *
    generalize mapV l n r = v3 at *
    go_enter Try.func5, Try.ntmps5
    go_wp2_with fail
    refine (exa_keep w).mono ?_
    rintro e w1 ⟨rfl, hb⟩
    have B1 := hb
    have E1 := Lib.hid (E0.out.fwd hb)
    clear E0 hb
    go_wp2_with fail
    refine (K1.out w1 E1.out).mono ?_
    rintro e w2 ⟨b1, b2, rfl, F2, hb⟩
    have B2 := B1.trans (hb.mono B1.size)
    have E2 := Lib.hid (E1.out.fwd hb)
    clear E1 hb B1 K1
    go_wp2_with fail
    refine (K2.out w2 E2.out).mono ?_
    rintro e w3 ⟨rfl, hb⟩
    have B3 := B2.trans (hb.mono B2.size)
    clear E2 F2 hb B2 K2
    go_wp2_with fail
    refine (exa_keep w3).mono ?_
    rintro e w4 ⟨rfl, hb⟩
    have B4 := B3.trans (hb.mono B3.size)
    clear hb B3
    go_wp2_with fail
    go_ret
    exact ⟨rfl, B4⟩
  have HM := Lib.hid (map_valid (r := r) HE.out (o := n) (by omega) (by omega))
  have K2 : Hid (∀ W, Eds W W.heap.size a l → Calls Try.prog 9 #[.slice a l.length cap, .int .i64 n, .bool r] W fun e w' => e = .returned (.tuple #[.int .i64 (mp n r l), .int .i64 0]) ∧ Below W.heap.size W w') := fun W hW => by
    have := map_any a cap l n r W HL.out HN1.out hW
    rw [HM.out.1, HM.out.2.1] at this
    exact this
  have K4 : Hid (Free l n → ∀ b c W, Eds W W.heap.size b (invL s l) → Calls Try.prog 9 #[.slice b (invL s l).length c, .int .i64 (mp n r l), .bool r] W fun e w' => e = .returned (.tuple #[.int .i64 n, .int .i64 0]) ∧ Below W.heap.size W w') := fun hf b c W hW => by
    have q := map_back (r := r) HE.out (o := n) (by omega) (by omega) hf
    have := map_any b c (invL s l) (mp n r l) r W (by rw [invL, inv_length]; exact HL.out) (by have := HM.out.2.2; omega) hW
    rw [q.1, q.2] at this
    exact this
  clear HM HE HL HS HN1
  generalize invL s l = I at *
  generalize mp n r l = m at *
  go_enter Try.func5, Try.ntmps5
  go_wp2_with fail
  refine (exa_keep w).mono ?_
  rintro e w1 ⟨rfl, hb⟩
  have B1 := hb
  have E1 := Lib.hid (E0.out.fwd hb)
  clear E0 hb
  go_wp2_with fail
  refine (K1.out w1 E1.out).mono ?_
  rintro e w2 ⟨b1, b2, rfl, F2, hb⟩
  have B2 := B1.trans (hb.mono B1.size)
  have E2 := Lib.hid (E1.out.fwd hb)
  clear E1 hb B1 K1
  go_wp2_with fail
  refine (K2.out w2 E2.out).mono ?_
  rintro e w3 ⟨rfl, hb⟩
  have B3 := B2.trans (hb.mono B2.size)
  have E3 := Lib.hid (E2.out.fwd hb)
  have F3 := Lib.hid (F2.out.fwd hb)
  clear E2 F2 hb B2 K2
  go_wp2_with fail
  go_loopw [13] (fun i wr => ∃ k : Nat, k ≤ l.length ∧ i = .int .i64 k ∧ Hid (∀ x, x ∈ l.take k → ¬ (x.s ≤ n ∧ n ≤ x.e)) ∧ wr = w3)
    (fun i _ => l.length - (intOf i).toNat)
  case atStart => exact ⟨0, Nat.zero_le _, rfl, fun x hx => by simp at hx, rfl⟩
  case round =>
    obtain ⟨k, hk, rfl, hfr, rfl⟩ := hrel
    by_cases hlt : k < l.length
    · have hx : l[k]? = some l[k] := List.getElem?_eq_getElem hlt
      obtain ⟨x, hX⟩ : ∃ x, x = l[k] := ⟨_, rfl⟩
      rw [← hX] at hx
      clear hX
      obtain ⟨hok, b, oo, rfl, hbl, h0, h1, h2⟩ := E3.out k x hx
      have hst : Hid (¬ (x.s ≤ n ∧ n ≤ x.e) → ∀ y, y ∈ l.take (k + 1) → ¬ (y.s ≤ n ∧ n ≤ y.e)) := fun hn y hy => by
        rw [take_snoc hx] at hy
        rcases List.mem_append.1 hy with q | q
        · exact hfr.out y q
        · simp at q; subst q; exact hn
      clear hx hfr
      by_cases c3 : x.s ≤ n
      · by_cases c4 : n ≤ x.e
        · clear hst
          go_wp2_with fail
          refine (exa_keep _).mono ?_
          rintro e w4 ⟨rfl, hb⟩
          have B4 := B3.trans (hb.mono B3.size)
          clear hb
          go_wp2_with fail
          go_ret
          exact ⟨rfl, B4⟩
        · have HF := Lib.hid (hst.out (fun q => c4 q.2))
          clear hst
          go_wp2_with fail
          go_roundw
          case rel => exact ⟨k + 1, by omega, by go_num, HF, trivial⟩
          case measure => simp [intOf]; omega
      · have HF := Lib.hid (hst.out (fun q => c3 q.1))
        clear hst
        go_wp2_with fail
        go_roundw
        case rel => exact ⟨k + 1, by omega, by go_num, HF, trivial⟩
        case measure => simp [intOf]; omega
    · have HF : Hid (Free l n) := fun x hx => hfr.out x (by rw [List.take_of_length_le (by omega)]; exact hx)
      have K5 := Lib.hid (K4.out HF.out)
      clear hfr HF K4
      go_wp2_with fail
      refine (K5.out b1 b2 _ F3.out).mono ?_
      rintro e w4 ⟨rfl, hb⟩
      have B4 := B3.trans (hb.mono B3.size)
      clear hb
      go_wp2_with fail
      refine (exa_keep _).mono ?_
      rintro e w5 ⟨rfl, hb⟩
      have B5 := B4.trans (hb.mono B4.size)
      clear hb
      go_wp2_with fail
      go_ret
      exact ⟨rfl, B5⟩
end Go.Proofs.Ytdmmoknddkfnmaa.lawBack
