/-
  Applying edits and then their inverse restores the source, and inverting the inverse yields the edits: TexteditInvertRoundTrip, for every source and every list of edits.
-/
import Derived.Test.YtbkiliiopondaaaEx
import Derived.Test.YtbkiliiopondaaaInvPure
namespace Go.Proofs.Ytbkiliiopondaaa.lawInv
open Go.RowKit

set_option maxHeartbeats 1000000 in
set_option maxRecDepth 100000 in
theorem walk (s : ByteArray) (a : Option Addr) (cap : Nat) (l : List Ed) (w : World) (hs : s.size ≤ maxLen) (hl : l.length ≤ maxLen) (h : Eds w w.heap.size a l) :
    Calls Try.prog 3 #[.string s, .slice a l.length cap] w fun e w' => e = .returned (.bool true) ∧ Below w.heap.size w w' := by
  have HS := Lib.hid hs
  have HL := Lib.hid hl
  clear hs hl
  by_cases he : errV s.size l = 0
  · have hinv := inv_valid he
    have hres := inv_restores he
    have hag := inv_again (o := applyS s l) he rfl
    have hsz := applyS_size s l
    have hr2 := applyS_le he
    rw [← hsz] at hinv
    have K1 : Hid (∀ W, Eds W W.heap.size a l → Calls Try.prog 13 #[.string s, .slice a l.length cap] W fun e w' => e = .returned (.tuple #[.string (applyS s l), .int .i64 0]) ∧ Below W.heap.size W w') := fun W hW => apply_ok s a cap l W HS.out HL.out hW he
    have K2 : Hid (∀ W, Eds W W.heap.size a l → Calls Try.prog 14 #[.string s, .slice a l.length cap] W fun e w' => ∃ b c, e = .returned (.tuple #[.slice b (invL s l).length c, .int .i64 0]) ∧ Hid (Eds w' w'.heap.size b (invL s l)) ∧ Below W.heap.size W w') := fun W hW => by
      refine (invert_ok s a cap l W HS.out HL.out hW he).mono ?_
      rintro e w' ⟨v, rfl, ho, hb⟩
      obtain ⟨b, c, rfl, hE⟩ := ho.out.eds (valid_ok (by omega) hinv)
      exact ⟨b, c, rfl, hE, hb⟩
    have hil : (invL s l).length = l.length := inv_length
    have K3 : Hid (∀ W b c, Eds W W.heap.size b (invL s l) → Calls Try.prog 13 #[.string (applyS s l), .slice b (invL s l).length c] W fun e w' => e = .returned (.tuple #[.string s, .int .i64 0]) ∧ Below W.heap.size W w') := fun W b c hW => by
      have := apply_ok (applyS s l) b c (invL s l) W (by unfold maxLen; omega) (by rw [hil]; exact HL.out) hW hinv
      rw [applyS_data, hres, Lib.mk_data] at this
      exact this
    have K4 : Hid (∀ W b c, Eds W W.heap.size b (invL s l) → Calls Try.prog 14 #[.string (applyS s l), .slice b (invL s l).length c] W fun e w' => ∃ b c, e = .returned (.tuple #[.slice b l.length c, .int .i64 0]) ∧ Hid (Eds w' w'.heap.size b l) ∧ Below W.heap.size W w') := fun W b c hW => by
      refine (invert_ok (applyS s l) b c (invL s l) W (by unfold maxLen; omega) (by rw [hil]; exact HL.out) hW hinv).mono ?_
      rintro e w' ⟨v, rfl, ho, hb⟩
      rw [hag] at ho
      obtain ⟨b, c, rfl, hE⟩ := ho.out.eds (valid_ok (by omega) he)
      exact ⟨b, c, rfl, hE, hb⟩
    obtain ⟨_, hl5, _, _⟩ := errV_zero he
    clear hinv hres hag hsz hr2 hil he
    have H0 := Lib.hid h
    clear h
    go_enter Try.func3, Try.ntmps3
    go_wp2_with fail
    refine (examples_keep w).mono ?_
    rintro e w1 ⟨rfl, hb⟩
    have B1 := hb
    have E1 := Lib.hid (H0.out.to hb)
    clear H0 hb
    go_wp2_with fail
    refine (K1.out w1 E1.out).mono ?_
    rintro e w2 ⟨rfl, hb⟩
    have B2 := B1.trans (hb.mono B1.size)
    have E2 := Lib.hid (E1.out.to hb)
    clear E1 hb B1 K1
    go_wp2_with fail
    refine (K2.out w2 E2.out).mono ?_
    rintro e w3 ⟨b1, c1, rfl, F3, hb⟩
    have B3 := B2.trans (hb.mono B2.size)
    have E3 := Lib.hid (E2.out.to hb)
    clear E2 hb B2 K2
    go_wp2_with fail
    refine (K3.out w3 b1 c1 F3.out).mono ?_
    rintro e w4 ⟨rfl, hb⟩
    have B4 := B3.trans (hb.mono B3.size)
    have E4 := Lib.hid (E3.out.to hb)
    have F4 := Lib.hid (F3.out.to hb)
    clear E3 F3 hb B3 K3
    go_wp2_with fail
    refine (K4.out w4 b1 c1 F4.out).mono ?_
    rintro e w5 ⟨b2, c2, rfl, G5, hb⟩
    have B5 := B4.trans (hb.mono B4.size)
    have E5 := Lib.hid (E4.out.to hb)
    clear E4 F4 hb B4 K4
    go_wp2_with fail
    refine (examples_keep w5).mono ?_
    rintro e w6 ⟨rfl, hb⟩
    have B6 := B5.trans (hb.mono B5.size)
    have E6 := Lib.hid (E5.out.to hb)
    have G6 := Lib.hid (G5.out.to hb)
    clear E5 G5 hb B5
    go_wp2_with fail
    refine (equal_same l b2 c2 a cap w6 (by omega) G6.out E6.out).mono ?_
    rintro e w7 ⟨rfl, hb⟩
    have B7 := B6.trans (hb.mono B6.size)
    clear E6 G6 hb B6
    go_wp2_with fail
    go_ret
    exact ⟨rfl, B7⟩
  · have K1 : Hid (∀ W, Eds W W.heap.size a l → Calls Try.prog 13 #[.string s, .slice a l.length cap] W fun e w' => e = .returned (.tuple #[.string ⟨#[]⟩, .int .i64 (errV s.size l)]) ∧ Below W.heap.size W w') := fun W hW => apply_bad s a cap l W HS.out HL.out hW he
    have K2 : Hid (∀ W, Eds W W.heap.size a l → Calls Try.prog 14 #[.string s, .slice a l.length cap] W fun e w' => e = .returned (.tuple #[.slice none 0 0, .int .i64 (errV s.size l)]) ∧ Below W.heap.size W w') := fun W hW => invert_bad s a cap l W HS.out HL.out hW he
    generalize errV s.size l = v at *
    have hv1 : (v != 0) = true := by simpa using he
    clear he
    have H0 := Lib.hid h
    clear h
    go_enter Try.func3, Try.ntmps3
    go_wp2_with fail
    refine (examples_keep w).mono ?_
    rintro e w1 ⟨rfl, hb⟩
    have B1 := hb
    have E1 := Lib.hid (H0.out.to hb)
    clear H0 hb
    go_wp2_with fail
    refine (K1.out w1 E1.out).mono ?_
    rintro e w2 ⟨rfl, hb⟩
    have B2 := B1.trans (hb.mono B1.size)
    have E2 := Lib.hid (E1.out.to hb)
    clear E1 hb B1 K1
    go_wp2_with fail
    refine (K2.out w2 E2.out).mono ?_
    rintro e w3 ⟨rfl, hb⟩
    have B3 := B2.trans (hb.mono B2.size)
    clear E2 hb B2 K2
    go_wp2_with fail
    refine (examples_keep w3).mono ?_
    rintro e w4 ⟨rfl, hb⟩
    have B4 := B3.trans (hb.mono B3.size)
    clear hb B3
    go_wp2_with fail
    go_ret
    exact ⟨rfl, B4⟩

end Go.Proofs.Ytbkiliiopondaaa.lawInv
