/-
  Composing with the empty list on either side gives the same canonical list, which has the effect of the original list: TexteditComposeIdentity, for every source and every list of edits.
-/
import Derived.Test.YtbkiliiopondaaaIdPure
namespace Go.Proofs.Ytbkiliiopondaaa.lawId
open Go.RowKit

theorem eds_none (W : World) (B : Nat) : Eds W B none [] := fun i x hx => by simp at hx

set_option maxHeartbeats 1000000 in
set_option maxRecDepth 100000 in
theorem walk (s : ByteArray) (a : Option Addr) (c : Nat) (l : List Ed) (w : World) (hs : s.size ≤ maxLen) (hl : l.length ≤ maxLen) (h : Eds w w.heap.size a l) :
    Calls Try.prog 8 #[.string s, .slice a l.length c] w fun e w' => e = .returned (.bool true) ∧ Below w.heap.size w w' := by
  have E0 := Lib.hid h
  have HS := Lib.hid hs
  have HL := Lib.hid hl
  clear hs hl h
  by_cases he : errV s.size l = 0
  · obtain ⟨z1, z2, z3, z4⟩ := id_zero he
    obtain ⟨z5, z6⟩ := comp_valid z1
    have z7 := (comp_zero z1).2.2.1
    have K1 : Hid (∀ W, Eds W W.heap.size a l → Calls Try.prog 16 #[.string s, .slice none 0 0, .slice a l.length c] W fun e w' => ∃ b c, e = .returned (.tuple #[.slice b (compL s [] l).length c, .int .i64 0]) ∧ Hid (Eds w' w'.heap.size b (compL s [] l)) ∧ Below W.heap.size W w') := fun W hW =>
      compose_zero s none 0 [] a c l z1 HS.out (Nat.zero_le _) HL.out W (eds_none _ _) hW
    have K2 : Hid (∀ W, Eds W W.heap.size a l → Calls Try.prog 16 #[.string s, .slice a l.length c, .slice none 0 0] W fun e w' => ∃ b c, e = .returned (.tuple #[.slice b (compL s [] l).length c, .int .i64 0]) ∧ Hid (Eds w' w'.heap.size b (compL s [] l)) ∧ Below W.heap.size W w') := fun W hW => by
      rw [z3]
      exact compose_zero s a c l none 0 [] z2 HS.out HL.out (Nat.zero_le _) W hW (eds_none _ _)
    have K3 := Lib.hid (apply_v s a c l he HS.out HL.out)
    have K4 : Hid (∀ W b c, Eds W W.heap.size b (compL s [] l) → Calls Try.prog 13 #[.string s, .slice b (compL s [] l).length c] W fun e w' => e = .returned (.tuple #[.string (applyS s l), .int .i64 0]) ∧ Below W.heap.size W w') := fun W b c hW => by
      have := apply_v s b c (compL s [] l) z5 HS.out (le_max (by omega)) W hW
      rw [z4] at this
      exact this
    have K5 : Hid (∀ W b c b' c', Eds W W.heap.size b (compL s [] l) → Eds W W.heap.size b' (compL s [] l) → Calls Try.prog 15 #[.slice b (compL s [] l).length c, .slice b' (compL s [] l).length c'] W fun e w' => e = .returned (.bool true) ∧ Below W.heap.size W w') := fun W b c b' c' h1 h2 =>
      equal_same (compL s [] l) b c b' c' W (by omega) h1 h2
    clear z1 z2 z3 z4 z5 z6 z7 he
    generalize applyS s l = r at *
    generalize compL s [] l = C at *
    generalize C.length = n at *
    go_enter Try.func8, Try.ntmps8
    go_wp2_with fail
    refine (examples_keep w).mono ?_
    rintro e w1 ⟨rfl, hb⟩
    have B1 := hb
    have E1 := Lib.hid (E0.out.to hb)
    clear E0 hb
    go_wp2_with fail
    refine (K1.out w1 E1.out).mono ?_
    rintro e w2 ⟨b1, c1, rfl, G2, hb⟩
    have B2 := B1.trans (hb.mono B1.size)
    have E2 := Lib.hid (E1.out.to hb)
    clear E1 hb B1 K1
    go_wp2_with fail
    refine (K2.out w2 E2.out).mono ?_
    rintro e w3 ⟨b2, c2, rfl, H3, hb⟩
    have B3 := B2.trans (hb.mono B2.size)
    have E3 := Lib.hid (E2.out.to hb)
    have G3 := Lib.hid (G2.out.to hb)
    clear E2 G2 hb B2 K2
    go_wp2_with fail
    refine (K3.out w3 E3.out).mono ?_
    rintro e w4 ⟨rfl, hb⟩
    have B4 := B3.trans (hb.mono B3.size)
    have G4 := Lib.hid (G3.out.to hb)
    have H4 := Lib.hid (H3.out.to hb)
    clear E3 G3 H3 hb B3 K3
    go_wp2_with fail
    refine (K4.out w4 b1 c1 G4.out).mono ?_
    rintro e w5 ⟨rfl, hb⟩
    have B5 := B4.trans (hb.mono B4.size)
    have G5 := Lib.hid (G4.out.to hb)
    have H5 := Lib.hid (H4.out.to hb)
    clear G4 H4 hb B4 K4
    go_wp2_with fail
    refine (examples_keep w5).mono ?_
    rintro e w6 ⟨rfl, hb⟩
    have B6 := B5.trans (hb.mono B5.size)
    have G6 := Lib.hid (G5.out.to hb)
    have H6 := Lib.hid (H5.out.to hb)
    clear G5 H5 hb B5
    go_wp2_with fail
    refine (K5.out w6 b1 c1 b2 c2 G6.out H6.out).mono ?_
    rintro e w7 ⟨rfl, hb⟩
    have B7 := B6.trans (hb.mono B6.size)
    clear G6 H6 hb B6 K5
    go_wp2_with fail
    go_ret
    exact ⟨rfl, B7⟩
  · obtain ⟨z1, z2⟩ := id_err he
    have K1 : Hid (∀ W, Eds W W.heap.size a l → Calls Try.prog 16 #[.string s, .slice none 0 0, .slice a l.length c] W fun e w' => ∃ b c, e = .returned (.tuple #[.slice b 0 c, .int .i64 (compErr s [] l)]) ∧ Below W.heap.size W w') := fun W hW =>
      compose_fails s none 0 [] a c l z1 HS.out (Nat.zero_le _) HL.out W (eds_none _ _) hW
    have K2 : Hid (∀ W, Eds W W.heap.size a l → Calls Try.prog 16 #[.string s, .slice a l.length c, .slice none 0 0] W fun e w' => ∃ b c, e = .returned (.tuple #[.slice b 0 c, .int .i64 (errV s.size l)]) ∧ Below W.heap.size W w') := fun W hW => by
      have := compose_fails s a c l none 0 [] (by rw [z2]; exact he) HS.out HL.out (Nat.zero_le _) W hW (eds_none _ _)
      rw [z2] at this
      exact this
    have K3 : Hid (∀ W, Eds W W.heap.size a l → Calls Try.prog 13 #[.string s, .slice a l.length c] W fun e w' => e = .returned (.tuple #[.string ⟨#[]⟩, .int .i64 (errV s.size l)]) ∧ Below W.heap.size W w') := fun W hW => apply_bad s a c l W HS.out HL.out hW he
    clear z2
    generalize errV s.size l = v at *
    generalize compErr s [] l = v1 at *
    have hv1 : (v != 0) = true := by simpa using he
    have hv2 : (v1 != 0) = true := by simpa using z1
    clear he z1
    go_enter Try.func8, Try.ntmps8
    go_wp2_with fail
    refine (examples_keep w).mono ?_
    rintro e w1 ⟨rfl, hb⟩
    have B1 := hb
    have E1 := Lib.hid (E0.out.to hb)
    clear E0 hb
    go_wp2_with fail
    refine (K1.out w1 E1.out).mono ?_
    rintro e w2 ⟨b1, c1, rfl, hb⟩
    have B2 := B1.trans (hb.mono B1.size)
    have E2 := Lib.hid (E1.out.to hb)
    clear E1 hb B1 K1
    go_wp2_with fail
    refine (K2.out w2 E2.out).mono ?_
    rintro e w3 ⟨b2, c2, rfl, hb⟩
    have B3 := B2.trans (hb.mono B2.size)
    have E3 := Lib.hid (E2.out.to hb)
    clear E2 hb B2 K2
    go_wp2_with fail
    refine (K3.out w3 E3.out).mono ?_
    rintro e w4 ⟨rfl, hb⟩
    have B4 := B3.trans (hb.mono B3.size)
    clear E3 hb B3 K3
    go_wp2_with fail
    refine (examples_keep w4).mono ?_
    rintro e w5 ⟨rfl, hb⟩
    have B5 := B4.trans (hb.mono B4.size)
    clear hb B4
    go_wp2_with fail
    go_ret
    exact ⟨rfl, B5⟩
end Go.Proofs.Ytbkiliiopondaaa.lawId
