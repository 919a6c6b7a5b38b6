/-
  Composition of three lists of edits is associative: TexteditComposeAssociative, for every source and every three lists of edits.
-/
import Derived.Test.YtbkiliiopondaaaAssocPure
namespace Go.Proofs.Ytbkiliiopondaaa.lawAssoc
open Go.RowKit

/-- What Apply hands back, whatever the edits. -/
def resS (s : ByteArray) (l : List Ed) : ByteArray := if errV s.size l = 0 then applyS s l else ⟨#[]⟩

theorem resS_le (s : ByteArray) (l : List Ed) : (resS s l).size ≤ maxLen := by
  unfold resS
  split
  · rename_i h; exact le_max (applyS_le h)
  · exact Nat.zero_le _

theorem apply_both (s : ByteArray) (a : Option Addr) (cap : Nat) (l : List Ed) (hs : s.size ≤ maxLen) (hl : l.length ≤ maxLen) (w : World) (h : Eds w w.heap.size a l) :
    Calls Try.prog 13 #[.string s, .slice a l.length cap] w fun e w' => e = .returned (.tuple #[.string (resS s l), .int .i64 (errV s.size l)]) ∧ Below w.heap.size w w' := by
  by_cases he : errV s.size l = 0
  · rw [resS, if_pos he, he]; exact apply_ok s a cap l w hs hl h he
  · rw [resS, if_neg he]; exact apply_bad s a cap l w hs hl h he

section
variable (s : ByteArray) (a1 : Option Addr) (c1 : Nat) (l1 : List Ed) (a2 : Option Addr) (c2 : Nat) (l2 : List Ed) (a3 : Option Addr) (c3 : Nat) (l3 : List Ed) (w : World)

set_option maxHeartbeats 1000000 in
set_option maxRecDepth 100000 in
/-- The first composition fails. -/
theorem walk1 (he : compErr s l1 l2 ≠ 0) (HS : Hid (s.size ≤ maxLen)) (HL1 : Hid (l1.length ≤ maxLen)) (HL2 : Hid (l2.length ≤ maxLen)) (HL3 : Hid (l3.length ≤ maxLen)) (E0 : Hid (Eds w w.heap.size a1 l1)) (F0 : Hid (Eds w w.heap.size a2 l2)) (G0 : Hid (Eds w w.heap.size a3 l3)) :
    Calls Try.prog 5 #[.string s, .slice a1 l1.length c1, .slice a2 l2.length c2, .slice a3 l3.length c3] w fun e w' => e = .returned (.bool true) ∧ Below w.heap.size w w' := by
  have K1 := Lib.hid (compose_fails s a1 c1 l1 a2 c2 l2 he HS.out HL1.out HL2.out)
  have K2 := Lib.hid (apply_both s a1 c1 l1 HS.out HL1.out)
  have K3 : Hid (∀ W, Eds W W.heap.size a2 l2 → Eds W W.heap.size a3 l3 → Calls Try.prog 16 #[.string (resS s l1), .slice a2 l2.length c2, .slice a3 l3.length c3] W fun e w' => ∃ b c, e = .returned (.tuple #[.slice b (compR (resS s l1) l2 l3).length c, .int .i64 (compErr (resS s l1) l2 l3)]) ∧ Below W.heap.size W w') := fun W h2 h3 => by
    refine (compose_v (resS s l1) a2 c2 l2 a3 c3 l3 W (resS_le _ _) HL2.out HL3.out h2 h3).mono ?_
    rintro e w' ⟨b, c, rfl, _, hb⟩
    exact ⟨b, c, rfl, hb⟩
  generalize compErr (resS s l1) l2 l3 = v3 at *
  generalize (compR (resS s l1) l2 l3).length = n3 at *
  generalize errV s.size l1 = v2 at *
  generalize resS s l1 = r at *
  generalize compErr s l1 l2 = v at *
  have hv1 : (v != 0) = true := by simpa using he
  clear he HS HL1 HL2 HL3
  go_enter Try.func5, Try.ntmps5
  go_wp2_with fail
  refine (examples_keep w).mono ?_
  rintro e w1 ⟨rfl, hb⟩
  have B1 := hb
  have E1 := Lib.hid (E0.out.to hb)
  have F1 := Lib.hid (F0.out.to hb)
  have G1 := Lib.hid (G0.out.to hb)
  clear E0 F0 G0 hb
  go_wp2_with fail
  refine (K1.out w1 E1.out F1.out).mono ?_
  rintro e w2 ⟨b1, c1, rfl, hb⟩
  have B2 := B1.trans (hb.mono B1.size)
  have E2 := Lib.hid (E1.out.to hb)
  have F2 := Lib.hid (F1.out.to hb)
  have G2 := Lib.hid (G1.out.to hb)
  clear E1 F1 G1 hb B1 K1
  go_wp2_with fail
  refine (K2.out w2 E2.out).mono ?_
  rintro e w3 ⟨rfl, hb⟩
  have B3 := B2.trans (hb.mono B2.size)
  have F3 := Lib.hid (F2.out.to hb)
  have G3 := Lib.hid (G2.out.to hb)
  clear E2 F2 G2 hb B2 K2
  go_wp2_with fail
  refine (K3.out w3 F3.out G3.out).mono ?_
  rintro e w4 ⟨b3, c3, rfl, hb⟩
  have B4 := B3.trans (hb.mono B3.size)
  clear F3 G3 hb B3 K3
  go_wp2_with fail
  refine (examples_keep w4).mono ?_
  rintro e w5 ⟨rfl, hb⟩
  have B5 := B4.trans (hb.mono B4.size)
  clear hb B4
  go_wp2_with fail
  go_ret
  exact ⟨rfl, B5⟩

set_option maxHeartbeats 1000000 in
set_option maxRecDepth 100000 in
/-- The second composition fails. -/
theorem walk2 (he : compErr s l1 l2 = 0) (he3 : compErr (applyS s l1) l2 l3 ≠ 0) (HS : Hid (s.size ≤ maxLen)) (HL1 : Hid (l1.length ≤ maxLen)) (HL2 : Hid (l2.length ≤ maxLen)) (HL3 : Hid (l3.length ≤ maxLen)) (E0 : Hid (Eds w w.heap.size a1 l1)) (F0 : Hid (Eds w w.heap.size a2 l2)) (G0 : Hid (Eds w w.heap.size a3 l3)) :
    Calls Try.prog 5 #[.string s, .slice a1 l1.length c1, .slice a2 l2.length c2, .slice a3 l3.length c3] w fun e w' => e = .returned (.bool true) ∧ Below w.heap.size w w' := by
  obtain ⟨z1, z2, z3, z4⟩ := comp_zero he
  have K1 : Hid (∀ W, Eds W W.heap.size a1 l1 → Eds W W.heap.size a2 l2 → Calls Try.prog 16 #[.string s, .slice a1 l1.length c1, .slice a2 l2.length c2] W fun e w' => ∃ b c, e = .returned (.tuple #[.slice b (compL s l1 l2).length c, .int .i64 0]) ∧ Below W.heap.size W w') := fun W h1 h2 => by
    refine (compose_zero s a1 c1 l1 a2 c2 l2 he HS.out HL1.out HL2.out W h1 h2).mono ?_
    rintro e w' ⟨b, c, rfl, _, hb⟩
    exact ⟨b, c, rfl, hb⟩
  have K2 := Lib.hid (apply_v s a1 c1 l1 z1 HS.out HL1.out)
  have K3 := Lib.hid (compose_fails (applyS s l1) a2 c2 l2 a3 c3 l3 he3 (le_max (applyS_le z1)) HL2.out HL3.out)
  clear z1 z2 z3 z4 he
  generalize compErr (applyS s l1) l2 l3 = v at *
  generalize (compL s l1 l2).length = n1 at *
  generalize applyS s l1 = r at *
  have hv1 : (v != 0) = true := by simpa using he3
  clear he3 HS HL1 HL2 HL3
  go_enter Try.func5, Try.ntmps5
  go_wp2_with fail
  refine (examples_keep w).mono ?_
  rintro e w1 ⟨rfl, hb⟩
  have B1 := hb
  have E1 := Lib.hid (E0.out.to hb)
  have F1 := Lib.hid (F0.out.to hb)
  have G1 := Lib.hid (G0.out.to hb)
  clear E0 F0 G0 hb
  go_wp2_with fail
  refine (K1.out w1 E1.out F1.out).mono ?_
  rintro e w2 ⟨b1, c1, rfl, hb⟩
  have B2 := B1.trans (hb.mono B1.size)
  have E2 := Lib.hid (E1.out.to hb)
  have F2 := Lib.hid (F1.out.to hb)
  have G2 := Lib.hid (G1.out.to hb)
  clear E1 F1 G1 hb B1 K1
  go_wp2_with fail
  refine (K2.out w2 E2.out).mono ?_
  rintro e w3 ⟨rfl, hb⟩
  have B3 := B2.trans (hb.mono B2.size)
  have F3 := Lib.hid (F2.out.to hb)
  have G3 := Lib.hid (G2.out.to hb)
  clear E2 F2 G2 hb B2 K2
  go_wp2_with fail
  refine (K3.out w3 F3.out G3.out).mono ?_
  rintro e w4 ⟨b3, c3, rfl, hb⟩
  have B4 := B3.trans (hb.mono B3.size)
  clear F3 G3 hb B3 K3
  go_wp2_with fail
  refine (examples_keep w4).mono ?_
  rintro e w5 ⟨rfl, hb⟩
  have B5 := B4.trans (hb.mono B4.size)
  clear hb B4
  go_wp2_with fail
  go_ret
  exact ⟨rfl, B5⟩

set_option maxHeartbeats 1000000 in
set_option maxRecDepth 100000 in
/-- Both succeed. -/
theorem walk3 (he : compErr s l1 l2 = 0) (he3 : compErr (applyS s l1) l2 l3 = 0) (HS : Hid (s.size ≤ maxLen)) (HL1 : Hid (l1.length ≤ maxLen)) (HL2 : Hid (l2.length ≤ maxLen)) (HL3 : Hid (l3.length ≤ maxLen)) (E0 : Hid (Eds w w.heap.size a1 l1)) (F0 : Hid (Eds w w.heap.size a2 l2)) (G0 : Hid (Eds w w.heap.size a3 l3)) :
    Calls Try.prog 5 #[.string s, .slice a1 l1.length c1, .slice a2 l2.length c2, .slice a3 l3.length c3] w fun e w' => e = .returned (.bool true) ∧ Below w.heap.size w w' := by
  obtain ⟨z1, z2, z3, z4⟩ := comp_zero he
  obtain ⟨_, _, z5, _⟩ := comp_zero he3
  have K1 := Lib.hid (compose_zero s a1 c1 l1 a2 c2 l2 he HS.out HL1.out HL2.out)
  have K2 := Lib.hid (apply_v s a1 c1 l1 z1 HS.out HL1.out)
  have K3 := Lib.hid (compose_zero (applyS s l1) a2 c2 l2 a3 c3 l3 he3 (le_max (applyS_le z1)) HL2.out HL3.out)
  have K4 : Hid (∀ W b c, Eds W W.heap.size b (compL s l1 l2) → Eds W W.heap.size a3 l3 → Calls Try.prog 16 #[.string s, .slice b (compL s l1 l2).length c, .slice a3 l3.length c3] W fun e w' => ∃ b c, e = .returned (.tuple #[.slice b (compR s (compL s l1 l2) l3).length c, .int .i64 (compErr s (compL s l1 l2) l3)]) ∧ Hid (Eds w' w'.heap.size b (compR s (compL s l1 l2) l3)) ∧ Below W.heap.size W w') := fun W b c h1 h2 =>
    compose_v s b c (compL s l1 l2) a3 c3 l3 W HS.out (le_max (by omega)) HL3.out h1 h2
  have K5 : Hid (∀ W b c, Eds W W.heap.size a1 l1 → Eds W W.heap.size b (compL (applyS s l1) l2 l3) → Calls Try.prog 16 #[.string s, .slice a1 l1.length c1, .slice b (compL (applyS s l1) l2 l3).length c] W fun e w' => ∃ b c, e = .returned (.tuple #[.slice b (compR s l1 (compL (applyS s l1) l2 l3)).length c, .int .i64 (compErr s l1 (compL (applyS s l1) l2 l3))]) ∧ Hid (Eds w' w'.heap.size b (compR s l1 (compL (applyS s l1) l2 l3))) ∧ Below W.heap.size W w') := fun W b c h1 h2 =>
    compose_v s a1 c1 l1 b c (compL (applyS s l1) l2 l3) W HS.out HL1.out (le_max (by omega)) h1 h2
  have heq := assoc_eq he he3
  by_cases hx : compErr s (compL s l1 l2) l3 = 0
  · by_cases hy : compErr s l1 (compL (applyS s l1) l2 l3) = 0
    · obtain ⟨_, _, x3, x4⟩ := comp_zero hx
      obtain ⟨_, _, y3, y4⟩ := comp_zero hy
      rw [hx, x4] at K4
      rw [hy, y4, ← heq] at K5
      have K6 : Hid (∀ W b c b' c', Eds W W.heap.size b (compL s (compL s l1 l2) l3) → Eds W W.heap.size b' (compL s (compL s l1 l2) l3) → Calls Try.prog 15 #[.slice b (compL s (compL s l1 l2) l3).length c, .slice b' (compL s (compL s l1 l2) l3).length c'] W fun e w' => e = .returned (.bool true) ∧ Below W.heap.size W w') := fun W b c b' c' h1 h2 =>
        equal_same _ b c b' c' W (by omega) h1 h2
      clear z1 z2 z3 z4 z5 he he3 heq hx hy x3 x4 y3 y4 HS HL1 HL2 HL3
      generalize compL s (compL s l1 l2) l3 = X at *
      generalize X.length = n3 at *
      generalize compL (applyS s l1) l2 l3 = Y at *
      generalize Y.length = n2 at *
      generalize compL s l1 l2 = Z at *
      generalize Z.length = n1 at *
      generalize applyS s l1 = r at *
      go_enter Try.func5, Try.ntmps5
      go_wp2_with fail
      refine (examples_keep w).mono ?_
      rintro e w1 ⟨rfl, hb⟩
      have B1 := hb
      have E1 := Lib.hid (E0.out.to hb)
      have F1 := Lib.hid (F0.out.to hb)
      have G1 := Lib.hid (G0.out.to hb)
      clear E0 F0 G0 hb
      go_wp2_with fail
      refine (K1.out w1 E1.out F1.out).mono ?_
      rintro e w2 ⟨b1, c1, rfl, P2, hb⟩
      have B2 := B1.trans (hb.mono B1.size)
      have E2 := Lib.hid (E1.out.to hb)
      have F2 := Lib.hid (F1.out.to hb)
      have G2 := Lib.hid (G1.out.to hb)
      clear E1 F1 G1 hb B1 K1
      go_wp2_with fail
      refine (K2.out w2 E2.out).mono ?_
      rintro e w3 ⟨rfl, hb⟩
      have B3 := B2.trans (hb.mono B2.size)
      have E3 := Lib.hid (E2.out.to hb)
      have F3 := Lib.hid (F2.out.to hb)
      have G3 := Lib.hid (G2.out.to hb)
      have P3 := Lib.hid (P2.out.to hb)
      clear E2 F2 G2 P2 hb B2 K2
      go_wp2_with fail
      refine (K3.out w3 F3.out G3.out).mono ?_
      rintro e w4 ⟨b3, c3, rfl, Q4, hb⟩
      have B4 := B3.trans (hb.mono B3.size)
      have E4 := Lib.hid (E3.out.to hb)
      have G4 := Lib.hid (G3.out.to hb)
      have P4 := Lib.hid (P3.out.to hb)
      clear E3 F3 G3 P3 hb B3 K3
      go_wp2_with fail
      refine (K4.out w4 b1 c1 P4.out G4.out).mono ?_
      rintro e w5 ⟨b4, c4, rfl, X5, hb⟩
      have B5 := B4.trans (hb.mono B4.size)
      have E5 := Lib.hid (E4.out.to hb)
      have Q5 := Lib.hid (Q4.out.to hb)
      clear E4 G4 P4 Q4 hb B4 K4
      go_wp2_with fail
      refine (K5.out w5 b3 c3 E5.out Q5.out).mono ?_
      rintro e w6 ⟨b5, c5, rfl, Y6, hb⟩
      have B6 := B5.trans (hb.mono B5.size)
      have X6 := Lib.hid (X5.out.to hb)
      clear E5 Q5 X5 hb B5 K5
      go_wp2_with fail
      refine (examples_keep w6).mono ?_
      rintro e w7 ⟨rfl, hb⟩
      have B7 := B6.trans (hb.mono B6.size)
      have X7 := Lib.hid (X6.out.to hb)
      have Y7 := Lib.hid (Y6.out.to hb)
      clear X6 Y6 hb B6
      go_wp2_with fail
      refine (K6.out w7 b4 c4 b5 c5 X7.out Y7.out).mono ?_
      rintro e w8 ⟨rfl, hb⟩
      have B8 := B7.trans (hb.mono B7.size)
      clear X7 Y7 hb B7 K6
      go_wp2_with fail
      go_ret
      exact ⟨rfl, B8⟩
    · clear z1 z2 z3 z4 z5 he he3 heq HS HL1 HL2 HL3
      rw [hx] at K4
      generalize compErr s l1 (compL (applyS s l1) l2 l3) = v at *
      have hv1 : (v != 0) = true := by simpa using hy
      clear hx hy
      generalize compR s l1 (compL (applyS s l1) l2 l3) = X at *
      generalize X.length = n4 at *
      generalize compR s (compL s l1 l2) l3 = V at *
      generalize V.length = n3 at *
      generalize compL (applyS s l1) l2 l3 = Y at *
      generalize Y.length = n2 at *
      generalize compL s l1 l2 = Z at *
      generalize Z.length = n1 at *
      generalize applyS s l1 = r at *
      go_enter Try.func5, Try.ntmps5
      go_wp2_with fail
      refine (examples_keep w).mono ?_
      rintro e w1 ⟨rfl, hb⟩
      have B1 := hb
      have E1 := Lib.hid (E0.out.to hb)
      have F1 := Lib.hid (F0.out.to hb)
      have G1 := Lib.hid (G0.out.to hb)
      clear E0 F0 G0 hb
      go_wp2_with fail
      refine (K1.out w1 E1.out F1.out).mono ?_
      rintro e w2 ⟨b1, c1, rfl, P2, hb⟩
      have B2 := B1.trans (hb.mono B1.size)
      have E2 := Lib.hid (E1.out.to hb)
      have F2 := Lib.hid (F1.out.to hb)
      have G2 := Lib.hid (G1.out.to hb)
      clear E1 F1 G1 hb B1 K1
      go_wp2_with fail
      refine (K2.out w2 E2.out).mono ?_
      rintro e w3 ⟨rfl, hb⟩
      have B3 := B2.trans (hb.mono B2.size)
      have E3 := Lib.hid (E2.out.to hb)
      have F3 := Lib.hid (F2.out.to hb)
      have G3 := Lib.hid (G2.out.to hb)
      have P3 := Lib.hid (P2.out.to hb)
      clear E2 F2 G2 P2 hb B2 K2
      go_wp2_with fail
      refine (K3.out w3 F3.out G3.out).mono ?_
      rintro e w4 ⟨b3, c3, rfl, Q4, hb⟩
      have B4 := B3.trans (hb.mono B3.size)
      have E4 := Lib.hid (E3.out.to hb)
      have G4 := Lib.hid (G3.out.to hb)
      have P4 := Lib.hid (P3.out.to hb)
      clear E3 F3 G3 P3 hb B3 K3
      go_wp2_with fail
      refine (K4.out w4 b1 c1 P4.out G4.out).mono ?_
      rintro e w5 ⟨b4, c4, rfl, X5, hb⟩
      have B5 := B4.trans (hb.mono B4.size)
      have E5 := Lib.hid (E4.out.to hb)
      have Q5 := Lib.hid (Q4.out.to hb)
      clear E4 G4 P4 Q4 hb B4 K4
      go_wp2_with fail
      refine (K5.out w5 b3 c3 E5.out Q5.out).mono ?_
      rintro e w6 ⟨b5, c5, rfl, Y6, hb⟩
      have B6 := B5.trans (hb.mono B5.size)
      have X6 := Lib.hid (X5.out.to hb)
      clear E5 Q5 X5 hb B5 K5
      go_wp2_with fail
      refine (examples_keep w6).mono ?_
      rintro e w7 ⟨rfl, hb⟩
      have B7 := B6.trans (hb.mono B6.size)
      have X7 := Lib.hid (X6.out.to hb)
      have Y7 := Lib.hid (Y6.out.to hb)
      clear X6 Y6 hb B6
      go_wp2_with fail
      go_ret
      exact ⟨rfl, B7⟩
  · clear z1 z2 z3 z4 z5 he he3 heq HS HL1 HL2 HL3
    generalize compErr s (compL s l1 l2) l3 = v at *
    have hv1 : (v != 0) = true := by simpa using hx
    clear hx
    generalize compErr s l1 (compL (applyS s l1) l2 l3) = v5 at *
    generalize compR s l1 (compL (applyS s l1) l2 l3) = X at *
    generalize X.length = n4 at *
    generalize compR s (compL s l1 l2) l3 = V at *
    generalize V.length = n3 at *
    generalize compL (applyS s l1) l2 l3 = Y at *
    generalize Y.length = n2 at *
    generalize compL s l1 l2 = Z at *
    generalize Z.length = n1 at *
    generalize applyS s l1 = r at *
    go_enter Try.func5, Try.ntmps5
    go_wp2_with fail
    refine (examples_keep w).mono ?_
    rintro e w1 ⟨rfl, hb⟩
    have B1 := hb
    have E1 := Lib.hid (E0.out.to hb)
    have F1 := Lib.hid (F0.out.to hb)
    have G1 := Lib.hid (G0.out.to hb)
    clear E0 F0 G0 hb
    go_wp2_with fail
    refine (K1.out w1 E1.out F1.out).mono ?_
    rintro e w2 ⟨b1, c1, rfl, P2, hb⟩
    have B2 := B1.trans (hb.mono B1.size)
    have E2 := Lib.hid (E1.out.to hb)
    have F2 := Lib.hid (F1.out.to hb)
    have G2 := Lib.hid (G1.out.to hb)
    clear E1 F1 G1 hb B1 K1
    go_wp2_with fail
    refine (K2.out w2 E2.out).mono ?_
    rintro e w3 ⟨rfl, hb⟩
    have B3 := B2.trans (hb.mono B2.size)
    have E3 := Lib.hid (E2.out.to hb)
    have F3 := Lib.hid (F2.out.to hb)
    have G3 := Lib.hid (G2.out.to hb)
    have P3 := Lib.hid (P2.out.to hb)
    clear E2 F2 G2 P2 hb B2 K2
    go_wp2_with fail
    refine (K3.out w3 F3.out G3.out).mono ?_
    rintro e w4 ⟨b3, c3, rfl, Q4, hb⟩
    have B4 := B3.trans (hb.mono B3.size)
    have E4 := Lib.hid (E3.out.to hb)
    have G4 := Lib.hid (G3.out.to hb)
    have P4 := Lib.hid (P3.out.to hb)
    clear E3 F3 G3 P3 hb B3 K3
    go_wp2_with fail
    refine (K4.out w4 b1 c1 P4.out G4.out).mono ?_
    rintro e w5 ⟨b4, c4, rfl, X5, hb⟩
    have B5 := B4.trans (hb.mono B4.size)
    have E5 := Lib.hid (E4.out.to hb)
    have Q5 := Lib.hid (Q4.out.to hb)
    clear E4 G4 P4 Q4 hb B4 K4
    go_wp2_with fail
    refine (K5.out w5 b3 c3 E5.out Q5.out).mono ?_
    rintro e w6 ⟨b5, c5, rfl, Y6, hb⟩
    have B6 := B5.trans (hb.mono B5.size)
    have X6 := Lib.hid (X5.out.to hb)
    clear E5 Q5 X5 hb B5 K5
    go_wp2_with fail
    refine (examples_keep w6).mono ?_
    rintro e w7 ⟨rfl, hb⟩
    have B7 := B6.trans (hb.mono B6.size)
    have X7 := Lib.hid (X6.out.to hb)
    have Y7 := Lib.hid (Y6.out.to hb)
    clear X6 Y6 hb B6
    go_wp2_with fail
    go_ret
    exact ⟨rfl, B7⟩
end

theorem walk (s : ByteArray) (a1 : Option Addr) (c1 : Nat) (l1 : List Ed) (a2 : Option Addr) (c2 : Nat) (l2 : List Ed) (a3 : Option Addr) (c3 : Nat) (l3 : List Ed) (w : World) (hs : s.size ≤ maxLen) (hl1 : l1.length ≤ maxLen) (hl2 : l2.length ≤ maxLen) (hl3 : l3.length ≤ maxLen) (h1 : Eds w w.heap.size a1 l1) (h2 : Eds w w.heap.size a2 l2) (h3 : Eds w w.heap.size a3 l3) :
    Calls Try.prog 5 #[.string s, .slice a1 l1.length c1, .slice a2 l2.length c2, .slice a3 l3.length c3] w fun e w' => e = .returned (.bool true) ∧ Below w.heap.size w w' := by
  by_cases he : compErr s l1 l2 = 0
  · by_cases he3 : compErr (applyS s l1) l2 l3 = 0
    · exact walk3 s a1 c1 l1 a2 c2 l2 a3 c3 l3 w he he3 hs hl1 hl2 hl3 h1 h2 h3
    · exact walk2 s a1 c1 l1 a2 c2 l2 a3 c3 l3 w he he3 hs hl1 hl2 hl3 h1 h2 h3
  · exact walk1 s a1 c1 l1 a2 c2 l2 a3 c3 l3 w he hs hl1 hl2 hl3 h1 h2 h3
end Go.Proofs.Ytbkiliiopondaaa.lawAssoc
