/-
  Applying left and then the transformed right list gives the same string as applying right and then the transformed left list: TexteditTransformConverges, for every source and every two lists of edits.
-/
import Derived.Test.YtbkiliiopondaaaTrWrap
namespace Go.Proofs.Ytbkiliiopondaaa.lawConv
open Go.RowKit

set_option maxHeartbeats 1000000 in
set_option maxRecDepth 100000 in
theorem walk (s : ByteArray) (a1 : Option Addr) (c1 : Nat) (l1 : List Ed) (a2 : Option Addr) (c2 : Nat) (l2 : List Ed) (w : World) (hs : s.size ≤ maxLen) (hl1 : l1.length ≤ maxLen) (hl2 : l2.length ≤ maxLen) (h1 : Eds w w.heap.size a1 l1) (h2 : Eds w w.heap.size a2 l2) :
    Calls Try.prog 6 #[.string s, .slice a1 l1.length c1, .slice a2 l2.length c2] w fun e w' => e = .returned (.bool true) ∧ Below w.heap.size w w' := by
  have E0 := Lib.hid h1
  have F0 := Lib.hid h2
  have HS := Lib.hid hs
  have HL1 := Lib.hid hl1
  have HL2 := Lib.hid hl2
  clear hs hl1 hl2 h1 h2
  by_cases he : trErr s l1 l2 = 0
  · obtain ⟨z1, z2, z3, z4, _, _, _⟩ := tr_zero he
    obtain ⟨z5, z6, _, _⟩ := tr_valid he
    have z7 := tr_conv he
    have K1 := Lib.hid (transform_zero s a1 c1 l1 a2 c2 l2 he HS.out HL1.out HL2.out)
    have K2 := Lib.hid (apply_v s a1 c1 l1 z1 HS.out HL1.out)
    have K3 := Lib.hid (apply_v s a2 c2 l2 z2 HS.out HL2.out)
    have K4 : Hid (∀ W b c, Eds W W.heap.size b (rightR s l1 l2) → Calls Try.prog 13 #[.string (applyS s l1), .slice b (rightR s l1 l2).length c] W fun e w' => e = .returned (.tuple #[.string (applyS (applyS s l2) (leftR s l1 l2)), .int .i64 0]) ∧ Below W.heap.size W w') := fun W b c hW => by
      have := apply_v (applyS s l1) b c (rightR s l1 l2) z5 (le_max (applyS_le z1)) (le_max (by omega)) W hW
      rw [z7] at this
      exact this
    have K5 : Hid (∀ W b c, Eds W W.heap.size b (leftR s l1 l2) → Calls Try.prog 13 #[.string (applyS s l2), .slice b (leftR s l1 l2).length c] W fun e w' => e = .returned (.tuple #[.string (applyS (applyS s l2) (leftR s l1 l2)), .int .i64 0]) ∧ Below W.heap.size W w') := fun W b c hW =>
      apply_v (applyS s l2) b c (leftR s l1 l2) z6 (le_max (applyS_le z2)) (le_max (by omega)) W hW
    clear z1 z2 z3 z4 z5 z6 z7 he
    generalize applyS (applyS s l2) (leftR s l1 l2) = r at *
    generalize applyS s l1 = m1 at *
    generalize applyS s l2 = m2 at *
    generalize leftR s l1 l2 = X at *
    generalize rightR s l1 l2 = Y at *
    generalize X.length = n1 at *
    generalize Y.length = n2 at *
    go_enter Try.func6, Try.ntmps6
    go_wp2_with fail
    refine (examples_keep w).mono ?_
    rintro e w1 ⟨rfl, hb⟩
    have B1 := hb
    have E1 := Lib.hid (E0.out.to hb)
    have F1 := Lib.hid (F0.out.to hb)
    clear E0 F0 hb
    go_wp2_with fail
    refine (K1.out w1 E1.out F1.out).mono ?_
    rintro e w2 ⟨b1, c1, b2, c2, rfl, G2, H2, hb⟩
    have B2 := B1.trans (hb.mono B1.size)
    have E2 := Lib.hid (E1.out.to hb)
    have F2 := Lib.hid (F1.out.to hb)
    clear E1 F1 hb B1 K1
    go_wp2_with fail
    refine (K2.out w2 E2.out).mono ?_
    rintro e w3 ⟨rfl, hb⟩
    have B3 := B2.trans (hb.mono B2.size)
    have F3 := Lib.hid (F2.out.to hb)
    have G3 := Lib.hid (G2.out.to hb)
    have H3 := Lib.hid (H2.out.to hb)
    clear E2 F2 G2 H2 hb B2 K2
    go_wp2_with fail
    refine (K3.out w3 F3.out).mono ?_
    rintro e w4 ⟨rfl, hb⟩
    have B4 := B3.trans (hb.mono B3.size)
    have G4 := Lib.hid (G3.out.to hb)
    have H4 := Lib.hid (H3.out.to hb)
    clear F3 G3 H3 hb B3 K3
    go_wp2_with fail
    refine (K4.out w4 b2 c2 H4.out).mono ?_
    rintro e w5 ⟨rfl, hb⟩
    have B5 := B4.trans (hb.mono B4.size)
    have G5 := Lib.hid (G4.out.to hb)
    clear G4 H4 hb B4 K4
    go_wp2_with fail
    refine (K5.out w5 b1 c1 G5.out).mono ?_
    rintro e w6 ⟨rfl, hb⟩
    have B6 := B5.trans (hb.mono B5.size)
    clear G5 hb B5 K5
    go_wp2_with fail
    refine (examples_keep w6).mono ?_
    rintro e w7 ⟨rfl, hb⟩
    have B7 := B6.trans (hb.mono B6.size)
    clear hb B6
    go_wp2_with fail
    go_ret
    exact ⟨rfl, B7⟩
  · have K1 := Lib.hid (transform_fails s a1 c1 l1 a2 c2 l2 he HS.out HL1.out HL2.out)
    generalize trErr s l1 l2 = v at *
    have hv1 : (v != 0) = true := by simpa using he
    clear he
    go_enter Try.func6, Try.ntmps6
    go_wp2_with fail
    refine (examples_keep w).mono ?_
    rintro e w1 ⟨rfl, hb⟩
    have B1 := hb
    have E1 := Lib.hid (E0.out.to hb)
    have F1 := Lib.hid (F0.out.to hb)
    clear E0 F0 hb
    go_wp2_with fail
    refine (K1.out w1 E1.out F1.out).mono ?_
    rintro e w2 ⟨b1, c1, b2, c2, rfl, hb⟩
    have B2 := B1.trans (hb.mono B1.size)
    clear E1 F1 hb B1 K1
    go_wp2_with fail
    refine (examples_keep w2).mono ?_
    rintro e w3 ⟨rfl, hb⟩
    have B3 := B2.trans (hb.mono B2.size)
    clear hb B2
    go_wp2_with fail
    go_ret
    exact ⟨rfl, B3⟩
end Go.Proofs.Ytbkiliiopondaaa.lawConv
