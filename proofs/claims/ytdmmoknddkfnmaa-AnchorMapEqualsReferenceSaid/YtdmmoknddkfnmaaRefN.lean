/-
  Map, MapRange and MapAll return the same results and errors as the reference: AnchorMapEqualsReference, for every list of edits, all offsets and either gravity.
-/
import Derived.Test.YtdmmoknddkfnmaaAOff
import Derived.Test.YtdmmoknddkfnmaaAOrd
import Derived.Test.YtdmmoknddkfnmaaAAll
import Derived.Test.YtdmmoknddkfnmaaAExL
import Derived.Test.YtdmmoknddkfnmaaOpenZ
import Derived.Laws.AppendOwnNone
namespace Go.Proofs.Ytdmmoknddkfnmaa.lawRef
open Go.RowKit

set_option maxHeartbeats 2000000 in
set_option maxRecDepth 100000 in
theorem walkN (a : Option Addr) (cap : Nat) (l : List Ed) (s t : Int) (f : Bool) (a2 : Option Addr) (cap2 : Nat) (zs : List Int) (w : World) (hr : zs.length * 8 ≤ 140737488351232) (E0 : Hid (Eds w w.heap.size a l)) (Z0 : Hid (Ints w w.heap.size a2 zs))
    (Z : List Int) (eL : Int) (c1 : s < 0)
    (HX1 : Hid (negB zs = true → eL = 1 ∧ Z = [])) (HX0 : Hid (negB zs = false → eL = 0 ∧ Z = allL l f zs))
    (K8 : Hid (∀ o W, (-9223372036854775808 ≤ o ∧ o ≤ 9223372036854775807) → Eds W W.heap.size a l → Calls Try.prog 18 #[.slice a l.length cap, .int .i64 o, .bool f] W fun e w' => e = .returned (.int .i64 (wrap64 (mp o f l))) ∧ Below W.heap.size W w'))
    (K1 : Hid (∀ W, Eds W W.heap.size a l → Calls Try.prog 9 #[.slice a l.length cap, .int .i64 s, .bool f] W fun e w' => e = .returned (.tuple #[.int .i64 0, .int .i64 1]) ∧ Below W.heap.size W w'))
    (K2 : Hid (∀ W, Eds W W.heap.size a l → Calls Try.prog 15 #[.slice a l.length cap, .int .i64 s, .int .i64 t, .bool f] W fun e w' => e = .returned (.tuple #[.int .i64 0, .int .i64 0, .int .i64 1]) ∧ Below W.heap.size W w'))
    (K3 : Hid (∀ W, Eds W W.heap.size a l → Ints W W.heap.size a2 zs → Calls Try.prog 16 #[.slice a l.length cap, .slice a2 zs.length cap2, .bool f] W fun e w' => ∃ b c, e = .returned (.tuple #[.slice b Z.length c, .int .i64 eL]) ∧ Hid (Ints w' w'.heap.size b Z) ∧ Below W.heap.size W w'))
    (K4 : Hid (∀ W, Eds W W.heap.size a l → Calls Try.prog 17 #[.slice a l.length cap] W fun e w' => e = .returned (.int .i64 0) ∧ Below W.heap.size W w'))
    : Calls Try.prog 7 #[.slice a l.length cap, .int .i64 s, .int .i64 t, .bool f, .slice a2 zs.length cap2] w fun e w' => e = .returned (.bool true) ∧ Below w.heap.size w w' := by
  obtain ⟨i0, hi, hz0, hz1, hz2⟩ := info_parts info_int
  go_enter Try.func7, Try.ntmps7
  go_wp2_with fail
  refine (exa_law w).mono ?_
  rintro e w1 ⟨rfl, hb⟩
  have B1 := hb
  have E1 := Lib.hid (E0.out.fwd hb)
  have Z1 := Lib.hid (Z0.out.fwd hb)
  clear E0 Z0 hb
  go_wp2_with fail
  refine (K1.out w1 E1.out).mono ?_
  rintro e w2 ⟨rfl, hb⟩
  have B2 := B1.trans (hb.mono B1.size)
  have E2 := Lib.hid (E1.out.fwd hb)
  have Z2 := Lib.hid (Z1.out.fwd hb)
  clear E1 Z1 hb B1 K1
  go_wp2_with fail
  refine (K2.out w2 E2.out).mono ?_
  rintro e w3 ⟨rfl, hb⟩
  have B3 := B2.trans (hb.mono B2.size)
  have E3 := Lib.hid (E2.out.fwd hb)
  have Z3 := Lib.hid (Z2.out.fwd hb)
  clear E2 Z2 hb B2 K2
  go_wp2_with fail
  refine (K3.out w3 E3.out Z3.out).mono ?_
  rintro e w4 ⟨b1, b2, rfl, P4, hb⟩
  have B4 := B3.trans (hb.mono B3.size)
  have E4 := Lib.hid (E3.out.fwd hb)
  have Z4 := Lib.hid (Z3.out.fwd hb)
  clear E3 Z3 hb B3 K3
  go_wp2_with fail
  refine (K4.out w4 E4.out).mono ?_
  rintro e w5 ⟨rfl, hb⟩
  have B5 := B4.trans (hb.mono B4.size)
  have E5 := Lib.hid (E4.out.fwd hb)
  have Z5 := Lib.hid (Z4.out.fwd hb)
  have P5 := Lib.hid (P4.out.fwd hb)
  clear E4 Z4 P4 hb B4 K4
  go_wp2_with fail
  go_loopw [21, 25, 26] (fun er v j wr => ∃ (k : Nat) (acc : List Int), k ≤ zs.length ∧ j = .int .i64 k ∧ acc.length ≤ k ∧ Hid (OwnsI wr w5.heap.size v acc) ∧ Below w5.heap.size w5 wr ∧ Hid (InI acc) ∧
      ((er = .int .i64 1 ∧ eL = 1 ∧ Z = [] ∧ acc = []) ∨ (er = .int .i64 0 ∧ Hid (allL l f zs = acc ++ allL l f (zs.drop k)) ∧ Hid (negB zs = negB (zs.drop k)))))
    (fun _ _ j _ => zs.length - (intOf j).toNat)
  case atStart => exact ⟨0, [], Nat.zero_le _, rfl, Nat.le_refl _, OwnsI.nil _ _, Below.refl _ _, fun z hz => (by simp at hz), Or.inr ⟨rfl, rfl, rfl⟩⟩
  case round =>
    obtain ⟨k, acc, hk, rfl, hak, hown, hb, hin, hst⟩ := hrel
    have hzw := hb.size
    have PF : Hid (Ints wr wr.heap.size b1 Z) := P5.out.fwd hb
    have BF := B5.trans (hb.mono B5.size)
    have hz16 : zs.length ≤ 17592186044416 := by omega
    rcases hst with ⟨rfl, rfl, rfl, rfl⟩ | ⟨rfl, hacc, hneg⟩
    · obtain ⟨q1, q2, rfl, hQ⟩ := hown.out.ints hin.out
      have QF := Lib.hid hQ
      clear hQ P5 B5 hown hin HX1 HX0
      by_cases hlt : k < zs.length
      · go_wp2_with fail
        refine (equal_ints [] _ _ _ _ _ (Nat.zero_le _) PF.out QF.out).mono ?_
        rintro e w9 ⟨rfl, hb9⟩
        have B9 := BF.trans (hb9.mono BF.size)
        clear hb9 BF
        go_wp2_with fail
        go_ret
        exact ⟨rfl, B9⟩
      · go_wp2_with fail
        refine (equal_ints [] _ _ _ _ _ (Nat.zero_le _) PF.out QF.out).mono ?_
        rintro e w9 ⟨rfl, hb9⟩
        have B9 := BF.trans (hb9.mono BF.size)
        clear hb9 BF
        go_wp2_with fail
        go_ret
        exact ⟨rfl, B9⟩
    · by_cases hlt : k < zs.length
      · have hx : zs[k]? = some zs[k] := List.getElem?_eq_getElem hlt
        obtain ⟨x, hX⟩ : ∃ x, x = zs[k] := ⟨_, rfl⟩
        rw [← hX] at hx
        clear hX
        obtain ⟨hxi, b, oo, rfl, hbl, g0⟩ := (Z5.out.below hb) k x hx
        obtain ⟨hin1, hin2⟩ := hxi
        have hacc2 := Lib.hid (all_step hx hacc.out)
        have hneg2 := Lib.hid (neg_step hx hneg.out)
        clear hacc hneg hx PF BF
        by_cases c : x < 0
        · have HE := HX1.out (by rw [hneg2.out, decide_eq_true c]; rfl)
          obtain ⟨rfl, rfl⟩ := HE
          clear HX1 HX0 hneg2 hacc2 hown
          go_wp2_with fail
          go_roundw
          case rel => exact ⟨k + 1, [], by omega, by go_num, by simp, OwnsI.nil _ _, hb, fun z hz => (by simp at hz), Or.inl ⟨by trivial, by trivial, by trivial, by trivial⟩⟩
          case measure => simp [intOf]; omega
        · have hneg3 : Hid (negB zs = negB (zs.drop (k + 1))) := by show _ = _; rw [hneg2.out, decide_eq_false c]; rfl
          clear hneg2
          go_wp2_with fail
          refine (K8.out x wr ⟨hin1, hin2⟩ (E5.out.fwd hb)).mono ?_
          rintro e w2 ⟨rfl, hb2⟩
          have hb3 := hb.trans (hb2.mono hzw)
          have hown2 := Lib.hid (hown.out.below hb2)
          have hz3 := hb3.size
          clear hb2 hown
          go_wp2_with (at_builtin; refine wpList_append_own _ rfl _ _ 39 rfl w5.heap.size 3 i0 _ 1 8 Try.underlying39 hi hz0 hz1 hz2 rfl (by decide) _ _ _ rfl (hown2.out.alloc _) ⟨w2.heap.size, 0, none⟩ 1 1 [.int .i64 (wrap64 (mp x f l))] rfl rfl (World.news_of_block (heap_alloc_new w2 _)) (by simp [Value.oneCell']) (by unfold maxLen; omega) (by omega) (by simp; omega) ?_)
          intro v' w3 hown' hgrow _
          have hown3 : Hid (OwnsI w3 w5.heap.size v' (acc ++ [wrap64 (mp x f l)])) := by
            show World.ownsRow _ _ _ _ _ _ _
            rw [List.length_append, iCells_append]
            exact hown'
          have hb4 : Below w5.heap.size w5 w3 := (hb3.alloc hz3 _).grown hgrow (by simp; omega) (fun j hj => (hown2.out.lt j hj).1)
          have hin4 : Hid (InI (acc ++ [wrap64 (mp x f l)])) := fun z hz => by
            rcases List.mem_append.1 hz with q | q
            · exact hin.out z q
            · simp at q; subst q; exact wrap_in64 _
          clear hown' hgrow hown2
          go_wp2_with fail
          go_roundw
          case rel => exact ⟨k + 1, _, by omega, by go_num, by simp; omega, hown3, hb4, hin4, Or.inr ⟨rfl, hacc2, hneg3⟩⟩
          case measure => simp [intOf]; omega
      · have HE := HX0.out (by rw [hneg.out, List.drop_eq_nil_of_le (by omega)]; rfl)
        have hl4 : allL l f zs = acc := by
          have := hacc.out
          rw [List.drop_eq_nil_of_le (by omega), show allL l f [] = [] from rfl, List.append_nil] at this
          exact this
        rw [hl4] at HE
        obtain ⟨rfl, rfl⟩ := HE
        obtain ⟨q1, q2, rfl, hQ⟩ := hown.out.ints hin.out
        have QF := Lib.hid hQ
        clear hQ hl4 P5 B5 hown hin HX1 HX0 hacc hneg
        go_wp2_with fail
        refine (equal_ints _ _ _ _ _ _ (by unfold maxLen; omega) PF.out QF.out).mono ?_
        rintro e w9 ⟨rfl, hb9⟩
        have B9 := BF.trans (hb9.mono BF.size)
        clear hb9 BF
        go_wp2_with fail
        go_ret
        exact ⟨rfl, B9⟩

end Go.Proofs.Ytdmmoknddkfnmaa.lawRef
