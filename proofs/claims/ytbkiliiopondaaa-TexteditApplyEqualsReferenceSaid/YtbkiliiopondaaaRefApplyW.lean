/-
  Validate, Apply and Invert return the same results and errors as the reference: TexteditApplyEqualsReference, for every source and every list of edits.
-/
import Derived.Test.YtbkiliiopondaaaOpenR
import Derived.Test.YtbkiliiopondaaaRefInv
import Derived.Test.YtbkiliiopondaaaExL
import Derived.Test.YtbkiliiopondaaaEqual
import Derived.Test.YtbkiliiopondaaaWrap
namespace Go.Proofs.Ytbkiliiopondaaa.refApply
open Go.RowKit

theorem equal_none (w : World) : Calls Try.prog 15 #[.slice none 0 0, .slice none 0 0] w fun e w' => e = .returned (.bool true) ∧ Below w.heap.size w w' :=
  equal_same [] none 0 none 0 w (by simp) (fun i x hx => by simp at hx) (fun i x hx => by simp at hx)

set_option maxHeartbeats 1000000 in
set_option maxRecDepth 100000 in
theorem walk (s : ByteArray) (a : Option Addr) (cap : Nat) (l : List Ed) (w : World) (hs : s.size ≤ maxLen) (hl : l.length ≤ maxLen) (hc : l.length ≤ cap) (hr : Reach l) (h : Eds w w.heap.size a l) :
    Calls Try.prog 9 #[.string s, .slice a l.length cap] w fun e w' => e = .returned (.bool true) ∧ Below w.heap.size w w' := by
  have E0 := Lib.hid h
  have HS := Lib.hid hs
  have HL := Lib.hid hl
  have HR := Lib.hid hr
  have HC := Lib.hid hc
  clear hs hl h hr hc
  by_cases he : errV s.size l = 0
  · have hinv := inv_valid he
    have hil : (invL s l).length = l.length := inv_length
    obtain ⟨hn, hl5, hsep, hfit⟩ := errV_zero he
    have hord : Ord s.size 0 l := sep_ord (p := 0) (by omega) (by omega) hsep
    have hts : tsum l ≤ 200000 := by
      have h6 := (sep_inside (by omega) hsep).dsum_le hn hl5 l.length
      rw [List.take_length] at h6
      have h8 := of_decide_eq_true hfit
      omega
    have K1 := Lib.hid (apply_v s a cap l he HS.out HL.out)
    have K2 : Hid (∀ W, Eds W W.heap.size a l → Calls Try.prog 14 #[.string s, .slice a l.length cap] W fun e w' => ∃ b c, e = .returned (.tuple #[.slice b (invL s l).length c, .int .i64 0]) ∧ Hid (Eds w' w'.heap.size b (invL s l)) ∧ Below W.heap.size W w') := fun W hW => by
      refine (invert_ok s a cap l W HS.out HL.out hW he).mono ?_
      rintro e w' ⟨v, rfl, ho, hb⟩
      obtain ⟨b, c, rfl, hE⟩ := ho.out.eds (valid_ok (by omega) hinv)
      exact ⟨b, c, rfl, hE, hb⟩
    have K3 : Hid (∀ W, Eds W W.heap.size a l → Calls Try.prog 20 #[.string s, .slice a l.length cap] W fun e w' => e = .returned (.int .i64 0) ∧ Below W.heap.size W w') := fun W hW => by
      have := refval_any s a cap l W HS.out HL.out HR hW
      rw [he] at this
      exact this
    have K4 : Hid (∀ W, Eds W W.heap.size a l → Calls Try.prog 21 #[.string s, .slice a l.length cap] W fun e w' => e = .returned (.string (applyS s l)) ∧ Below W.heap.size W w') := fun W hW =>
      (refapp_any s a cap l W hord hl5 (by omega) hts hW).mono fun e w' ⟨he, n, hn⟩ => ⟨he, hn ▸ below_drewN' (Below.refl _ _) n⟩
    have K5 : Hid (∀ W, Eds W W.heap.size a l → Calls Try.prog 22 #[.string s, .slice a l.length cap] W fun e w' => ∃ b c, e = .returned (.slice b (invL s l).length c) ∧ Hid (Eds w' w'.heap.size b (invL s l)) ∧ Below W.heap.size W w') := fun W hW => by
      refine (refinv_any s a cap l W HC.out hW he).mono ?_
      rintro e w' ⟨v, rfl, ho, hb⟩
      obtain ⟨b, c, rfl, hE⟩ := ho.out.eds (valid_ok (by omega) hinv)
      exact ⟨b, c, rfl, hE, hb⟩
    have K6 : Hid (∀ W, Eds W W.heap.size a l → Calls Try.prog 18 #[.string s, .slice a l.length cap] W fun e w' => e = .returned (.int .i64 0) ∧ Below W.heap.size W w') := fun W hW => by
      have := valid_any s a cap l W HS.out HL.out hW
      rw [he] at this
      exact this
    have K8 := Lib.hid (fun b c b' c' W => equal_same (invL s l) b c b' c' W (by omega))
    clear hinv he hord hts hsep hfit hn hil
    generalize applyS s l = r at *
    go_enter Try.func9, Try.ntmps9
    go_wp2_with fail
    refine (examples_law w).mono ?_
    rintro e w1 ⟨rfl, hb⟩
    have B1 := hb
    have E1 := Lib.hid (E0.out.to hb)
    clear E0 hb
    go_wp2_with fail
    refine (K1.out w1 E1.out).mono ?_
    rintro e w2 ⟨rfl, hb⟩
    have B2 := B1.trans (hb.mono B1.size)
    have E2 := Lib.hid (E1.out.to hb)
    clear E1 hb B1 K1
    go_wp2_with fail
    refine (K2.out w2 E2.out).mono ?_
    rintro e w3 ⟨b1, c1, rfl, F3, hb⟩
    have B3 := B2.trans (hb.mono B2.size)
    have E3 := Lib.hid (E2.out.to hb)
    clear E2 hb B2 K2
    go_wp2_with fail
    refine (K3.out w3 E3.out).mono ?_
    rintro e w4 ⟨rfl, hb⟩
    have B4 := B3.trans (hb.mono B3.size)
    have E4 := Lib.hid (E3.out.to hb)
    have F4 := Lib.hid (F3.out.to hb)
    clear E3 F3 hb B3 K3
    go_wp2_with fail
    refine (K4.out w4 E4.out).mono ?_
    rintro e w5 ⟨rfl, hb⟩
    have B5 := B4.trans (hb.mono B4.size)
    have E5 := Lib.hid (E4.out.to hb)
    have F5 := Lib.hid (F4.out.to hb)
    clear E4 F4 hb B4 K4
    go_wp2_with fail
    refine (K5.out w5 E5.out).mono ?_
    rintro e w6 ⟨b2, c2, rfl, G6, hb⟩
    have B6 := B5.trans (hb.mono B5.size)
    have E6 := Lib.hid (E5.out.to hb)
    have F6 := Lib.hid (F5.out.to hb)
    clear E5 F5 hb B5 K5
    go_wp2_with fail
    refine (K6.out w6 E6.out).mono ?_
    rintro e w7 ⟨rfl, hb⟩
    have B7 := B6.trans (hb.mono B6.size)
    have F7 := Lib.hid (F6.out.to hb)
    have G7 := Lib.hid (G6.out.to hb)
    clear E6 F6 G6 hb B6 K6
    go_wp2_with fail
    refine (K8.out b1 c1 b2 c2 w7 F7.out G7.out).mono ?_
    rintro e w8 ⟨rfl, hb⟩
    have B8 := B7.trans (hb.mono B7.size)
    clear F7 G7 hb B7
    go_wp2_with fail
    go_ret
    exact ⟨rfl, B8⟩
  · have K1 : Hid (∀ W, Eds W W.heap.size a l → Calls Try.prog 13 #[.string s, .slice a l.length cap] W fun e w' => e = .returned (.tuple #[.string ⟨#[]⟩, .int .i64 (errV s.size l)]) ∧ Below W.heap.size W w') := fun W hW => apply_bad s a cap l W HS.out HL.out hW he
    have K2 : Hid (∀ W, Eds W W.heap.size a l → Calls Try.prog 14 #[.string s, .slice a l.length cap] W fun e w' => e = .returned (.tuple #[.slice none 0 0, .int .i64 (errV s.size l)]) ∧ Below W.heap.size W w') := fun W hW => invert_bad s a cap l W HS.out HL.out hW he
    have K3 : Hid (∀ W, Eds W W.heap.size a l → Calls Try.prog 20 #[.string s, .slice a l.length cap] W fun e w' => e = .returned (.int .i64 (errV s.size l)) ∧ Below W.heap.size W w') := fun W hW => refval_any s a cap l W HS.out HL.out HR hW
    have K6 : Hid (∀ W, Eds W W.heap.size a l → Calls Try.prog 18 #[.string s, .slice a l.length cap] W fun e w' => e = .returned (.int .i64 (errV s.size l)) ∧ Below W.heap.size W w') := fun W hW => valid_any s a cap l W HS.out HL.out hW
    have K7 := Lib.hid equal_none
    generalize errV s.size l = v at *
    have hv1 : (v == 0) = false := by simpa using he
    clear he
    go_enter Try.func9, Try.ntmps9
    go_wp2_with fail
    refine (examples_law w).mono ?_
    rintro e w1 ⟨rfl, hb⟩
    have B1 := hb
    have E1 := Lib.hid (E0.out.to hb)
    clear E0 hb
    go_wp2_with fail
    refine (K1.out w1 E1.out).mono ?_
    rintro e w2 ⟨rfl, hb⟩
    have B2 := B1.trans (hb.mono B1.size)
    have E2 := Lib.hid (E1.out.to hb)
    clear E1 hb B1 K1
    go_wp2_with fail
    refine (K2.out w2 E2.out).mono ?_
    rintro e w3 ⟨rfl, hb⟩
    have B3 := B2.trans (hb.mono B2.size)
    have E3 := Lib.hid (E2.out.to hb)
    clear E2 hb B2 K2
    go_wp2_with fail
    refine (K3.out w3 E3.out).mono ?_
    rintro e w4 ⟨rfl, hb⟩
    have B4 := B3.trans (hb.mono B3.size)
    have E4 := Lib.hid (E3.out.to hb)
    clear E3 hb B3 K3
    go_wp2_with fail
    refine (K6.out w4 E4.out).mono ?_
    rintro e w5 ⟨rfl, hb⟩
    have B5 := B4.trans (hb.mono B4.size)
    clear E4 hb B4 K6
    go_wp2_with fail
    refine (K7.out w5).mono ?_
    rintro e w6 ⟨rfl, hb⟩
    have B6 := B5.trans (hb.mono B5.size)
    clear hb B5
    go_wp2_with fail
    go_ret
    exact ⟨rfl, B6⟩
end Go.Proofs.Ytbkiliiopondaaa.refApply
