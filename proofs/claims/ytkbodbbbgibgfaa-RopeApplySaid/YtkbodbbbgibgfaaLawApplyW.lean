/-
  Applying edits to a rope yields the string that textedit.Apply returns: RopeApply's walk, for every source and every list of edits.
-/
import Derived.Test.YtkbodbbbgibgfaaRLoop
namespace Go.Proofs.Ytkbodbbbgibgfaa.lawApply
open Go.RowKit
attribute [local go_sem ↓] Go.wp_at_zero Go.wp_at_succ

set_option maxHeartbeats 4000000 in
set_option maxRecDepth 100000 in
theorem walk (s : ByteArray) (a : Option Addr) (cap : Nat) (l : List Ed) (w : World) (hs : s.size ≤ maxLen) (hl : l.length ≤ maxLen) (h : Eds w w.heap.size a l) :
    Calls Try.prog 6 #[.string s, .slice a l.length cap] w fun e w' => e = .returned (.bool true) ∧ Below w.heap.size w w' := by
  obtain ⟨t, ht⟩ : ∃ t, t = cut 300 s := ⟨_, rfl⟩
  have hts : t.size ≤ 300 := by rw [ht]; exact cut_size 300 s
  have htl : t.data.toList.length = t.size := by simp
  have htm : t.size ≤ maxLen := by unfold maxLen; omega
  have KS := Lib.hid (fun W => short_any s 300 W hs (by omega))
  rw [← ht] at KS
  have HE := Lib.hid h
  have KE := Lib.hid (fun W (hW : Below w.heap.size w W) => upto hW (example_any W))
  have KN := Lib.hid (fun W => new_any t W (by omega))
  clear hs h ht
  by_cases he : errV t.size l = 0
  · have hlen := apply_le (src := t.data.toList) (l := l) (by rw [htl]; exact he)
    have KA := Lib.hid (fun W (hW : Below w.heap.size w W) => upto hW (apply_ok t a cap l W htm hl ((HE.out.below hW).up hW.size) he))
    have KR := Lib.hid (fun W p (hW : Below w.heap.size w W) (hp : Hid (IsRope W p t.data.toList)) => rapply_ok p t.data.toList a cap l W hp ((HE.out.below hW).up hW.size) (by rw [htl]; exact he))
    generalize hout : applyL t.data.toList l = out at *
    obtain ⟨S, hS⟩ : ∃ S : ByteArray, S = ⟨out.toArray⟩ := ⟨_, rfl⟩
    have hSd : S.data.toList = out := by rw [hS]
    rw [← hS] at KA
    have KT := Lib.hid (fun W q (hq : Hid (IsRope W q out)) => rstr_of q S out hSd W hq (by omega))
    have KB := Lib.hid (fun W q (hq : Hid (IsRope W q out)) => bal_any q out W hq (by omega))
    clear he hlen hout hS hSd hl
    go_enter Try.func6, Try.ntmps6
    go_wp2_with fail
    refine (KE.out w (Below.refl _ _)).mono ?_
    rintro e w1 ⟨rfl, hb1⟩
    go_wp2_with fail
    refine (KS.out w1).mono ?_
    rintro e w2 ⟨rfl, rfl⟩
    go_wp2_with fail
    refine (KA.out w1 hb1).mono ?_
    rintro e w3 ⟨rfl, hb3⟩
    clear KA KS
    go_wp2_with fail
    refine (KN.out w3).mono ?_
    rintro e w4 ⟨p, rfl, R4, q4⟩
    have hb4 := hb3.trans (q4.mono hb3.size)
    clear KN
    go_wp2_with fail
    refine (KR.out w4 p hb4 R4).mono ?_
    rintro e w5 ⟨q, rfl, R5, q5⟩
    have hb5 := hb4.trans (q5.mono hb4.size)
    obtain ⟨q6, c0, _, hz⟩ := one_cell w5 q
    have R6 := IsRope.later R5 q6
    have hb6 := hb5.trans (q6.mono hb5.size)
    have D6 : Hid (Held (w5.alloc (.cells #[.pointer q] 27)) w5.heap.size q) := ⟨c0, by omega⟩
    clear KR R4
    go_wp2_with fail
    generalize w5.alloc (.cells #[.pointer q] 27) = w6 at *
    have K6 := Lib.hid (example_any w6)
    refine K6.out.mono ?_
    rintro e w7 ⟨rfl, q7⟩
    have R7 := IsRope.later R6 q7
    have D7 := Held.later D6 q7
    have c7 := D7.out.1
    have hb7 := hb6.trans (q7.mono hb6.size)
    clear K6 KE R5 R6 D6 c0 hz
    go_wp2_with fail
    refine (KT.out w7 q R7).mono ?_
    rintro e w8 ⟨rfl, q8⟩
    have R8 := IsRope.later R7 q8
    have c8 := (Held.later D7 q8).out.1
    have hb8 := hb7.trans (q8.mono hb7.size)
    clear KT R7 D7 c7
    go_wp2_with fail
    refine (KB.out w8 q R8).mono ?_
    rintro e w9 ⟨rfl, q9⟩
    have hb9 := hb8.trans (q9.mono hb8.size)
    go_wp2_with fail
    go_ret
    exact ⟨rfl, hb9⟩
  · have hv1 : (errV t.size l != 0) = true := by simpa using he
    have hv2 : (errV t.size l == 0) = false := by simpa using he
    have KA := Lib.hid (fun W (hW : Below w.heap.size w W) => upto hW (apply_bad t a cap l W htm hl ((HE.out.below hW).up hW.size) he))
    have KR := Lib.hid (fun W p (hW : Below w.heap.size w W) (hp : Hid (IsRope W p t.data.toList)) => rapply_bad p t.data.toList a cap l W hp (by omega) hl ((HE.out.below hW).up hW.size) (by rw [htl]; exact he))
    rw [htl] at KR
    generalize errV t.size l = v at *
    clear he hl
    go_enter Try.func6, Try.ntmps6
    go_wp2_with fail
    refine (KE.out w (Below.refl _ _)).mono ?_
    rintro e w1 ⟨rfl, hb1⟩
    go_wp2_with fail
    refine (KS.out w1).mono ?_
    rintro e w2 ⟨rfl, rfl⟩
    go_wp2_with fail
    refine (KA.out w1 hb1).mono ?_
    rintro e w3 ⟨rfl, hb3⟩
    clear KA KS
    go_wp2_with fail
    refine (KN.out w3).mono ?_
    rintro e w4 ⟨p, rfl, R4, q4⟩
    have hb4 := hb3.trans (q4.mono hb3.size)
    clear KN
    go_wp2_with fail
    refine (KR.out w4 p hb4 R4).mono ?_
    rintro e w5 ⟨rfl, q5⟩
    have hb5 := hb4.trans (q5.mono hb4.size)
    obtain ⟨q6, c0, _, hz⟩ := one_cell w5 none
    have hb6 := hb5.trans (q6.mono hb5.size)
    have D6 : Hid (Held (w5.alloc (.cells #[.pointer none] 27)) w5.heap.size none) := ⟨c0, by omega⟩
    clear KR R4
    go_wp2_with fail
    generalize w5.alloc (.cells #[.pointer none] 27) = w6 at *
    have K6 := Lib.hid (example_any w6)
    refine K6.out.mono ?_
    rintro e w7 ⟨rfl, q7⟩
    have D7 := Held.later D6 q7
    have c7 := D7.out.1
    have hb7 := hb6.trans (q7.mono hb6.size)
    clear K6 KE D6 c0 hz
    go_wp2_with fail
    refine (len_none w7).mono ?_
    rintro e w8 ⟨rfl, q8⟩
    go_wp2_with fail
    go_ret
    exact ⟨rfl, hb7.trans (q8.mono hb7.size)⟩
end Go.Proofs.Ytkbodbbbgibgfaa.lawApply
