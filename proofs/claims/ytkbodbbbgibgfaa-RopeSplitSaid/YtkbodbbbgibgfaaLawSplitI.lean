/-
  Split divides the contents of a rope, and ByteAt returns its bytes: RopeSplit's walk, for every list of parts and every index.
-/
import Derived.Test.YtkbodbbbgibgfaaLawSplitW
namespace Go.Proofs.Ytkbodbbbgibgfaa.lawSplit
open Go.RowKit
attribute [local go_sem ↓] Go.wp_at_zero Go.wp_at_succ

set_option maxHeartbeats 2000000 in
set_option maxRecDepth 100000 in
theorem walk_in (a : Option Addr) (l : List ByteArray) (cp : Nat) (i : Int) (w : World) (hcs : ∀ m, m = min l.length 20 → 0 ≤ i ∧ i ≤ (cat (cuts l m)).length) (hl : l.length ≤ cp) (hcp : cp ≤ maxLen) (hs : ∀ x ∈ l, x.size ≤ maxLen) (h : Strs w w.heap.size a l) :
    Calls Try.prog 4 #[.slice a l.length cp, .int .i64 i] w fun e w' => e = .returned (.bool true) ∧ Below w.heap.size w w' := by
  obtain ⟨i0, hi, hz0, hz1, hz2⟩ := info_parts info_str
  obtain ⟨m, hM⟩ : ∃ m, m = min l.length 20 := ⟨_, rfl⟩
  have hm : min (l.length : Int) 20 = (m : Int) := by omega
  have m1 : m ≤ l.length := by omega
  have m2 : m ≤ 20 := by omega
  have m3 : (m : Int) ≤ l.length := by omega
  have m4 : (m : Int) ≤ cp := by omega
  have m5 : (l.length : Int) ≤ 9223372036854775807 := by unfold maxLen at hcp; omega
  have m6 : (0 : Int) ≤ m := by omega
  have hcp' : (cp : Int) ≤ 9223372036854775807 := by unfold maxLen at hcp; omega
  have H := Lib.hid h
  have HS := Lib.hid hs
  have HC := Lib.hid hcs
  have HM := Lib.hid hM
  clear h hs hcp hcs hM
  go_enter Try.func4, Try.ntmps4
  go_wp2_with fail
  refine (example_any w).mono ?_
  rintro e w1 ⟨rfl, hb1⟩
  have H1 := Lib.hid (H.out.to hb1)
  have z1 := hb1.size
  go_wp2_with fail
  go_loopw [5, 23] (fun v i wr => ∃ (k : Nat), k ≤ m ∧ i = .int .i64 k ∧ Hid (OwnsS wr w1.heap.size v (cuts l k)) ∧ Below w1.heap.size w1 wr)
    (fun _ i _ => m - (intOf i).toNat)
  case atStart => exact ⟨0, Nat.zero_le _, rfl, World.ownsRow_nil _ _ _ _, Below.refl _ _⟩
  case round =>
    obtain ⟨k, hk, rfl, hown, hb⟩ := hrel
    have hzw := hb.size
    by_cases hlt : k < m
    · have hx : l[k]? = some (l[k]'(by omega)) := List.getElem?_eq_getElem (by omega)
      obtain ⟨x, hX⟩ : ∃ x, x = l[k]'(by omega) := ⟨_, rfl⟩
      rw [← hX] at hx
      clear hX
      obtain ⟨b, o, rfl, hbb, hcell⟩ := H1.out.below hb (Nat.le_refl _) k x hx
      have hxs := HS.out x (List.mem_of_getElem? hx)
      have K1 := Lib.hid (fun W => short_any x 100 W hxs (by omega))
      have E1 := Lib.hid (cuts_step hx)
      have LK := Lib.hid (cuts_length (l := l) (k := k) (by omega))
      have k1 : (k : Int) < m := by omega
      have hown1 := hown.out
      rw [show OwnsS wr w1.heap.size _ (cuts l k) = wr.ownsRow w1.heap.size 9 1 _ (cuts l k).length ((cuts l k).map .string) from rfl, LK.out] at hown1
      have HOWN := Lib.hid hown1
      clear hx hxs hown hown1
      go_wp2_with fail
      refine (K1.out wr).mono ?_
      rintro e w2 ⟨rfl, rfl⟩
      go_wp2_with (at_builtin; refine wpList_append_own _ rfl _ _ 22 rfl w1.heap.size 9 i0 _ 1 16 Try.underlying22 hi hz0 hz1 hz2 rfl (by decide) _ _ _ rfl (HOWN.out.alloc _) ⟨wr.heap.size, 0, none⟩ 1 1 [.string (cut 100 x)] rfl rfl (World.news_of_block (heap_alloc_new wr _)) (by simp [Value.oneCell']) (by unfold maxLen; omega) (by omega) (by simp; omega) ?_)
      intro v' w3 hown' hgrow _
      have hown3 : Hid (OwnsS w3 w1.heap.size v' (cuts l (k + 1))) := by
        show World.ownsRow _ _ _ _ _ _ _
        rw [E1.out, List.length_append, List.map_append, LK.out]
        exact hown'
      have hb3 : Below w1.heap.size w1 w3 := (hb.alloc (by omega) _).grown hgrow (by simp; omega) (fun j hj => (HOWN.out.lt j hj).1)
      clear hown' HOWN
      go_wp2_with fail
      go_roundw
      case rel => exact ⟨k + 1, by omega, by go_num, hown3, hb3⟩
      case measure => simp [intOf]; omega
    · obtain rfl : k = m := by omega
      obtain ⟨a2, c2, rfl, hc2, hS⟩ := hown.out.strs
      have LK := cuts_length (l := l) (k := k) (by omega)
      have hlen := cuts_len l (k := k) (by omega) m2
      have hcase := HC.out k HM.out
      generalize cuts l k = q at *
      have K1 := Lib.hid (from_all q.length a2 q c2 wr (Nat.le_refl _) hS hc2 (by omega) (by omega))
      have hB := hb1.trans (hb.mono z1)
      obtain ⟨S, hSc⟩ : ∃ S : ByteArray, S.data.toList = cat q := ⟨⟨(cat q).toArray⟩, by simp⟩
      have HSC := Lib.hid hSc
      have hSl : S.size = (cat q).length := by rw [← hSc]; simp
      have HSL := Lib.hid hSl
      have hlc : (S.size : Int) ≤ 2000 := by omega
      have hlc0 : (0 : Int) ≤ S.size := by omega
      have hlcn := Lib.hid (show (cat q).length ≤ 1099511627776 by omega)
      have hi0 : 0 ≤ i := hcase.1
      have hi1 : i ≤ (S.size : Nat) := by have := hcase.2; omega
      clear hown H1 HS H LK hSc hSl hlen hcase
      go_wp2_with fail
      refine K1.out.mono ?_
      rintro e w2 ⟨p0, rfl, R0, hb2⟩
      have hB2 := hB.trans (hb2.mono hB.size)
      clear K1 hB hb2
      go_wp2_with fail
      obtain ⟨hb3, c0, _, hz⟩ := one_cell w2 p0
      generalize w2.alloc (.cells #[.pointer p0] 27) = w3 at *
      have R3 := IsRope.later R0 hb3
      have hB3 := hB2.trans (hb3.mono hB2.size)
      have D3 : Hid (Held w3 w2.heap.size p0) := ⟨c0, by omega⟩
      have K2 := Lib.hid (rstr_of p0 S _ HSC.out w3 R3 hlcn.out)
      clear R0 c0 hz hB2 hb3
      refine K2.out.mono ?_
      rintro e w4 ⟨rfl, hb4⟩
      have R4 := IsRope.later R3 hb4
      have hB4 := hB3.trans (hb4.mono hB3.size)
      have D4 := Held.later D3 hb4
      have d4 := D4.out.1
      clear K2 R3 hB3 D3 hb4
      have K3 := Lib.hid (split_in p0 _ i w4 R4 hi0 (by rw [← HSL.out]; exact hi1) hlcn.out)
      go_wp2_with fail
      refine K3.out.mono ?_
      rintro e w5 ⟨p1, p2, rfl, R51, R52, hb5⟩
      have d5 := (Held.later (Held.later D4 hb5) (two_cells w5 p1 p2).1).out.1
      go_wp2_with fail
      obtain ⟨hb6, c1, c2, hz⟩ := two_cells w5 p1 p2
      generalize (w5.alloc (.cells #[.pointer p1] 27)).alloc (.cells #[.pointer p2] 27) = w6 at *
      have hb56 := hb5.trans (hb6.mono hb5.size)
      have R60 := IsRope.later R4 hb56
      have R61 := IsRope.later R51 hb6
      have R62 := IsRope.later R52 hb6
      have hB6 := hB4.trans (hb56.mono hB4.size)
      have D60 := (Held.later D4 hb56)
      have D61 : Hid (Held w6 w5.heap.size p1) := ⟨c1, by omega⟩
      have D62 : Hid (Held w6 (w5.heap.size + 1) p2) := ⟨c2, by omega⟩
      clear d5 K3 R4 R51 R52 D4 d4 hB4 c1 c2 hz hb5 hb6 hb56
      have i1 : (i : Int) ≤ 2000 := by omega
      have TK := Lib.hid (show (S.extract 0 i.toNat).data.toList = (cat q).take i.toNat by rw [Lib.extract_data, HSC.out]; simp)
      have DR := Lib.hid (show (S.extract i.toNat S.size).data.toList = (cat q).drop i.toNat by rw [Lib.extract_to_end, HSC.out])
      have tl : ((cat q).take i.toNat).length ≤ 1099511627776 := by have := hlcn.out; rw [List.length_take]; omega
      have dl : ((cat q).drop i.toNat).length ≤ 1099511627776 := by have := hlcn.out; rw [List.length_drop]; omega
      have sl : ((cat q).take i.toNat).length + ((cat q).drop i.toNat).length ≤ 1099511627776 := by have := hlcn.out; rw [List.length_take, List.length_drop]; omega
      have TD := Lib.hid (show S.data.toList = (cat q).take i.toNat ++ (cat q).drop i.toNat by rw [List.take_append_drop]; exact HSC.out)
      have QT := Lib.hid tl
      have QD := Lib.hid dl
      have QS := Lib.hid sl
      clear tl dl sl
      by_cases hlt2 : i < (S.size : Nat)
      · have hb' : i.toNat < S.size := by omega
        have K5 := Lib.hid (byteAt_of p0 S _ HSC.out i w6 R60 hi0 hb' hlcn.out)
        have hne : (i == (S.size : Int)) = false := by simp; omega
        have hn1 : ¬ i < 0 := by omega
        refine K5.out.mono ?_
        rintro e w7 ⟨rfl, hb7⟩
        have hB7 := hB6.trans (hb7.mono hB6.size)
        have D70 := Held.later D60 hb7
        have D71 := Held.later D61 hb7
        have D72 := Held.later D62 hb7
        have R70 := IsRope.later R60 hb7
        have R71 := IsRope.later R61 hb7
        have R72 := IsRope.later R62 hb7
        have J1 := Lib.hid (fun W (hW : Below w7.heap.size w7 W) => upto hW (example_any W))
        have J2 := Lib.hid (fun W (hW : Below w7.heap.size w7 W) => upto hW (rstr_of p1 (S.extract 0 i.toNat) _ TK.out W (IsRope.later R71 hW) QT.out))
        have J3 := Lib.hid (fun W (hW : Below w7.heap.size w7 W) => upto hW (rstr_of p2 (S.extract i.toNat S.size) _ DR.out W (IsRope.later R72 hW) QD.out))
        have J4 := Lib.hid (fun W (hW : Below w7.heap.size w7 W) => concat_any p1 p2 _ _ W (IsRope.later R71 hW) (IsRope.later R72 hW) QS.out)
        have J5 := Lib.hid (fun W p (hW : Below w7.heap.size w7 W) (hp : Hid (IsRope W p ((cat q).take i.toNat ++ (cat q).drop i.toNat))) => upto hW (rstr_of p S _ TD.out W hp (by have := QS.out; rw [List.length_append]; omega)))
        have J6 := Lib.hid (fun W (hW : Below w7.heap.size w7 W) => upto hW (rstr_of p0 S _ HSC.out W (IsRope.later R70 hW) hlcn.out))
        have HS : Hid (∀ W, Below w7.heap.size w7 W → W.cell? ⟨w2.heap.size, 0, none⟩ = some (.pointer p0) ∧ W.cell? ⟨w5.heap.size, 0, none⟩ = some (.pointer p1) ∧ W.cell? ⟨w5.heap.size + 1, 0, none⟩ = some (.pointer p2)) :=
          fun W hW => ⟨(D70.out.to hW).1, (D71.out.to hW).1, (D72.out.to hW).1⟩
        obtain ⟨s0, s1, s2⟩ := HS.out w7 (Below.refl _ _)
        clear K5 R60 R61 R62 R70 R71 R72 D60 D61 D62 hB6 TK DR TD QT QD QS
        go_wp2_with fail
        go_region_held3 (fun w' => w'.cell? ⟨w2.heap.size, 0, none⟩ = some (.pointer p0) ∧ w'.cell? ⟨w5.heap.size, 0, none⟩ = some (.pointer p1) ∧ w'.cell? ⟨w5.heap.size + 1, 0, none⟩ = some (.pointer p2)) (first | go_keep | exact HS.out _ q6 | exact HS.out _ q5 | exact HS.out _ q4 | exact HS.out _ q3 | exact HS.out _ q2 | exact HS.out _ q1)
          (first
            | (go_at_call 7; refine (J1.out _ ?_).mono ?_; (first | exact Below.refl _ _ | exact (Below.refl _ _).drew | exact below_drewN _ _ _); rintro e w8 ⟨rfl, q1⟩; clear J1)
            | (go_at_call 10; refine (J2.out _ q1).mono ?_; rintro e w9 ⟨rfl, q2⟩; clear J2)
            | (go_at_call 10; refine (J3.out _ q2).mono ?_; rintro e w10 ⟨rfl, q3⟩; clear J3)
            | (go_at_call 14; refine (J4.out _ q3).mono ?_; rintro e w11 ⟨p4, rfl, hp4, qq⟩; have q4 := q3.trans (qq.mono q3.size); clear J4)
            | (go_at_call 10; refine (J5.out _ _ q4 hp4).mono ?_; rintro e w12 ⟨rfl, q5⟩; clear J5)
            | (go_at_call 10; refine (J6.out _ q5).mono ?_; rintro e w13 ⟨rfl, q6⟩; clear J6))
        go_wp2_with fail
        go_ret
        exact ⟨rfl, hB7.trans (q6.mono hB7.size)⟩
      · have K5 := Lib.hid (byteAt_out p0 _ i w6 R60 (by right; have := HSL.out; omega))
        have hne : (i == (S.size : Int)) = true := by simp; omega
        have hn1 : ¬ i < 0 := by omega
        refine K5.out.mono ?_
        rintro e w7 ⟨rfl, hb7⟩
        have hB7 := hB6.trans (hb7.mono hB6.size)
        have D70 := Held.later D60 hb7
        have D71 := Held.later D61 hb7
        have D72 := Held.later D62 hb7
        have R70 := IsRope.later R60 hb7
        have R71 := IsRope.later R61 hb7
        have R72 := IsRope.later R62 hb7
        have J1 := Lib.hid (fun W (hW : Below w7.heap.size w7 W) => upto hW (example_any W))
        have J2 := Lib.hid (fun W (hW : Below w7.heap.size w7 W) => upto hW (rstr_of p1 (S.extract 0 i.toNat) _ TK.out W (IsRope.later R71 hW) QT.out))
        have J3 := Lib.hid (fun W (hW : Below w7.heap.size w7 W) => upto hW (rstr_of p2 (S.extract i.toNat S.size) _ DR.out W (IsRope.later R72 hW) QD.out))
        have J4 := Lib.hid (fun W (hW : Below w7.heap.size w7 W) => concat_any p1 p2 _ _ W (IsRope.later R71 hW) (IsRope.later R72 hW) QS.out)
        have J5 := Lib.hid (fun W p (hW : Below w7.heap.size w7 W) (hp : Hid (IsRope W p ((cat q).take i.toNat ++ (cat q).drop i.toNat))) => upto hW (rstr_of p S _ TD.out W hp (by have := QS.out; rw [List.length_append]; omega)))
        have J6 := Lib.hid (fun W (hW : Below w7.heap.size w7 W) => upto hW (rstr_of p0 S _ HSC.out W (IsRope.later R70 hW) hlcn.out))
        have HS : Hid (∀ W, Below w7.heap.size w7 W → W.cell? ⟨w2.heap.size, 0, none⟩ = some (.pointer p0) ∧ W.cell? ⟨w5.heap.size, 0, none⟩ = some (.pointer p1) ∧ W.cell? ⟨w5.heap.size + 1, 0, none⟩ = some (.pointer p2)) :=
          fun W hW => ⟨(D70.out.to hW).1, (D71.out.to hW).1, (D72.out.to hW).1⟩
        obtain ⟨s0, s1, s2⟩ := HS.out w7 (Below.refl _ _)
        clear K5 R60 R61 R62 R70 R71 R72 D60 D61 D62 hB6 TK DR TD QT QD QS
        go_wp2_with fail
        go_region_held3 (fun w' => w'.cell? ⟨w2.heap.size, 0, none⟩ = some (.pointer p0) ∧ w'.cell? ⟨w5.heap.size, 0, none⟩ = some (.pointer p1) ∧ w'.cell? ⟨w5.heap.size + 1, 0, none⟩ = some (.pointer p2)) (first | go_keep | exact HS.out _ q6 | exact HS.out _ q5 | exact HS.out _ q4 | exact HS.out _ q3 | exact HS.out _ q2 | exact HS.out _ q1)
          (first
            | (go_at_call 7; refine (J1.out _ ?_).mono ?_; (first | exact Below.refl _ _ | exact (Below.refl _ _).drew | exact below_drewN _ _ _); rintro e w8 ⟨rfl, q1⟩; clear J1)
            | (go_at_call 10; refine (J2.out _ q1).mono ?_; rintro e w9 ⟨rfl, q2⟩; clear J2)
            | (go_at_call 10; refine (J3.out _ q2).mono ?_; rintro e w10 ⟨rfl, q3⟩; clear J3)
            | (go_at_call 14; refine (J4.out _ q3).mono ?_; rintro e w11 ⟨p4, rfl, hp4, qq⟩; have q4 := q3.trans (qq.mono q3.size); clear J4)
            | (go_at_call 10; refine (J5.out _ _ q4 hp4).mono ?_; rintro e w12 ⟨rfl, q5⟩; clear J5)
            | (go_at_call 10; refine (J6.out _ q5).mono ?_; rintro e w13 ⟨rfl, q6⟩; clear J6))
        go_wp2_with fail
        go_ret
        exact ⟨rfl, hB7.trans (q6.mono hB7.size)⟩

theorem walk (a : Option Addr) (l : List ByteArray) (cp : Nat) (i : Int) (w : World) (hl : l.length ≤ cp) (hcp : cp ≤ maxLen) (hs : ∀ x ∈ l, x.size ≤ maxLen) (h : Strs w w.heap.size a l) (hi : -9223372036854775808 ≤ i ∧ i ≤ 9223372036854775807) :
    Calls Try.prog 4 #[.slice a l.length cp, .int .i64 i] w fun e w' => e = .returned (.bool true) ∧ Below w.heap.size w w' := by
  by_cases hc : 0 ≤ i ∧ i ≤ (cat (cuts l (min l.length 20))).length
  · exact walk_in a l cp i w (by rintro m rfl; exact hc) hl hcp hs h
  · exact walk_out a l cp i w (by rintro m rfl; omega) hl hcp hs h
end Go.Proofs.Ytkbodbbbgibgfaa.lawSplit
