/-
  The contents of a concatenation of ropes do not depend on how it is computed, and have the length of the parts: RopeConcat's walk, for every list of parts.
-/
import Derived.Test.YtkbodbbbgibgfaaStrs
namespace Go.Proofs.Ytkbodbbbgibgfaa.lawConcat
open Go.RowKit
attribute [local go_sem ↓] Go.wp_at_zero Go.wp_at_succ

set_option maxHeartbeats 2000000 in
set_option maxRecDepth 100000 in
theorem walk (a : Option Addr) (l : List ByteArray) (cp : Nat) (w : World) (hl : l.length ≤ cp) (hcp : cp ≤ maxLen) (hs : ∀ x ∈ l, x.size ≤ maxLen) (h : Strs w w.heap.size a l) :
    Calls Try.prog 3 #[.slice a l.length cp] w fun e w' => e = .returned (.bool true) ∧ Below w.heap.size w w' := by
  obtain ⟨i0, hi, hz0, hz1, hz2⟩ := info_parts info_str
  obtain ⟨m, hM⟩ : ∃ m, m = min l.length 20 := ⟨_, rfl⟩
  have hm : min (l.length : Int) 20 = (m : Int) := by omega
  have m1 : m ≤ l.length := by omega
  have m2 : m ≤ 20 := by omega
  have m3 : (m : Int) ≤ l.length := by omega
  have m4 : (m : Int) ≤ cp := by omega
  have m5 : (l.length : Int) ≤ 9223372036854775807 := by unfold maxLen at hcp; omega
  have m6 : (0 : Int) ≤ m := by omega
  have hcp' : (cp : Int) ≤ 9223372036854775807 := by unfold maxLen at hcp; omega
  have H := Lib.hid h
  have HS := Lib.hid hs
  clear h hs hM hcp
  go_enter Try.func3, Try.ntmps3
  go_wp2_with fail
  refine (example_any w).mono ?_
  rintro e w1 ⟨rfl, hb1⟩
  have H1 := Lib.hid (H.out.to hb1)
  have z1 := hb1.size
  have HW1 : Hid (w1.heap.size = w1.heap.size) := rfl
  go_wp2_with fail
  go_loopw [3, 4, 17] (fun v u i wr => ∃ (k : Nat), k ≤ m ∧ i = .int .i64 k ∧ u = .string ⟨(cat (cuts l k)).toArray⟩ ∧ Hid (OwnsS wr w1.heap.size v (cuts l k)) ∧ Below w1.heap.size w1 wr)
    (fun _ _ i _ => m - (intOf i).toNat)
  case atStart => exact ⟨0, Nat.zero_le _, rfl, rfl, World.ownsRow_nil _ _ _ _, Below.refl _ _⟩
  case round =>
    obtain ⟨k, hk, rfl, rfl, hown, hb⟩ := hrel
    have hzw := hb.size
    by_cases hlt : k < m
    · have hx : l[k]? = some (l[k]'(by omega)) := List.getElem?_eq_getElem (by omega)
      obtain ⟨x, hX⟩ : ∃ x, x = l[k]'(by omega) := ⟨_, rfl⟩
      rw [← hX] at hx
      clear hX
      obtain ⟨b, o, rfl, hbb, hcell⟩ := H1.out.below hb (Nat.le_refl _) k x hx
      have hxs := HS.out x (List.mem_of_getElem? hx)
      have hlen := cuts_len l (k := k) (by omega) (by omega)
      have hcut := cut_size 100 x
      have K1 := Lib.hid (fun W => short_any x 100 W hxs (by omega))
      have E1 := Lib.hid (cuts_step hx)
      have E2 := Lib.hid (cat_cuts_step hx)
      have LK := Lib.hid (cuts_length (l := l) (k := k) (by omega))
      have hadd : ∀ W, (Op.stringOp .add ⟨(cat (cuts l k)).toArray⟩ (cut 100 x)).run Try.prog W = .ok (.string (⟨(cat (cuts l k)).toArray⟩ ++ cut 100 x)) W := fun W => run_string_add W _ _ (by rw [size_mk]; omega) (by omega)
      have k1 : (k : Int) < m := by omega
      have hown1 := hown.out
      rw [show OwnsS wr w1.heap.size _ (cuts l k) = wr.ownsRow w1.heap.size 9 1 _ (cuts l k).length ((cuts l k).map .string) from rfl, LK.out] at hown1
      have HOWN := Lib.hid hown1
      clear hx hxs hown hown1
      go_wp2_with fail
      refine (K1.out wr).mono ?_
      rintro e w2 ⟨rfl, rfl⟩
      go_wp2_with (at_builtin; refine wpList_append_own _ rfl _ _ 22 rfl w1.heap.size 9 i0 _ 1 16 Try.underlying22 hi hz0 hz1 hz2 rfl (by decide) _ _ _ rfl (HOWN.out.alloc _) ⟨wr.heap.size, 0, none⟩ 1 1 [.string (cut 100 x)] rfl rfl (World.news_of_block (heap_alloc_new wr _)) (by simp [Value.oneCell']) (by unfold maxLen; omega) (by omega) (by simp; omega) ?_)
      intro v' w3 hown' hgrow _
      have hown3 : Hid (OwnsS w3 w1.heap.size v' (cuts l (k + 1))) := by
        show World.ownsRow _ _ _ _ _ _ _
        rw [E1.out, List.length_append, List.map_append, LK.out]
        exact hown'
      have hb3 : Below w1.heap.size w1 w3 := (hb.alloc (by omega) _).grown hgrow (by simp; omega) (fun j hj => (HOWN.out.lt j hj).1)
      clear hown' HOWN
      go_wp2_with fail
      refine (K1.out w3).mono ?_
      rintro e w4 ⟨rfl, rfl⟩
      go_wp2_with fail
      go_roundw
      case rel => exact ⟨k + 1, by omega, by go_num, by rw [E2.out, append_mk], hown3, hb3⟩
      case measure => simp [intOf]; omega
    · obtain rfl : k = m := by omega
      obtain ⟨a2, c2, rfl, hc2, hS⟩ := hown.out.strs
      have LK := cuts_length (l := l) (k := k) (by omega)
      have hlen := cuts_len l (k := k) (by omega) m2
      generalize cuts l k = q at *
      have K1 := Lib.hid (from_one a2 q c2 wr hS (by omega) (by omega))
      have K2 := Lib.hid (fun W (hW : Below wr.heap.size wr W) => from_all q.length a2 q c2 W (Nat.le_refl _) (hS.to hW) hc2 (by omega) (by omega))
      have hB := hb1.trans (hb.mono z1)
      have hlc : ((cat q).length : Int) ≤ 2000 := by omega
      clear hown H1 HS H LK
      go_wp2_with fail
      refine K1.out.mono ?_
      rintro e w2 ⟨p1, rfl, R1, hb2⟩
      have K3 := Lib.hid (K2.out w2 hb2)
      have hB2 := hB.trans (hb2.mono hB.size)
      clear K1 K2
      go_wp2_with fail
      refine K3.out.mono ?_
      rintro e w3 ⟨p2, rfl, R2, hb3⟩
      have hB3 := hB2.trans (hb3.mono hB2.size)
      have R1' := IsRope.later R1 hb3
      clear K3 R1 hB hB2
      go_wp2_with fail
      obtain ⟨hb4, c1, c2, hz⟩ := two_cells w3 p1 p2
      generalize (w3.alloc (.cells #[.pointer p1] 27)).alloc (.cells #[.pointer p2] 27) = w4 at *
      have P1 := IsRope.later R1' hb4
      have P2 := IsRope.later R2 hb4
      have hB4 := hB3.trans (hb4.mono hB3.size)
      have l1 : w3.heap.size < w4.heap.size := by omega
      have l2 : w3.heap.size + 1 < w4.heap.size := by omega
      clear hz R1' R2 hB3
      refine (example_any w4).mono ?_
      rintro e w5 ⟨rfl, hb5⟩
      have hB5 := hB4.trans (hb5.mono hB4.size)
      have d1 := (hb5.cell (p := ⟨w3.heap.size, 0, none⟩) l1).trans c1
      have D2 := Lib.hid ((hb5.cell (p := ⟨w3.heap.size + 1, 0, none⟩) l2).trans c2)
      have Q1 := IsRope.later P1 hb5
      have Q2 := IsRope.later P2 hb5
      have K4 := Lib.hid (rstr_any p1 _ w5 Q1 (by omega))
      have l3 := Nat.lt_of_lt_of_le l1 hb5.size
      have l4 := Nat.lt_of_lt_of_le l2 hb5.size
      clear c1 c2 P1 P2 hB4
      go_wp2_with fail
      refine K4.out.mono ?_
      rintro e w6 ⟨rfl, hb6⟩
      have hB6 := hB5.trans (hb6.mono hB5.size)
      have e1 := Lib.hid ((hb6.cell (p := ⟨w3.heap.size, 0, none⟩) l3).trans d1)
      have e2 := (hb6.cell (p := ⟨w3.heap.size + 1, 0, none⟩) l4).trans D2.out
      have S1 := IsRope.later Q1 hb6
      have S2 := IsRope.later Q2 hb6
      have K5 := Lib.hid (rstr_any p2 _ w6 S2 (by omega))
      have l5 := Nat.lt_of_lt_of_le l3 hb6.size
      have l6 := Nat.lt_of_lt_of_le l4 hb6.size
      clear d1 D2 Q1 Q2 K4 hB5
      go_wp2_with fail
      refine K5.out.mono ?_
      rintro e w7 ⟨rfl, hb7⟩
      have hB7 := hB6.trans (hb7.mono hB6.size)
      have f1 := (hb7.cell (p := ⟨w3.heap.size, 0, none⟩) l5).trans e1.out
      have f2 := Lib.hid ((hb7.cell (p := ⟨w3.heap.size + 1, 0, none⟩) l6).trans e2)
      have T1 := IsRope.later S1 hb7
      have T2 := IsRope.later S2 hb7
      have K6 := Lib.hid (rlen_any p1 _ w7 T1)
      have l7 := Nat.lt_of_lt_of_le l6 hb7.size
      clear e1 e2 S1 S2 K5 hB6
      go_wp2_with fail
      refine K6.out.mono ?_
      rintro e w8 ⟨rfl, hb8⟩
      have hB8 := hB7.trans (hb8.mono hB7.size)
      have g2 := (hb8.cell (p := ⟨w3.heap.size + 1, 0, none⟩) l7).trans f2.out
      have K7 := Lib.hid (rlen_any p2 _ w8 (IsRope.later T2 hb8))
      clear f1 f2 T1 T2 K6 hB7
      go_wp2_with fail
      refine K7.out.mono ?_
      rintro e w9 ⟨rfl, hb9⟩
      have hB9 := hB8.trans (hb9.mono hB8.size)
      clear K7 hB8 g2
      go_wp2_with fail
      go_ret
      exact ⟨rfl, hB9⟩
end Go.Proofs.Ytkbodbbbgibgfaa.lawConcat
