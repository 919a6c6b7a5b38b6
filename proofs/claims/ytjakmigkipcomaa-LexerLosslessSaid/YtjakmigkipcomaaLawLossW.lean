/-
  The tokens' texts give the source, and none is empty: LexerLossless's walk, for every source.
-/
import Derived.Test.YtjakmigkipcomaaEx
import Derived.Test.YtjakmigkipcomaaKeep
namespace Go.Proofs.Ytjakmigkipcomaa.lawLoss
open Go.RowKit

set_option maxHeartbeats 1000000 in
set_option maxRecDepth 100000 in
theorem walk_long (s : ByteArray) (w : World) (hs : s.size ≤ maxLen) (hl : 2000 < s.size) : Calls Try.prog 4 #[.string s] w fun e w' => e = .returned (.bool true) ∧ Below w.heap.size w w' := by
  have g0 : (2000 : Int) < s.size := by omega
  have g1 : (s.size : Int) ≤ 9223372036854775807 := by unfold maxLen at hs; omega
  have K8 := Lib.hid (fun W => tokenize_long s W hl hs)
  clear hs hl
  go_enter Try.func4, Try.ntmps4
  go_wp2_with fail
  refine (ex_keep w).mono ?_
  rintro e w1 ⟨rfl, hb1⟩
  go_wp2_with fail
  refine (K8.out w1).mono ?_
  rintro e w2 ⟨rfl, rfl⟩
  go_wp2_with fail
  refine (ex_keep _).mono ?_
  rintro e w3 ⟨rfl, hb3⟩
  have B3 := hb1.trans (hb3.mono hb1.size)
  go_wp2_with fail
  go_ret
  exact ⟨rfl, B3⟩

set_option maxHeartbeats 2000000 in
set_option maxRecDepth 100000 in
theorem walk_short (s : ByteArray) (w : World) (hl : s.size ≤ 2000) : Calls Try.prog 4 #[.string s] w fun e w' => e = .returned (.bool true) ∧ Below w.heap.size w w' := by
  have g0 : (s.size : Int) ≤ 2000 := by omega
  have K8 := Lib.hid (fun W => tokenize_any s W hl)
  have hlen := T_length _ (L s) (Nat.le_refl _)
  rw [L_len] at hlen
  have HG : Hid (glue (T (L s)) = L s) := glue_T _ (L s) (Nat.le_refl _)
  have HN := Lib.hid (T_some _ (L s) (Nat.le_refl _))
  unfold Toks at K8
  generalize T (L s) = l at *
  have HS : Hid (bs (glue l) = s) := by show _ = _; rw [HG.out, bs_L]
  have HGl : Hid ((glue l).length ≤ 50000) := by show _ ≤ _; rw [HG.out, L_len]; omega
  clear HG
  go_enter Try.func4, Try.ntmps4
  go_wp2_with fail
  refine (ex_keep w).mono ?_
  rintro e w1 ⟨rfl, hb1⟩
  go_wp2_with fail
  refine (K8.out w1).mono ?_
  rintro e w2 ⟨v, rfl, ho2, hb2⟩
  have B2 := hb1.trans (hb2.mono hb1.size)
  obtain ⟨a, cap, rfl, hcap, ht, _⟩ := ho2.out.tks
  have HT := Lib.hid ht
  clear K8 ho2 hb1 hb2 ht
  go_wp2_with fail
  go_loopw [29] (fun i wr => ∃ k : Nat, k ≤ l.length ∧ i = .int .i64 k ∧ Below w2.heap.size w2 wr)
    (fun i _ => l.length - (intOf i).toNat)
  case atStart => exact ⟨0, Nat.zero_le _, rfl, Below.refl _ _⟩
  case round =>
    obtain ⟨k, hk, rfl, hb⟩ := hrel
    have hzw := hb.size
    by_cases hlt : k < l.length
    · have hx : l[k]? = some l[k] := List.getElem?_eq_getElem hlt
      obtain ⟨x, hX⟩ : ∃ x, x = l[k] := ⟨_, rfl⟩
      rw [← hX] at hx
      clear hX
      obtain ⟨b, o, rfl, _, p0, p1⟩ := (HT.out.below hb (Nat.le_refl _)) k x hx
      have hne : (bs x.2).toList.isEmpty = false := size_ne (by
        rw [bs_size]
        exact List.length_pos_iff.2 (HN.out x (List.mem_of_getElem? hx)))
      have hk0 : (0 : Int) ≤ (k : Int) := by omega
      have hk1 : (k : Int) < (l.length : Int) := by omega
      clear hx
      generalize bs x.2 = z at *
      go_wp2_with fail
      go_roundw
      case rel => exact ⟨k + 1, by omega, by go_num, hb.alloc hzw _⟩
      case measure => simp [intOf]; omega
    · obtain rfl : k = l.length := by omega
      have B3 := B2.trans (hb.mono B2.size)
      have HT3 := Lib.hid (HT.out.to hb)
      clear B2 HT hb
      go_wp2_with fail
      refine (ex_keep wr).mono ?_
      rintro e w4 ⟨rfl, hb4⟩
      have B4 := B3.trans (hb4.mono B3.size)
      have K16 := Lib.hid (source_any l a cap w4 (by omega) HGl.out (HT3.out.to hb4))
      rw [HS.out] at K16
      clear B3 HT3 hb4
      go_wp2_with fail
      refine K16.out.mono ?_
      rintro e w5 ⟨rfl, hb5⟩
      have B5 := B4.trans (hb5.mono B4.size)
      clear B4 hb5 K16
      go_wp2_with fail
      go_ret
      exact ⟨rfl, B5⟩

theorem walk (s : ByteArray) (w : World) (hs : s.size ≤ maxLen) : Calls Try.prog 4 #[.string s] w fun e w' => e = .returned (.bool true) ∧ Below w.heap.size w w' := by
  by_cases h : s.size ≤ 2000
  · exact walk_short s w h
  · exact walk_long s w hs (by omega)
end Go.Proofs.Ytjakmigkipcomaa.lawLoss
