/-
  An edit that replaces bytes by themselves doesn't change the tokens: RelexIdentity's walk, for every source and every pair of numbers.
-/
import Derived.Test.YtibiniokbcjjeaaRxUpdate
import Derived.Test.YtibiniokbcjjeaaLxEx
import Derived.Test.YtibiniokbcjjeaaLxKeep
namespace Go.Proofs.Ytibiniokbcjjeaa
open Go.RowKit

theorem equal_any (l : List Tk) (v1 v2 : Value) (w : World) (B1 B2 : Nat) (hl : l.length ≤ 1000000) (h1 : Part w B1 v1 l) (h2 : Part w B2 v2 l) (hB1 : B1 ≤ w.heap.size) (hB2 : B2 ≤ w.heap.size) :
    Calls Try.prog 11 #[v1, v2] w fun e w' => e = .returned (.bool true) ∧ Below w.heap.size w w' := by
  obtain ⟨a1, c1, rfl, _, t1⟩ := h1
  obtain ⟨a2, c2, rfl, _, t2⟩ := h2
  exact equal_toks l a1 c1 a2 c2 w hl (t1.below (Below.refl _ _) hB1) (t2.below (Below.refl _ _) hB2)

theorem next_same (l : List UInt8) (z : ByteArray) (hl : L z = l) (k e : Nat) (hke : k ≤ e) : next l ⟨(k : Int), (e : Int), z.extract k e⟩ = l := by
  unfold next
  simp only [Int.toNat_natCast]
  rw [L_extract, hl, ← List.append_assoc, ← List.take_add, show k + (e - k) = e from by omega, List.take_append_drop]

set_option maxHeartbeats 2000000 in
set_option maxRecDepth 100000 in
theorem id_walk (s : ByteArray) (a b : Int) (w : World) (hs : s.size ≤ maxLen) (ha : -9223372036854775808 ≤ a ∧ a ≤ 9223372036854775807) (hb : -9223372036854775808 ≤ b ∧ b ≤ 9223372036854775807) :
    Calls Try.prog 4 #[.string s, .int .i64 a, .int .i64 b] w fun e w' => e = .returned (.bool true) ∧ Below w.heap.size w w' := by
  have KS := Lib.hid (fun W => short_any s 300 W hs (by omega))
  have sz := cut_size 300 s
  generalize cut 300 s = z at *
  have KT := Lib.hid (fun W => tokenize_any z W (by omega))
  have KU := Lib.hid (fun v x W hf h => update_ok z v x W hf h)
  have KM := Lib.hid (fun W => mod_any a (z.size + 1) W (by omega) (by omega) ha)
  have KN := Lib.hid (fun (m : Nat) W h1 h2 => mod_any b m W h1 h2 hb)
  rw [show ((z.size + 1 : Nat) : Int) = (z.size : Int) + 1 from by omega] at KM
  have hl := T_length _ (L z) (Nat.le_refl _)
  rw [L_len] at hl
  unfold Toks at KT
  clear ha hb hs
  go_enter Try.func4, Try.ntmps4
  go_wp2_with fail
  refine (ex_keep w).mono ?_
  rintro e w1 ⟨rfl, B1⟩
  go_wp2_with fail
  refine (KS.out w1).mono ?_
  rintro e w2 ⟨rfl, rfl⟩
  go_wp2_with fail
  refine (KT.out w1).mono ?_
  rintro e w3 ⟨v, rfl, ho, hb⟩
  have B3 := B1.trans (hb.mono B1.size)
  have HO3 : Hid (OwnsT w3 w.heap.size v (T (L z))) := ho.out.lower B1.size
  clear KS KT B1 hb ho
  go_wp2_with fail
  refine (KM.out w3).mono ?_
  rintro e w4 ⟨k, rfl, hk, rfl⟩
  clear KM
  obtain ⟨m, hm⟩ : ∃ m : Nat, (z.size : Int) - (k : Int) + 1 = (m : Int) := ⟨z.size - k + 1, by omega⟩
  have hk1 : (k : Int) ≤ z.size := by omega
  have hm2 : (m : Int) ≤ 301 := by omega
  have hm1 : Hid (z.size + 1 = m + k) := by show _ = _; omega
  go_wp2_with fail
  refine (KN.out m w4 (by omega) (by omega)).mono ?_
  rintro e w5 ⟨j, rfl, hj, rfl⟩
  clear KN
  obtain ⟨e, he⟩ : ∃ e : Nat, (k : Int) + (j : Int) = (e : Int) := ⟨k + j, by omega⟩
  have he1 : (e : Int) ≤ z.size := by have := hm1.out; omega
  have he2 : (k : Int) ≤ e := by omega
  have hxs : (z.extract k e).size = e - k := by simp; omega
  have HN : Hid (next (L z) ⟨(k : Int), (e : Int), z.extract k e⟩ = L z) := next_same _ z rfl k e (by omega)
  have hft : Fit z.size ⟨(k : Int), (e : Int), z.extract k e⟩ := by
    refine ⟨?_, ?_, ?_, ?_, ?_⟩
    · show (0 : Int) ≤ k; omega
    · exact he2
    · exact he1
    · omega
    · show (z.size : Int) - ((e : Int) - (k : Int)) + (z.extract k e).size ≤ 2000
      rw [hxs]; omega
  have KU2 := Lib.hid (KU.out v ⟨(k : Int), (e : Int), z.extract k e⟩ w5 hft HO3.out.part)
  rw [HN.out] at KU2
  clear KU hxs HN hft hm1
  generalize T (L z) = l at *
  go_wp2_with fail
  refine KU2.out.mono ?_
  rintro e w6 ⟨v', p, q, rfl, _, hown, hb⟩
  have B6 := B3.trans (hb.mono B3.size)
  have HO6 : Hid (OwnsT w6 w.heap.size v l) := ownsT_below HO3.out hb
  have HN6 : Hid (OwnsT w6 w.heap.size v' l) := hown.out.lower B3.size
  clear KU2 B3 HO3 hown hb
  go_wp2_with fail
  refine (ex_keep w6).mono ?_
  rintro e w7 ⟨rfl, hb⟩
  have B7 := B6.trans (hb.mono B6.size)
  have HO7 : Hid (OwnsT w7 w.heap.size v l) := ownsT_below HO6.out hb
  have HN7 : Hid (OwnsT w7 w.heap.size v' l) := ownsT_below HN6.out hb
  clear B6 HO6 HN6 hb
  go_wp2_with fail
  refine (equal_any l v' v w7 _ _ (by omega) HN7.out.part HO7.out.part (Nat.le_refl _) (Nat.le_refl _)).mono ?_
  rintro e w8 ⟨rfl, hb⟩
  have B8 := B7.trans (hb.mono B7.size)
  clear HO7 HN7 hb B7
  go_wp2_with fail
  go_ret
  exact ⟨rfl, B8⟩
end Go.Proofs.Ytibiniokbcjjeaa
