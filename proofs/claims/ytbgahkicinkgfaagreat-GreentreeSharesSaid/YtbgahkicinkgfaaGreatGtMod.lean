/-
  Mod as a function; what Splice is good for: no more bytes than both have.
-/
import Derived.Test.YtbgahkicinkgfaaGreatGtKeep
import Derived.BigQuiet
namespace Go.Proofs.YtbgahkicinkgfaaGreat
open Go.RowKit

/-- n modulo m, as Mod has it. -/
def gm (n : Int) (m : Nat) : Nat := (if Int.tmod n m < 0 then Int.tmod n m + m else Int.tmod n m).toNat

theorem gm_lt (n : Int) {m : Nat} (hm : 1 ≤ m) : gm n m < m := by
  have hlt : Int.tmod n m < m := Int.tmod_lt_of_pos n (by omega)
  unfold gm
  split <;> omega

theorem mod_det (n : Int) (m : Nat) (w : World) (hm : 1 ≤ m) (hm2 : m ≤ 1000000) (hn : -9223372036854775808 ≤ n ∧ n ≤ 9223372036854775807) :
    Calls Tryz.prog 13 #[.int .i64 n, .int .i64 m] w fun e w' => e = .returned (.int .i64 (gm n m)) ∧ w' = w := by
  obtain ⟨hn1, hn2⟩ := hn
  have hm3 : (1 : Int) ≤ m := by omega
  have hm4 : (m : Int) ≤ 1000000 := by omega
  have h0 : ((m : Int) == 0) = false := by simp; omega
  have hlt : Int.tmod n m < m := Int.tmod_lt_of_pos n (by omega)
  have hgt : -(m : Int) < Int.tmod n m := Int.lt_tmod_of_pos n (by omega)
  have hg : Hid (gm n m = (if Int.tmod n m < 0 then Int.tmod n m + m else Int.tmod n m).toNat) := rfl
  obtain ⟨r, hr⟩ : ∃ r, Int.tmod n m = r := ⟨_, rfl⟩
  rw [hr] at hlt hgt hg
  by_cases hneg : r < 0
  · rw [if_pos hneg] at hg
    go_enter Tryz.func13, Tryz.ntmps13
    go_wp2_with fail
    go_ret
    refine ⟨?_, rfl⟩
    rw [hg.out, Int.toNat_of_nonneg (by omega)]
    rfl
  · rw [if_neg hneg] at hg
    go_enter Tryz.func13, Tryz.ntmps13
    go_wp2_with fail
    go_ret
    refine ⟨?_, rfl⟩
    rw [hg.out, Int.toNat_of_nonneg (by omega)]
    rfl

theorem add_three (a b c : ByteArray) (h : a.size + b.size + c.size ≤ 100000) :
    (∀ W, (Op.stringOp .add a b).run Tryz.prog W = .ok (.string (a ++ b)) W) ∧ (∀ W, (Op.stringOp .add (a ++ b) c).run Tryz.prog W = .ok (.string (a ++ b ++ c)) W) :=
  ⟨fun W => run_string_add W _ _ (by omega) (by omega), fun W => run_string_add W _ _ (by rw [ByteArray.size_append]; omega) (by omega)⟩

set_option maxHeartbeats 1000000 in
set_option maxRecDepth 100000 in
theorem splice_len (z t : ByteArray) (s e : Nat) (w : World) (h0 : s ≤ e) (h1 : e ≤ z.size) (h2 : z.size ≤ 2000) (h3 : t.size ≤ 2000) :
    Calls Tryz.prog 14 #[.string z, .agg #[.int .i64 s, .int .i64 e, .string t]] w fun r w' => ∃ y, r = .returned (.string y) ∧ y.size ≤ z.size + t.size ∧ Below w.heap.size w w' := by
  have a1 : (z.extract 0 s).size = s := by simp; omega
  have a2 : (z.extract e z.size).size = z.size - e := by simp
  obtain ⟨d1, d2⟩ := add_three (z.extract 0 s) t (z.extract e z.size) (by omega)
  have hy : Hid ((z.extract 0 s ++ t ++ z.extract e z.size).size ≤ z.size + t.size) := by
    show _ ≤ _
    rw [ByteArray.size_append, ByteArray.size_append]
    omega
  have i0 : (s : Int) ≤ e := by omega
  have i1 : (e : Int) ≤ z.size := by omega
  have i2 : (z.size : Int) ≤ 2000 := by omega
  have i3 : (s : Int) ≤ z.size := by omega
  clear a1 a2
  go_enter Tryz.func14, Tryz.ntmps14
  go_wp2_with fail
  have hb : Below w.heap.size w (w.alloc (.cells #[.int .i64 s, .int .i64 e, .string t] 41)) := (Below.refl _ _).alloc (Nat.le_refl _) _
  go_quiet (fail)
  go_wp2_with fail
  go_ret
  exact ⟨_, rfl, hy.out, below_drewN' hb _⟩
end Go.Proofs.YtbgahkicinkgfaaGreat
