/-
  glossatorkeep1.source, Mod, short and significant by their contracts.
-/
import Derived.Test.YtibiniokbcjjeaaLxTok
namespace Go.Proofs.Ytibiniokbcjjeaa
open Go.RowKit

theorem glue_take {l : List Tk} {k : Nat} {x : Tk} (h : l[k]? = some x) : glue (l.take (k + 1)) = glue (l.take k) ++ x.2 := by
  unfold glue
  rw [List.take_add_one, h]; simp

theorem glue_le (l : List Tk) (k : Nat) : (glue (l.take k)).length ≤ (glue l).length := by
  have : glue l = glue (l.take k) ++ glue (l.drop k) := by
    unfold glue
    rw [← List.flatMap_append, List.take_append_drop]
  rw [this, List.length_append]; omega

theorem bs_append (a b : List UInt8) : bs a ++ bs b = bs (a ++ b) := L_inj (by rw [L_append, L_bs, L_bs, L_bs])

theorem add_run (a b : List UInt8) (w : World) (h : a.length + b.length ≤ 100000) : (Op.stringOp .add (bs a) (bs b)).run Try.prog w = .ok (.string (bs (a ++ b))) w := by
  rw [run_string_add w (bs a) (bs b) (by rw [bs_size]; omega) (by rw [bs_size]; omega), bs_append]

theorem mod_any (n : Int) (m : Nat) (w : World) (hm : 1 ≤ m) (hm2 : m ≤ 1000000) (hn : -9223372036854775808 ≤ n ∧ n ≤ 9223372036854775807) :
    Calls Try.prog 8 #[.int .i64 n, .int .i64 m] w fun e w' => ∃ k : Nat, e = .returned (.int .i64 k) ∧ k < m ∧ w' = w := by
  obtain ⟨hn1, hn2⟩ := hn
  have hm3 : (1 : Int) ≤ m := by omega
  have hm4 : (m : Int) ≤ 1000000 := by omega
  have h0 : ((m : Int) == 0) = false := by simp; omega
  have hlt : Int.tmod n m < m := Int.tmod_lt_of_pos n (by omega)
  have hgt : -(m : Int) < Int.tmod n m := Int.lt_tmod_of_pos n (by omega)
  obtain ⟨r, hr⟩ : ∃ r, Int.tmod n m = r := ⟨_, rfl⟩
  rw [hr] at hlt hgt
  by_cases hneg : r < 0
  · go_enter Try.func8, Try.ntmps8
    go_wp2_with fail
    go_ret
    refine ⟨(r + m).toNat, ?_, by omega, rfl⟩
    rw [Int.toNat_of_nonneg (by omega)]
    rfl
  · go_enter Try.func8, Try.ntmps8
    go_wp2_with fail
    go_ret
    refine ⟨r.toNat, ?_, by omega, rfl⟩
    rw [Int.toNat_of_nonneg (by omega)]
    rfl

/-- A string cut to n bytes. -/
def cut (n : Nat) (s : ByteArray) : ByteArray := bs ((L s).take n)

theorem cut_size (n : Nat) (s : ByteArray) : (cut n s).size ≤ n := by
  unfold cut
  rw [bs_size, List.length_take]; omega

theorem short_any (s : ByteArray) (n : Nat) (w : World) (hs : s.size ≤ maxLen) (hn : n ≤ 1000) : Calls Try.prog 6 #[.string s, .int .i64 n] w fun e w' => e = .returned (.string (cut n s)) ∧ w = w' := by
  have hs' : (s.size : Int) ≤ 9223372036854775807 := by unfold maxLen at hs; omega
  have g0 : (n : Int) ≤ 1000 := by omega
  by_cases h : s.size ≤ n
  · have HV : Hid (cut n s = s) := by show _ = _; rw [cut, List.take_of_length_le (by rw [L_len]; exact h), bs_L]
    have h1 : (s.size : Int) ≤ n := by omega
    have hm : min (s.size : Int) n = s.size := by omega
    go_enter Try.func6, Try.ntmps6
    go_wp2_with fail
    go_ret
    exact ⟨by rw [HV.out]; simp, rfl⟩
  · have HV : Hid (cut n s = s.extract 0 n) := by show _ = _; rw [cut, take_is]
    have h1 : (n : Int) < s.size := by omega
    have hm : min (s.size : Int) n = n := by omega
    go_enter Try.func6, Try.ntmps6
    go_wp2_with fail
    go_ret
    exact ⟨by rw [HV.out]; rfl, rfl⟩
end Go.Proofs.Ytibiniokbcjjeaa
