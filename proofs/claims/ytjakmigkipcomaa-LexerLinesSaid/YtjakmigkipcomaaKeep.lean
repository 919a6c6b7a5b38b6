/-
  glossatorkeep1.source, Mod, short and significant by their contracts.
-/
import Derived.Test.YtjakmigkipcomaaTok
namespace Go.Proofs.Ytjakmigkipcomaa
open Go.RowKit

theorem glue_take {l : List Tk} {k : Nat} {x : Tk} (h : l[k]? = some x) : glue (l.take (k + 1)) = glue (l.take k) ++ x.2 := by
  unfold glue
  rw [List.take_add_one, h]; simp

theorem glue_le (l : List Tk) (k : Nat) : (glue (l.take k)).length ≤ (glue l).length := by
  have : glue l = glue (l.take k) ++ glue (l.drop k) := by
    unfold glue
    rw [← List.flatMap_append, List.take_append_drop]
  rw [this, List.length_append]; omega

theorem bs_append (a b : List UInt8) : bs a ++ bs b = bs (a ++ b) := L_inj (by rw [L_append, L_bs, L_bs, L_bs])

theorem add_run (a b : List UInt8) (w : World) (h : a.length + b.length ≤ 100000) : (Op.stringOp .add (bs a) (bs b)).run Try.prog w = .ok (.string (bs (a ++ b))) w := by
  rw [run_string_add w (bs a) (bs b) (by rw [bs_size]; omega) (by rw [bs_size]; omega), bs_append]

set_option maxHeartbeats 1000000 in
theorem source_any (l : List Tk) (a : Option Addr) (cap : Nat) (w : World) (hl : l.length ≤ 100000) (hg : (glue l).length ≤ 50000) (h : Tks w w.heap.size a l) :
    Calls Try.prog 16 #[.slice a l.length cap] w fun e w' => e = .returned (.string (bs (glue l))) ∧ Below w.heap.size w w' := by
  have H := Lib.hid h
  have HG := Lib.hid hg
  clear h hg
  go_enter Try.func16, Try.ntmps16
  go_wp2_with fail
  go_loopw [3, 8] (fun v i wr => ∃ k : Nat, k ≤ l.length ∧ i = .int .i64 k ∧ v = .string (bs (glue (l.take k))) ∧ Below w.heap.size w wr)
    (fun _ i _ => l.length - (intOf i).toNat)
  case atStart => exact ⟨0, Nat.zero_le _, rfl, rfl, Below.refl _ _⟩
  case round =>
    obtain ⟨k, hk, rfl, rfl, hb⟩ := hrel
    have hzw := hb.size
    by_cases hlt : k < l.length
    · have hx : l[k]? = some l[k] := List.getElem?_eq_getElem hlt
      obtain ⟨x, hX⟩ : ∃ x, x = l[k] := ⟨_, rfl⟩
      rw [← hX] at hx
      clear hX
      obtain ⟨b, o, rfl, _, p0, p1⟩ := (H.out.below hb (Nat.le_refl _)) k x hx
      have hle := glue_le l (k + 1)
      have hgt := glue_take hx
      have hg1 := HG.out
      have hadd : ∀ W, (Op.stringOp .add (bs (glue (l.take k))) (bs x.2)).run Try.prog W = .ok (.string (bs (glue (l.take (k + 1))))) W := fun W => by
        rw [hgt]
        exact add_run _ _ W (by rw [hgt, List.length_append] at hle; omega)
      have hk0 : (0 : Int) ≤ (k : Int) := by omega
      have hk1 : (k : Int) < (l.length : Int) := by omega
      clear hx hgt hle hg1
      generalize bs x.2 = z at *
      generalize hq : glue (l.take k) = q at *
      generalize hq2 : glue (l.take (k + 1)) = q2 at *
      have HQ := Lib.hid hq2
      clear hq hq2
      go_wp2_with fail
      go_roundw
      case rel => exact ⟨k + 1, by omega, by go_num, by rw [HQ.out], hb.alloc hzw _⟩
      case measure => simp [intOf]; omega
    · obtain rfl : k = l.length := by omega
      have hq : Hid (glue (l.take l.length) = glue l) := by show _ = _; rw [List.take_length]
      generalize glue (l.take l.length) = q at *
      go_wp2_with fail
      go_ret
      exact ⟨by rw [← hq.out]; rfl, hb⟩

theorem mod_any (n : Int) (m : Nat) (w : World) (hm : 1 ≤ m) (hm2 : m ≤ 1000000) (hn : -9223372036854775808 ≤ n ∧ n ≤ 9223372036854775807) :
    Calls Try.prog 17 #[.int .i64 n, .int .i64 m] w fun e w' => ∃ k : Nat, e = .returned (.int .i64 k) ∧ k < m ∧ w' = w := by
  obtain ⟨hn1, hn2⟩ := hn
  have hm3 : (1 : Int) ≤ m := by omega
  have hm4 : (m : Int) ≤ 1000000 := by omega
  have h0 : ((m : Int) == 0) = false := by simp; omega
  have hlt : Int.tmod n m < m := Int.tmod_lt_of_pos n (by omega)
  have hgt : -(m : Int) < Int.tmod n m := Int.lt_tmod_of_pos n (by omega)
  obtain ⟨r, hr⟩ : ∃ r, Int.tmod n m = r := ⟨_, rfl⟩
  rw [hr] at hlt hgt
  by_cases hneg : r < 0
  · go_enter Try.func17, Try.ntmps17
    go_wp2_with fail
    go_ret
    refine ⟨(r + m).toNat, ?_, by omega, rfl⟩
    rw [Int.toNat_of_nonneg (by omega)]
    rfl
  · go_enter Try.func17, Try.ntmps17
    go_wp2_with fail
    go_ret
    refine ⟨r.toNat, ?_, by omega, rfl⟩
    rw [Int.toNat_of_nonneg (by omega)]
    rfl

/-- A string cut to n bytes. -/
def cut (n : Nat) (s : ByteArray) : ByteArray := bs ((L s).take n)

theorem cut_size (n : Nat) (s : ByteArray) : (cut n s).size ≤ n := by
  unfold cut
  rw [bs_size, List.length_take]; omega

theorem short_any (s : ByteArray) (n : Nat) (w : World) (hs : s.size ≤ maxLen) (hn : n ≤ 1000) : Calls Try.prog 18 #[.string s, .int .i64 n] w fun e w' => e = .returned (.string (cut n s)) ∧ w = w' := by
  have hs' : (s.size : Int) ≤ 9223372036854775807 := by unfold maxLen at hs; omega
  have g0 : (n : Int) ≤ 1000 := by omega
  by_cases h : s.size ≤ n
  · have HV : Hid (cut n s = s) := by show _ = _; rw [cut, List.take_of_length_le (by rw [L_len]; exact h), bs_L]
    have h1 : (s.size : Int) ≤ n := by omega
    have hm : min (s.size : Int) n = s.size := by omega
    go_enter Try.func18, Try.ntmps18
    go_wp2_with fail
    go_ret
    exact ⟨by rw [HV.out]; simp, rfl⟩
  · have HV : Hid (cut n s = s.extract 0 n) := by show _ = _; rw [cut, take_is]
    have h1 : (n : Int) < s.size := by omega
    have hm : min (s.size : Int) n = n := by omega
    go_enter Try.func18, Try.ntmps18
    go_wp2_with fail
    go_ret
    exact ⟨by rw [HV.out]; rfl, rfl⟩
end Go.Proofs.Ytjakmigkipcomaa
