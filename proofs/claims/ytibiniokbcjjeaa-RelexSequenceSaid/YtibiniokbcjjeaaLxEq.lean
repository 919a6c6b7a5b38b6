/-
  glossatorref1.EqualLists of two slices that read as one list: of tokens, of strings; the program's Tokenize where the source is too long; IsIdentifier.
-/
import Derived.Test.YtibiniokbcjjeaaLxTok
namespace Go.Proofs.Ytibiniokbcjjeaa
open Go.RowKit

theorem neq_tok (x : Tk) (w : World) : (binOp .neq 37 (.agg #[.int .i64 x.1, .string (bs x.2)]) (.agg #[.int .i64 x.1, .string (bs x.2)])).run Try.prog w = .ok (.bool false) w := by
  simp [go_sem]

set_option maxHeartbeats 1000000 in
theorem equal_toks (l : List Tk) (a1 : Option Addr) (c1 : Nat) (a2 : Option Addr) (c2 : Nat) (w : World) (hl : l.length ≤ 1000000) (h1 : Tks w w.heap.size a1 l) (h2 : Tks w w.heap.size a2 l) :
    Calls Try.prog 11 #[.slice a1 l.length c1, .slice a2 l.length c2] w fun e w' => e = .returned (.bool true) ∧ Below w.heap.size w w' := by
  have H1 := Lib.hid h1
  have H2 := Lib.hid h2
  clear h1 h2
  go_enter Try.func11, Try.ntmps11
  go_wp2_with fail
  go_loopw [13] (fun i wr => ∃ k : Nat, k ≤ l.length ∧ i = .int .i64 k ∧ Below w.heap.size w wr)
    (fun i _ => l.length - (intOf i).toNat)
  case atStart => exact ⟨0, Nat.zero_le _, rfl, Below.refl _ _⟩
  case round =>
    obtain ⟨k, hk, rfl, hb⟩ := hrel
    by_cases hlt : k < l.length
    · have hx : l[k]? = some l[k] := List.getElem?_eq_getElem hlt
      obtain ⟨x, hX⟩ : ∃ x, x = l[k] := ⟨_, rfl⟩
      rw [← hX] at hx
      clear hX
      obtain ⟨b, o, rfl, _, p0, p1⟩ := (H1.out.below hb (Nat.le_refl _)) k x hx
      obtain ⟨b', o', rfl, _, g0, g1⟩ := (H2.out.below hb (Nat.le_refl _)) k x hx
      have hneq := neq_tok x
      have hk0 : (0 : Int) ≤ (k : Int) := by omega
      have hk1 : (k : Int) < (l.length : Int) := by omega
      clear hx
      go_wp2_with fail
      go_quiet (fail)
      go_wp2_with fail
      go_roundw
      case rel => exact ⟨k + 1, by omega, by go_num, below_drewN' hb _⟩
      case measure => simp [intOf]; omega
    · go_wp2_with fail
      go_ret
      exact ⟨rfl, hb⟩

theorem neq_str (x : ByteArray) (w : World) : (binOp .neq 9 (.string x) (.string x)).run Try.prog w = .ok (.bool false) w := by
  simp [go_sem]

theorem tokenize_long (s : ByteArray) (w : World) (hs : 2000 < s.size) (hmax : s.size ≤ maxLen) : Calls Try.prog 7 #[.string s] w fun e w' => e = .returned (.tuple #[.slice none 0 0, .int .i64 2]) ∧ w' = w := by
  have g0 : (2000 : Int) < s.size := by omega
  have g1 : (s.size : Int) ≤ 9223372036854775807 := by unfold maxLen at hmax; omega
  go_enter Try.func7, Try.ntmps7
  go_wp2_with fail
  go_ret2
  exact ⟨rfl, rfl⟩

/-- Is it one identifier? -/
def oneId (l : List UInt8) : Bool := decide ((T l).length = 1) && decide (((T l)[0]?.map fun x => x.1) = some 103)

theorem ident_long (s : ByteArray) (w : World) (hs : 30 < s.size) (hmax : s.size ≤ maxLen) : Calls Try.prog 12 #[.string s] w fun e w' => e = .returned (.bool false) ∧ w' = w := by
  have g0 : (30 : Int) < s.size := by omega
  have g1 : (s.size : Int) ≤ 9223372036854775807 := by unfold maxLen at hmax; omega
  go_enter Try.func12, Try.ntmps12
  go_wp2_with fail
  go_ret
  exact ⟨rfl, rfl⟩

set_option maxHeartbeats 1000000 in
theorem ident_short (s : ByteArray) (w : World) (hs : s.size ≤ 30) : Calls Try.prog 12 #[.string s] w fun e w' => e = .returned (.bool (oneId (L s))) ∧ Below w.heap.size w w' := by
  have g0 : (s.size : Int) ≤ 30 := by omega
  have hlen := T_length _ (L s) (Nat.le_refl _)
  rw [L_len] at hlen
  have K := Lib.hid (tokenize_any s w (by omega))
  have HO : Hid (oneId (L s) = (decide ((T (L s)).length = 1) && decide (((T (L s))[0]?.map fun x => x.1) = some 103))) := rfl
  unfold Toks at K
  generalize T (L s) = l at *
  go_enter Try.func12, Try.ntmps12
  go_wp2_with fail
  refine K.out.mono ?_
  rintro e w1 ⟨v, rfl, ho, hb⟩
  obtain ⟨a, cap, rfl, hcap, ht, _⟩ := ho.out.tks
  clear ho K
  match l, ht, HO, hlen, hcap with
  | [], _, HO, _, _ =>
    go_wp2_with fail
    go_ret
    exact ⟨by rw [HO.out]; rfl, hb⟩
  | [x], ht, HO, _, _ =>
    obtain ⟨b, o, rfl, _, p0, p1⟩ := ht 0 x rfl
    rw [Nat.zero_mul, Nat.add_zero] at p0 p1
    have HO2 : Hid (oneId (L s) = (x.1 == 103)) := by show _ = _; rw [HO.out]; by_cases h : x.1 = 103 <;> simp [h]
    clear ht HO
    go_wp2_with fail
    go_ret
    exact ⟨by rw [HO2.out]; rfl, hb⟩
  | x :: y :: r, _, HO, hlen, _ =>
    have HO2 : Hid (oneId (L s) = false) := by show _ = _; rw [HO.out]; simp
    generalize hm : (x :: y :: r).length = m at *
    have hm2 : 2 ≤ m := by rw [← hm]; simp
    have hm3 : ((m : Int) == 1) = false := by simp; omega
    have hm4 : (m : Int) ≤ 30 := by omega
    clear HO hm
    go_wp2_with fail
    go_ret
    exact ⟨by rw [HO2.out]; rfl, hb⟩
end Go.Proofs.Ytibiniokbcjjeaa
