/-
  position.codeUnits, position.codePoints, the decoding of the rune at a place, by their contracts.
-/
import Derived.Test.YtmdfkahodbfjnaaDoorStart
namespace Go.Proofs.YtmdfkahodbfjnaaDoor
open Go.RowKit

/-- The columns of a code point r, as the width functions count them. -/
def wR (u : Bool) (r : Nat) : Nat := if u then (if 65535 < r then 2 else 1) else 1
theorem wR_dU {s : ByteArray} {p r l : Nat} (u : Bool) (h : (Utf8.decode s p).1 = r) : wR u r = wd u ⟨p, l, dU s p⟩ := by
  subst h; rfl

theorem units_any (r : Nat) (w : World) : Calls Tryd.prog 21 #[.int .i32 r] w fun e w' => e = .returned (.int .i64 (wR true r)) ∧ w' = w := by
  by_cases h : 65535 < r
  · have h1 : (65535 : Int) < (r : Int) := by omega
    have HV : Hid (wR true r = 2) := by show _ = _; unfold wR; rw [if_pos rfl, if_pos h]
    go_enter Tryd.func21, Tryd.ntmps21
    go_wp2_with fail
    go_ret
    exact ⟨by rw [HV.out]; rfl, rfl⟩
  · have h1 : ¬ (65535 : Int) < (r : Int) := by omega
    have HV : Hid (wR true r = 1) := by show _ = _; unfold wR; rw [if_pos rfl, if_neg h]
    go_enter Tryd.func21, Tryd.ntmps21
    go_wp2_with fail
    go_ret
    exact ⟨by rw [HV.out]; rfl, rfl⟩

theorem points_any (r : Nat) (w : World) : Calls Tryd.prog 23 #[.int .i32 r] w fun e w' => e = .returned (.int .i64 (wR false r)) ∧ w' = w := by
  have HV : Hid (wR false r = 1) := rfl
  go_enter Tryd.func23, Tryd.ntmps23
  go_wp2_with fail
  go_ret
  exact ⟨by rw [HV.out]; rfl, rfl⟩

theorem dec_any (s : ByteArray) (k : Nat) (w : World) (hk : k < s.size) (hT : Tabs w) :
    Calls Tryd.prog 27 #[.string (s.extract k s.size)] w fun e w' => e = .returned (.tuple #[.int .i32 (Utf8.decode s k).1, .int .i64 (dW s k)]) ∧ Below w.heap.size w w' := by
  have e : Lib.decodeGo (s.extract k s.size) = Utf8.decode s k := by
    unfold Lib.decodeGo
    rw [if_neg (by rw [Lib.tail_size]; omega), Lib.tail_decode, Nat.add_zero]
  have h := Tryd.utf8_DecodeRuneInString (s.extract k s.size) w hT.1
  rw [e] at h
  exact h

theorem count_nl (s : ByteArray) : ∀ k, k ≤ s.size → Lib.countByte (s.extract 0 k).data.toList 10 = nl s k
  | 0, _ => by simp [Lib.countByte, nl]
  | k + 1, h => by
    have ih := count_nl s k (by omega)
    have e : (s.extract 0 (k + 1)).data.toList = (s.extract 0 k).data.toList ++ [s.get! k] := by
      rw [ByteArray.data_extract, ByteArray.data_extract, Array.toList_extract, Array.toList_extract]
      have hk : k < s.data.toList.length := by rw [Array.length_toList]; exact h
      simp only [List.drop_zero, Nat.sub_zero, List.extract_eq_take_drop]
      rw [List.take_add_one, List.getElem?_eq_getElem hk]
      congr 1
      rw [Utf8W.get!_of_lt s k (by omega)]
      rfl
    unfold Lib.countByte at ih ⊢
    rw [e, List.count_append, ih, nl]
    congr 1
    unfold isNl
    by_cases hx : s.get! k = 10
    · simp [hx]
    · simp [hx]

theorem last_ls (s : ByteArray) {k : Nat} (h : k ≤ s.size) : Lib.lastIndexByte (s.extract 0 k) 10 + 1 = ls s k := by
  have hz : (s.extract 0 k).size = k := by simp; omega
  have g : ∀ j, j < k → ((((s.extract 0 k).data[j]!).toNat : Int) ≠ 10 ↔ isNl s j = false) := fun j hj => by
    have : (s.extract 0 k).get! j = s.get! j := by rw [get_cut s 0 k j h (by omega), Nat.zero_add]
    have e2 : (s.extract 0 k).data[j]! = s.get! j := this
    rw [e2]
    unfold isNl
    constructor
    · intro h1
      by_cases hx : s.get! j = 10
      · rw [hx] at h1; exact absurd rfl h1
      · simpa using hx
    · intro h1 h2
      have : s.get! j = 10 := UInt8.toNat_inj.1 (by show _ = 10; omega)
      rw [this] at h1; simp at h1
  have none : ∀ m, m ≤ k → (∀ j, j < m → isNl s j = false) → ls s m = 0 := fun m => by
    induction m with
    | zero => intro _ _; rfl
    | succ m ih => intro hm hj; rw [ls, hj m (by omega)]; simpa using ih (by omega) (fun j hj' => hj j (by omega))
  unfold Lib.lastIndexByte
  rw [hz]
  rcases Lib.lastIdx_spec (s.extract 0 k) 10 k with ⟨e, hj⟩ | ⟨i, hi, e, hc, hj⟩
  · rw [e, none k (Nat.le_refl _) (fun j h1 => (g j h1).1 (hj j h1))]; rfl
  · rw [e]
    have hi2 : isNl s i = true := by
      cases hx : isNl s i with
      | true => rfl
      | false => exact absurd hc ((g i hi).2 hx)
    have : ∀ d, i + 1 + d ≤ k → ls s (i + 1 + d) = i + 1 := fun d => by
      induction d with
      | zero => intro _; show ls s (i + 1) = i + 1; rw [ls, hi2]; rfl
      | succ d ih =>
        intro hd
        rw [← Nat.add_assoc, ls, (g (i + 1 + d) (by omega)).1 (hj _ (by omega) (by omega))]
        simpa using ih (by omega)
    rw [show k = i + 1 + (k - i - 1) from by omega, this _ (by omega)]
    rfl
end Go.Proofs.YtmdfkahodbfjnaaDoor
