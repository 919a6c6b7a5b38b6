/-
  glossatorref4.DeletesByte by its contract.
-/
import Derived.Test.YtdmmoknddkfnmaaPure
import Derived.Deep.QuietTactic
import Derived.BigQuiet
import Derived.Outline
namespace Go.Proofs.Ytdmmoknddkfnmaa
open Go.RowKit

def delAt : List Ed → Int → Bool
  | [], _ => false
  | x :: r, i => if x.s ≤ i ∧ i < x.e then true else delAt r i

set_option maxHeartbeats 1000000 in
set_option maxRecDepth 100000 in
theorem delat_any (a : Option Addr) (cap : Nat) (l : List Ed) (i : Int) (w : World) (hl : l.length ≤ 1000000) (h : Eds w w.heap.size a l) :
    Calls Try.prog 11 #[.slice a l.length cap, .int .i64 i] w fun e w' => e = .returned (.bool (delAt l i)) ∧ w' = w := by
  go_enter Try.func11, Try.ntmps11
  go_wp2_with fail
  go_loopw [5] (fun j wr => ∃ k : Nat, k ≤ l.length ∧ j = .int .i64 k ∧ Hid (delAt l i = delAt (l.drop k) i) ∧ wr = w)
    (fun j _ => l.length - (intOf j).toNat)
  case atStart => exact ⟨0, Nat.zero_le _, rfl, rfl, rfl⟩
  case round =>
    obtain ⟨k, hk, rfl, hv, rfl⟩ := hrel
    by_cases hlt : k < l.length
    · have hx : l[k]? = some l[k] := List.getElem?_eq_getElem hlt
      obtain ⟨x, hX⟩ : ∃ x, x = l[k] := ⟨_, rfl⟩
      rw [← hX] at hx
      clear hX
      obtain ⟨hok, b, o, rfl, hbl, h0, h1, h2⟩ := h k x hx
      have hv1 := hv.out
      rw [drop_at hx, delAt] at hv1
      have Hx := Lib.hid hx
      clear hx hv
      by_cases hc : x.s ≤ i ∧ i < x.e
      · rw [if_pos hc] at hv1
        have HV := Lib.hid hv1
        obtain ⟨c1, c2⟩ := hc
        clear hv1
        go_wp2_with fail
        go_ret
        exact ⟨by rw [HV.out]; rfl, rfl⟩
      · rw [if_neg hc] at hv1
        have HV := Lib.hid hv1
        clear hv1
        by_cases c1 : x.s ≤ i
        · have c2 : ¬ i < x.e := fun c2 => hc ⟨c1, c2⟩
          clear hc
          go_wp2_with fail
          go_roundw
          case rel => exact ⟨k + 1, by omega, by go_num, HV, trivial⟩
          case measure => simp [intOf]; omega
        · clear hc
          go_wp2_with fail
          go_roundw
          case rel => exact ⟨k + 1, by omega, by go_num, HV, trivial⟩
          case measure => simp [intOf]; omega
    · have hfin : Hid (delAt l i = false) := by
        show _ = _
        rw [hv.out, List.drop_eq_nil_of_le (by omega)]; rfl
      clear hv
      go_wp2_with fail
      go_ret
      exact ⟨by rw [hfin.out]; rfl, rfl⟩
end Go.Proofs.Ytdmmoknddkfnmaa
