/-
  slices.Equal of two lists of tokens by its contract.
-/
import Derived.Test.YtibiniokbcjjeaaRxTail
namespace Go.Proofs.Ytibiniokbcjjeaa
open Go.RowKit

theorem take_next {l m : List Tk} {k : Nat} {x y : Tk} (h : l.take k = m.take k) (hx : l[k]? = some x) (hy : m[k]? = some y) (e : x = y) : l.take (k + 1) = m.take (k + 1) := by
  rw [List.take_add_one, List.take_add_one, h, hx, hy, e]

set_option maxHeartbeats 1000000 in
set_option maxRecDepth 100000 in
theorem same_any (l m : List Tk) (a1 : Option Addr) (c1 : Nat) (a2 : Option Addr) (c2 : Nat) (w : World) (hl : l.length ≤ 9223372036854775807) (hm : m.length ≤ 9223372036854775807) (h1 : Tks w w.heap.size a1 l) (h2 : Tks w w.heap.size a2 m) :
    Calls Try.prog 18 #[.slice a1 l.length c1, .slice a2 m.length c2] w fun e w' => ∃ r : Bool, e = .returned (.bool r) ∧ (r = true ↔ l = m) ∧ Below w.heap.size w w' := by
  have H1 := Lib.hid h1
  have H2 := Lib.hid h2
  clear h1 h2
  by_cases hlm : m.length = l.length
  · rw [hlm]
    have HLM := Lib.hid hlm
    clear hm hlm
    go_enter Try.func18, Try.ntmps18
    go_wp2_with fail
    go_loopw [13] (fun i wr => ∃ k : Nat, k ≤ l.length ∧ i = .int .i64 k ∧ Hid (l.take k = m.take k) ∧ Below w.heap.size w wr)
      (fun i _ => l.length - (intOf i).toNat)
    case atStart => exact ⟨0, Nat.zero_le _, rfl, (show _ = _ by simp), Below.refl _ _⟩
    case round =>
      obtain ⟨k, hk, rfl, heq, hb⟩ := hrel
      by_cases hlt : k < l.length
      · have hx : l[k]? = some l[k] := List.getElem?_eq_getElem hlt
        obtain ⟨x, hX⟩ : ∃ x, x = l[k] := ⟨_, rfl⟩
        rw [← hX] at hx
        clear hX
        have hlt2 : k < m.length := by rw [HLM.out]; exact hlt
        have hy : m[k]? = some (m[k]'hlt2) := List.getElem?_eq_getElem hlt2
        obtain ⟨y, hY⟩ : ∃ y, y = m[k]'hlt2 := ⟨_, rfl⟩
        rw [← hY] at hy
        clear hY
        obtain ⟨b, o, rfl, _, p0, p1⟩ := (H1.out.below hb (Nat.le_refl _)) k x hx
        obtain ⟨b', o', rfl, _, g0, g1⟩ := (H2.out.below hb (Nat.le_refl _)) k y hy
        have hneq := neq_toks x y
        have hk0 : (0 : Int) ≤ (k : Int) := by omega
        have hk1 : (k : Int) < (l.length : Int) := by omega
        have HX := Lib.hid hx
        have HY := Lib.hid hy
        clear hx hy hlt2
        by_cases hxy : x = y
        · have hd : (!decide (x = y)) = false := by simpa using hxy
          rw [hd] at hneq
          have HN : Hid (l.take (k + 1) = m.take (k + 1)) := take_next heq.out HX.out HY.out hxy
          clear hxy hd HX HY heq
          go_wp2_with fail
          go_quiet (fail)
          go_wp2_with fail
          go_roundw
          case rel => exact ⟨k + 1, by omega, by go_num, HN, below_drewN' hb _⟩
          case measure => simp [intOf]; omega
        · have hd : (!decide (x = y)) = true := by simpa using hxy
          rw [hd] at hneq
          have HN : Hid (¬ l = m) := by
            show ¬ _
            intro e
            subst e
            have := HX.out.symm.trans HY.out
            exact hxy (Option.some.inj this)
          clear hxy hd HX HY heq
          go_wp2_with fail
          go_quiet (fail)
          go_wp2_with fail
          go_ret
          exact ⟨false, rfl, by simpa using HN.out, below_drewN' hb _⟩
      · obtain rfl : k = l.length := by omega
        have HN : Hid (l = m) := by
          show _ = _
          have := heq.out
          rwa [List.take_length, ← HLM.out, List.take_length] at this
        clear heq
        go_wp2_with fail
        go_ret
        exact ⟨true, rfl, by simpa using HN.out, hb⟩
  · have g : ((l.length : Int) != (m.length : Int)) = true := by simp; omega
    have HN : Hid (¬ l = m) := by
      show ¬ _
      intro e
      exact hlm (by rw [e])
    have g1 : (l.length : Int) ≤ 9223372036854775807 := by omega
    have g2 : (m.length : Int) ≤ 9223372036854775807 := by omega
    clear hlm
    go_enter Try.func18, Try.ntmps18
    go_wp2_with fail
    go_ret
    exact ⟨false, rfl, by simpa using HN.out, Below.refl _ _⟩
end Go.Proofs.Ytibiniokbcjjeaa
