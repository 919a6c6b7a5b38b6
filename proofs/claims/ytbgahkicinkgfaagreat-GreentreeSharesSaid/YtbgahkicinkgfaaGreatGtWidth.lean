/-
  widthOf, expansionLeft of the program, by their contracts.
-/
import Derived.Test.YtbgahkicinkgfaaGreatGtWf
namespace Go.Proofs.YtbgahkicinkgfaaGreat
open Go.RowKit

theorem wAt_at {l : List N} {j : Nat} {x : N} (h : l[j]? = some x) : wAt (gs l) (j : Int) = x.g.w := by
  unfold wAt
  rw [Int.toNat_natCast, gs_at h]; rfl

theorem inR_at {n : Nat} {c : List Int} (h : InR n c) {k : Nat} {z : Int} (hz : c[k]? = some z) : ∃ j : Nat, z = j ∧ j < n := by
  have := h z (List.mem_of_getElem? hz)
  exact ⟨z.toNat, by omega, by omega⟩

set_option maxHeartbeats 1000000 in
theorem width_any (l : List N) (a : Option Addr) (cap : Nat) (t : ByteArray) (c : List Int) (b : Option Addr) (cc : Nat) (w : World) (hcl : c.length ≤ maxLen) (hr : InR l.length c)
    (hn : Nodes w (· < w.heap.size) a l) (hi : Ints w (· < w.heap.size) b c) :
    Calls Tryz.prog 41 #[.slice a l.length cap, .string t, .slice b c.length cc] w fun e w' => e = .returned (.int .i64 (wid (gs l) t c)) ∧ w = w' := by
  unfold maxLen at hcl
  have H1 := Lib.hid hn
  have H2 := Lib.hid hi
  have HR := Lib.hid hr
  clear hn hi hr
  go_enter Tryz.func41, Tryz.ntmps41
  go_wp2_with fail
  go_loop [7, 14] (fun s i => ∃ k : Nat, k ≤ c.length ∧ i = .int .i64 k ∧ s = .int .i64 (wid (gs l) t (c.take k)))
    (fun _ i => c.length - (intOf i).toNat)
  case atStart => exact ⟨0, Nat.zero_le _, rfl, rfl⟩
  case round =>
    obtain ⟨k, hk, rfl, rfl⟩ := hrel
    by_cases hlt : k < c.length
    · have hx : c[k]? = some c[k] := List.getElem?_eq_getElem hlt
      obtain ⟨z, hZ⟩ : ∃ x, x = c[k] := ⟨_, rfl⟩
      rw [← hZ] at hx
      clear hZ
      have hstep := wid_take (gs l) t hx
      obtain ⟨j, rfl, hj⟩ := inR_at HR.out hx
      obtain ⟨x, hX⟩ : ∃ x, l[j]? = some x := ⟨_, List.getElem?_eq_getElem hj⟩
      obtain ⟨bb, oo, rfl, _, h0⟩ := H2.out k _ hx
      obtain ⟨_, b2, o2, rfl, _, q0, q1, q2, q3, _⟩ := H1.out j x hX
      rw [wAt_at hX] at hstep
      have HS := Lib.hid hstep
      have hj0 : (0 : Int) ≤ (j : Int) := by omega
      have hj1 : (j : Int) < (l.length : Int) := by omega
      clear hx hX hstep
      generalize wid (gs l) t (c.take k) = s at *
      go_wp2_with fail
      go_round
      case rel => exact ⟨k + 1, by omega, by go_num, by rw [HS.out]⟩
      case measure => simp [intOf]; omega
    · obtain rfl : k = c.length := by omega
      have hfin : Hid (wid (gs l) t (c.take c.length) = wid (gs l) t c) := by show _ = _; rw [List.take_length]
      generalize wid (gs l) t (c.take c.length) = s at *
      go_wp2_with fail
      go_ret
      exact ⟨by rw [← hfin.out]; rfl, rfl⟩

/-- What is left of the limit behind s nodes, or -1. -/
def leftI (s lim : Int) : Int := if s ≤ lim then lim - s else -1

set_option maxHeartbeats 1000000 in
theorem exp_any (l : List N) (a : Option Addr) (cap : Nat) (hd : Down (gs l)) : ∀ (i : Nat) (lim : Int) (w : World), i < l.length → 0 ≤ lim → lim ≤ 4000 → Nodes w (· < w.heap.size) a l →
    Calls Tryz.prog 24 #[.slice a l.length cap, .int .i64 i, .int .i64 lim] w fun e w' => e = .returned (.int .i64 (leftI (szAt (gs l) i) lim)) ∧ w = w' := by
  intro i
  induction i using Nat.strongRecOn with
  | ind i ih =>
  intro lim w hi h0 h1 hn
  obtain ⟨x, hX⟩ : ∃ x, l[i]? = some x := ⟨_, List.getElem?_eq_getElem hi⟩
  obtain ⟨⟨_, _, _, hc8, _⟩, b, o, rfl, _, q0, q1, q2, q3, qI⟩ := hn i x hX
  obtain ⟨xa, hxa⟩ : ∃ xa, xa = x.a := ⟨_, rfl⟩
  rw [← hxa] at q3 qI
  clear hxa
  have HS := Lib.hid (szAt_eq hd (gs_at hX))
  have HR := Lib.hid (hd i x.g (gs_at hX))
  have H2 := Lib.hid qI
  have HN := Lib.hid hn
  have hi0 : (0 : Int) ≤ (i : Int) := by omega
  have hi1 : (i : Int) < (l.length : Int) := by omega
  clear qI hX hn
  by_cases hz : lim = 0
  · subst hz
    have hv : Hid (leftI (szAt (gs l) i) 0 = -1) := by
      have := HS.out
      show _ = _
      unfold leftI
      rw [if_neg (by omega)]
    go_enter Tryz.func24, Tryz.ntmps24
    go_wp2_with fail
    go_ret
    exact ⟨by rw [hv.out]; rfl, rfl⟩
  have z1 : (lim == 0) = false := by simp; omega
  have b1 : 1 ≤ lim := by omega
  clear hz
  go_enter Tryz.func24, Tryz.ntmps24
  go_wp2_with fail
  go_loop [2, 19] (fun s i => ∃ k : Nat, k ≤ x.g.c.length ∧ i = .int .i64 k ∧ s = .int .i64 (lim - 1 - (sumC (szAt (gs l)) (x.g.c.take k) : Nat)) ∧ Hid ((sumC (szAt (gs l)) (x.g.c.take k) : Int) ≤ lim - 1))
    (fun _ i => x.g.c.length - (intOf i).toNat)
  case atStart => exact ⟨0, Nat.zero_le _, rfl, by simp [sumC], by show _ ≤ _; simp [sumC]; omega⟩
  case round =>
    obtain ⟨k, hk, rfl, rfl, hle'⟩ := hrel
    have hle := hle'.out
    clear hle'
    by_cases hlt : k < x.g.c.length
    · have hx : x.g.c[k]? = some x.g.c[k] := List.getElem?_eq_getElem hlt
      obtain ⟨z, hZ⟩ : ∃ y, y = x.g.c[k] := ⟨_, rfl⟩
      rw [← hZ] at hx
      clear hZ
      have hst := sumC_take (szAt (gs l)) hx
      have hall := sumC_take_le (szAt (gs l)) x.g.c (k + 1)
      have htot := HS.out
      obtain ⟨j, rfl, hj⟩ := inR_at HR.out hx
      rw [Int.toNat_natCast] at hst
      obtain ⟨bb, oo, rfl, _, g0⟩ := H2.out k _ hx
      have hy1 : 0 ≤ lim - 1 - (sumC (szAt (gs l)) (x.g.c.take k) : Int) := by omega
      have hy2 : lim - 1 - (sumC (szAt (gs l)) (x.g.c.take k) : Int) ≤ 4000 := by omega
      have hk0 : (0 : Int) ≤ (k : Int) := by omega
      have hk1 : (k : Int) < (x.g.c.length : Int) := by omega
      by_cases hfit : (sumC (szAt (gs l)) (x.g.c.take (k + 1)) : Int) ≤ lim - 1
      · have hv : Hid (leftI (szAt (gs l) j) (lim - 1 - (sumC (szAt (gs l)) (x.g.c.take k) : Int)) = lim - 1 - (sumC (szAt (gs l)) (x.g.c.take (k + 1)) : Int)) := by
          show _ = _
          unfold leftI
          rw [if_pos (by omega)]
          omega
        have hnn : 0 ≤ lim - 1 - (sumC (szAt (gs l)) (x.g.c.take (k + 1)) : Int) := by omega
        have hnn2 : ¬ lim - 1 - (sumC (szAt (gs l)) (x.g.c.take (k + 1)) : Int) < 0 := by omega
        have hr : Hid ((sumC (szAt (gs l)) (x.g.c.take (k + 1)) : Int) ≤ lim - 1) := hfit
        have HC := Lib.hid (ih j hj (lim - 1 - (sumC (szAt (gs l)) (x.g.c.take k) : Int)) w (by omega) hy1 hy2 HN.out)
        rw [hv.out] at HC
        clear hx hst hall htot hle hfit
        generalize hS : lim - 1 - (sumC (szAt (gs l)) (x.g.c.take k) : Int) = s at *
        generalize hS2 : lim - 1 - (sumC (szAt (gs l)) (x.g.c.take (k + 1)) : Int) = s2 at *
        have HS2 := Lib.hid hS2
        clear hS hS2
        go_wp2_with ((go_at_call 24; (with_reducible refine HC.out.mono ?_); rintro e w' ⟨rfl, rfl⟩))
        go_round
        case rel => exact ⟨k + 1, by omega, by go_num, by rw [HS2.out], hr⟩
        case measure => simp [intOf]; omega
      · have hv : Hid (leftI (szAt (gs l) j) (lim - 1 - (sumC (szAt (gs l)) (x.g.c.take k) : Int)) = -1) := by
          show _ = _
          unfold leftI
          rw [if_neg (by omega)]
        have hv2 : Hid (leftI (szAt (gs l) i) lim = -1) := by
          show _ = _
          unfold leftI
          rw [if_neg (by omega)]
        have HC := Lib.hid (ih j hj (lim - 1 - (sumC (szAt (gs l)) (x.g.c.take k) : Int)) w (by omega) hy1 hy2 HN.out)
        rw [hv.out] at HC
        clear hx hst hall htot hle hfit
        generalize hS : lim - 1 - (sumC (szAt (gs l)) (x.g.c.take k) : Int) = s at *
        clear hS
        go_wp2_with ((go_at_call 24; (with_reducible refine HC.out.mono ?_); rintro e w' ⟨rfl, rfl⟩))
        go_ret
        exact ⟨by rw [hv2.out]; rfl, rfl⟩
    · obtain rfl : k = x.g.c.length := by omega
      have hfin : Hid (lim - 1 - (sumC (szAt (gs l)) (x.g.c.take x.g.c.length) : Int) = leftI (szAt (gs l) i) lim) := by
        have := HS.out
        show _ = _
        rw [List.take_length] at hle ⊢
        unfold leftI
        rw [if_pos (by omega)]
        omega
      generalize lim - 1 - (sumC (szAt (gs l)) (x.g.c.take x.g.c.length) : Int) = s at *
      go_wp2_with fail
      go_ret
      exact ⟨by rw [← hfin.out]; rfl, rfl⟩
end Go.Proofs.YtbgahkicinkgfaaGreat
