/-
  TreeSize and TreeDepth of the reference, nodesLeft of the program, by their contracts.
-/
import Derived.Test.YtbgahkicinkgfaaGreatGtBase
namespace Go.Proofs.YtbgahkicinkgfaaGreat
open Go.RowKit

/-- s, but no more than one beyond the limit. -/
def capI (s lim : Int) : Int := if s ≤ lim then s else lim + 1
theorem capI_bd {s lim : Int} (h0 : 0 ≤ s) (h1 : 0 ≤ lim) : 0 ≤ capI s lim ∧ capI s lim ≤ lim + 1 := by unfold capI; split <;> omega

set_option maxHeartbeats 1000000 in
theorem left_any : ∀ (n : Nat) (x : Tree) (a : Option Addr) (cap : Nat) (lim dep : Int) (w : World), (x.size : Int) ≤ lim → lim ≤ 4000 → (x.height : Int) ≤ dep → dep ≤ 200 → x.ok → Kids w (· < w.heap.size) n a x.c →
    Calls Tryz.prog 20 #[tv x a cap, .int .i64 lim, .int .i64 dep] w fun e w' => e = .returned (.int .i64 (lim - (x.size : Nat))) ∧ Below w.heap.size w w' := by
  intro n
  induction n using Nat.strongRecOn with
  | ind n ih =>
  intro x a cap lim dep w hs hl hd hd2 hok hk
  obtain ⟨_, _, hlen⟩ := hok
  unfold maxLen at hlen
  have HS : Hid (x.size = 1 + sizes x.c) := Lib.hid (size_eq x)
  have hs' : 1 + (sizes x.c : Int) ≤ lim := by have := size_eq x; omega
  have hd' : 1 + (heights x.c : Int) ≤ dep := by have := height_eq x; omega
  clear hs hd
  obtain ⟨K, rfl⟩ : ∃ K : Tree, K = x := ⟨_, rfl⟩
  obtain ⟨c, hc⟩ : ∃ c, c = K.c := ⟨_, rfl⟩
  show Calls Tryz.prog 20 #[.agg #[.int .i64 K.k, .string K.t, .slice a K.c.length cap], .int .i64 lim, .int .i64 dep] w _
  rw [← hc] at hk hlen HS hs' hd' ⊢
  clear hc
  generalize K.k = kk
  generalize K.t = tt
  have H := Lib.hid hk
  clear hk
  have z1 : (lim == 0) = false := by simp; omega
  have z2 : (dep == 0) = false := by simp; omega
  have b1 : 1 ≤ lim := by omega
  have b2 : 1 ≤ dep := by omega
  go_enter Tryz.func20, Tryz.ntmps20
  go_wp2_with fail
  go_loopw [1, 20] (fun s i wr => ∃ k : Nat, k ≤ c.length ∧ i = .int .i64 k ∧ s = .int .i64 (lim - 1 - (sizes (c.take k) : Nat)) ∧ Below w.heap.size w wr)
    (fun _ i _ => c.length - (intOf i).toNat)
  case atStart => exact ⟨0, Nat.zero_le _, rfl, by simp [sizes], (Below.refl _ _).alloc (Nat.le_refl _) _⟩
  case round =>
    obtain ⟨k, hk, rfl, rfl, hb⟩ := hrel
    have hzw := hb.size
    by_cases hlt : k < c.length
    · have hx : c[k]? = some c[k] := List.getElem?_eq_getElem hlt
      obtain ⟨y, hY⟩ : ∃ y, y = c[k] := ⟨_, rfl⟩
      rw [← hY] at hx
      clear hY
      have hkw := H.out.to hb
      obtain ⟨hok', m, b, o, sa, cap', hm, rfl, _, p0, p1, p2, hk'⟩ := hkw.at hx
      have ht := sizes_take hx
      have hle := sizes_take_le c (k + 1)
      have hyh := height_le_of hx
      have HN : Hid (lim - 1 - (sizes (c.take k) : Nat) - (y.size : Nat) = lim - 1 - (sizes (c.take (k + 1)) : Nat)) := by show _ = _; omega
      have hy1 : (y.size : Int) ≤ lim - 1 - (sizes (c.take k) : Nat) := by omega
      have hy2 : (y.height : Int) ≤ dep - 1 := by omega
      have hy3 : lim - 1 - (sizes (c.take k) : Nat) ≤ 4000 := by omega
      have hb2 := below_al hb (Nat.le_refl _) (.cells #[.int .i64 y.k, .string y.t, .slice sa y.c.length cap'] 25)
      clear hkw hx ht hle hyh
      generalize lim - 1 - (sizes (c.take k) : Nat) = s at *
      have hnn : 0 ≤ s - (y.size : Int) := by omega
      have hnn2 : ¬ s - (y.size : Int) < 0 := by omega
      go_wp2_with ((go_at_call 20; (with_reducible refine (ih m hm y sa cap' _ _ _ hy1 hy3 hy2 (by omega) hok' (hk'.alloc _)).mono ?_); rintro e w' ⟨rfl, hb1⟩))
      go_roundw
      case rel => exact ⟨k + 1, by omega, by go_num, by rw [HN.out], hb2.trans (hb1.mono (by simp; omega))⟩
      case measure => simp [intOf]; omega
    · obtain rfl : k = c.length := by omega
      have hfin : Hid (lim - 1 - (sizes (c.take c.length) : Nat) = lim - (K.size : Nat)) := by
        have := HS.out
        show _ = _
        rw [List.take_length]
        omega
      generalize lim - 1 - (sizes (c.take c.length) : Nat) = s at *
      go_wp2_with fail
      go_ret
      exact ⟨by rw [hfin.out]; rfl, hb⟩
end Go.Proofs.YtbgahkicinkgfaaGreat
