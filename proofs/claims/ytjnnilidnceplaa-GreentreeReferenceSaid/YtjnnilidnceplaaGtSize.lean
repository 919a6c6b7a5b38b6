/-
  TreeSize and TreeDepth of the reference, nodesLeft of the program, by their contracts.
-/
import Derived.Test.YtjnnilidnceplaaGtBase
namespace Go.Proofs.Ytjnnilidnceplaa
open Go.RowKit

/-- s, but no more than one beyond the limit. -/
def capI (s lim : Int) : Int := if s ≤ lim then s else lim + 1
theorem capI_bd {s lim : Int} (h0 : 0 ≤ s) (h1 : 0 ≤ lim) : 0 ≤ capI s lim ∧ capI s lim ≤ lim + 1 := by unfold capI; split <;> omega

set_option maxHeartbeats 1000000 in
theorem size_any : ∀ (n : Nat) (x : Tree) (a : Option Addr) (cap : Nat) (lim : Int) (w : World), 0 ≤ lim → lim ≤ 60 → x.ok → Kids w (· < w.heap.size) n a x.c →
    Calls Try.prog 5 #[tv x a cap, .int .i64 lim] w fun e w' => e = .returned (.int .i64 (capI x.size lim)) ∧ Below w.heap.size w w' := by
  intro n
  induction n using Nat.strongRecOn with
  | ind n ih =>
  intro x a cap lim w hl0 hl1 hok hk
  obtain ⟨_, _, hlen⟩ := hok
  unfold maxLen at hlen
  have HS : Hid (x.size = 1 + sizes x.c) := Lib.hid (size_eq x)
  obtain ⟨K, rfl⟩ : ∃ K : Tree, K = x := ⟨_, rfl⟩
  obtain ⟨c, hc⟩ : ∃ c, c = K.c := ⟨_, rfl⟩
  show Calls Try.prog 5 #[.agg #[.int .i64 K.k, .string K.t, .slice a K.c.length cap], .int .i64 lim] w _
  rw [← hc] at hk hlen HS ⊢
  clear hc
  generalize K.k = kk
  generalize K.t = tt
  have H := Lib.hid hk
  clear hk
  go_enter Try.func5, Try.ntmps5
  go_wp2_with fail
  go_loopw [5, 11] (fun s i wr => ∃ k : Nat, k ≤ c.length ∧ i = .int .i64 k ∧ s = .int .i64 (capI (1 + sizes (c.take k)) lim) ∧ Below w.heap.size w wr)
    (fun _ i _ => c.length - (intOf i).toNat)
  case atStart => exact ⟨0, Nat.zero_le _, rfl, by simp [sizes, capI]; omega, (Below.refl _ _).alloc (Nat.le_refl _) _⟩
  case round =>
    obtain ⟨k, hk, rfl, rfl, hb⟩ := hrel
    have hzw := hb.size
    by_cases hlt : k < c.length
    · have hx : c[k]? = some c[k] := List.getElem?_eq_getElem hlt
      obtain ⟨y, hY⟩ : ∃ y, y = c[k] := ⟨_, rfl⟩
      rw [← hY] at hx
      clear hY
      have hkw := H.out.to hb
      obtain ⟨hok', m, b, o, sa, cap', hm, rfl, _, p0, p1, p2, hk'⟩ := hkw.at hx
      have HT := Lib.hid (sizes_take hx)
      have hle := sizes_take_le c (k + 1)
      have hy := size_pos y
      by_cases hbr : lim < 1 + sizes (c.take k)
      · have hfin : Hid (capI (1 + (sizes (c.take k) : Nat)) lim = capI K.size lim) := by
          have h1 := HS.out
          have h2 := sizes_take_le c k
          show _ = _
          unfold capI
          rw [if_neg (by omega), if_neg (by omega)]
        have hgt : lim < capI (1 + (sizes (c.take k) : Nat)) lim := by unfold capI; rw [if_neg (by omega)]; omega
        generalize capI (1 + (sizes (c.take k) : Nat)) lim = s at *
        clear hkw hk' hx
        go_wp2_with fail
        go_ret
        exact ⟨by rw [hfin.out]; rfl, below_al hb (Nat.le_refl _) _⟩
      · have hval : Hid (capI (1 + (sizes (c.take k) : Nat)) lim = 1 + (sizes (c.take k) : Nat)) := by
          show _ = _
          unfold capI
          rw [if_pos (by omega)]
        have hnx : Hid (1 + (sizes (c.take k) : Int) + capI y.size (lim - (1 + (sizes (c.take k) : Int))) = capI (1 + (sizes (c.take (k + 1)) : Nat)) lim) := by
          show _ = _
          rw [HT.out]
          unfold capI
          split <;> split <;> omega
        have hbd := capI_bd (s := y.size) (lim := lim - (1 + (sizes (c.take k) : Int))) (by omega) (by omega)
        rw [hval.out]
        have hq0 : (0 : Int) ≤ 1 + (sizes (c.take k) : Int) := by omega
        have hq1 : 1 + (sizes (c.take k) : Int) ≤ lim := by omega
        clear hval hbr hkw hx
        generalize (1 + (sizes (c.take k) : Int)) = s at *
        go_wp2_with ((go_at_call 5; (with_reducible refine (ih m hm y sa cap' _ _ (by omega) (by omega) hok' (hk'.alloc _)).mono ?_); rintro e w' ⟨rfl, hb1⟩))
        go_roundw
        case rel => exact ⟨k + 1, by omega, by go_num, by rw [hnx.out], (below_al hb (Nat.le_refl _) _).trans (hb1.mono (by simp; omega))⟩
        case measure => simp [intOf]; omega
    · obtain rfl : k = c.length := by omega
      have hfin : Hid (capI (1 + (sizes (c.take c.length) : Nat)) lim = capI K.size lim) := by
        show _ = _
        rw [List.take_length, HS.out]
        simp
      generalize capI (1 + (sizes (c.take c.length) : Nat)) lim = s at *
      go_wp2_with fail
      go_ret
      exact ⟨by rw [hfin.out]; rfl, hb⟩

set_option maxHeartbeats 1000000 in
theorem depth_any : ∀ (n : Nat) (x : Tree) (a : Option Addr) (cap : Nat) (w : World), x.size ≤ 60 → x.ok → Kids w (· < w.heap.size) n a x.c →
    Calls Try.prog 6 #[tv x a cap] w fun e w' => e = .returned (.int .i64 (x.height : Nat)) ∧ Below w.heap.size w w' := by
  intro n
  induction n using Nat.strongRecOn with
  | ind n ih =>
  intro x a cap w hs60 hok hk
  obtain ⟨_, _, hlen⟩ := hok
  unfold maxLen at hlen
  have HS : Hid (x.height = 1 + heights x.c) := Lib.hid (height_eq x)
  have hsz : sizes x.c ≤ 59 := by have := size_eq x; omega
  clear hs60
  obtain ⟨K, rfl⟩ : ∃ K : Tree, K = x := ⟨_, rfl⟩
  obtain ⟨c, hc⟩ : ∃ c, c = K.c := ⟨_, rfl⟩
  show Calls Try.prog 6 #[.agg #[.int .i64 K.k, .string K.t, .slice a K.c.length cap]] w _
  rw [← hc] at hk hlen HS hsz ⊢
  clear hc
  generalize K.k = kk
  generalize K.t = tt
  have H := Lib.hid hk
  clear hk
  go_enter Try.func6, Try.ntmps6
  go_wp2_with fail
  go_loopw [3, 9] (fun s i wr => ∃ k : Nat, k ≤ c.length ∧ i = .int .i64 k ∧ s = .int .i64 (heights (c.take k) : Nat) ∧ Below w.heap.size w wr)
    (fun _ i _ => c.length - (intOf i).toNat)
  case atStart => exact ⟨0, Nat.zero_le _, rfl, rfl, (Below.refl _ _).alloc (Nat.le_refl _) _⟩
  case round =>
    obtain ⟨k, hk, rfl, rfl, hb⟩ := hrel
    have hzw := hb.size
    by_cases hlt : k < c.length
    · have hx : c[k]? = some c[k] := List.getElem?_eq_getElem hlt
      obtain ⟨y, hY⟩ : ∃ y, y = c[k] := ⟨_, rfl⟩
      rw [← hY] at hx
      clear hY
      have hkw := H.out.to hb
      obtain ⟨hok', m, b, o, sa, cap', hm, rfl, _, p0, p1, p2, hk'⟩ := hkw.at hx
      have HT := Lib.hid (heights_take hx)
      have hy1 := size_le_of hx
      have hy2 := height_le y
      have hp1 := heights_le (c.take k)
      have hp2 := sizes_take_le c k
      generalize heights (c.take k) = p at *
      have hq : y.size ≤ 60 := by omega
      have hp : (p : Int) ≤ 60 := by omega
      have hh : (y.height : Int) ≤ 60 := by omega
      have hb2 := below_al hb (Nat.le_refl _) (.cells #[.int .i64 y.k, .string y.t, .slice sa y.c.length cap'] 27)
      clear hkw hx hp1 hp2 hy1 hy2 hsz
      have HP : Hid ((if p < y.height then (y.height : Int) else (p : Int)) = (heights (c.take (k + 1)) : Nat)) := by have := HT.out; show _ = _; split <;> omega
      go_wp2_with ((go_at_call 6; (with_reducible refine (ih m hm y sa cap' _ hq hok' (hk'.alloc _)).mono ?_); rintro e w' ⟨rfl, hb1⟩))
      go_roundw
      case rel => exact ⟨k + 1, by omega, by go_num, by rw [HP.out], hb2.trans (hb1.mono (by simp; omega))⟩
      case measure => simp [intOf]; omega
    · obtain rfl : k = c.length := by omega
      have hfin : Hid (heights (c.take c.length) + 1 = K.height) := by
        show _ = _
        rw [List.take_length, HS.out]
        omega
      have hp1 := heights_le (c.take c.length)
      have hp2 := sizes_take_le c c.length
      generalize heights (c.take c.length) = p at *
      have hp : (p : Int) ≤ 60 := by omega
      go_wp2_with fail
      go_ret
      exact ⟨by rw [← hfin.out]; rfl, hb⟩

set_option maxHeartbeats 1000000 in
theorem left_any : ∀ (n : Nat) (x : Tree) (a : Option Addr) (cap : Nat) (lim dep : Int) (w : World), (x.size : Int) ≤ lim → lim ≤ 4000 → (x.height : Int) ≤ dep → dep ≤ 200 → x.ok → Kids w (· < w.heap.size) n a x.c →
    Calls Try.prog 20 #[tv x a cap, .int .i64 lim, .int .i64 dep] w fun e w' => e = .returned (.int .i64 (lim - (x.size : Nat))) ∧ Below w.heap.size w w' := by
  intro n
  induction n using Nat.strongRecOn with
  | ind n ih =>
  intro x a cap lim dep w hs hl hd hd2 hok hk
  obtain ⟨_, _, hlen⟩ := hok
  unfold maxLen at hlen
  have HS : Hid (x.size = 1 + sizes x.c) := Lib.hid (size_eq x)
  have hs' : 1 + (sizes x.c : Int) ≤ lim := by have := size_eq x; omega
  have hd' : 1 + (heights x.c : Int) ≤ dep := by have := height_eq x; omega
  clear hs hd
  obtain ⟨K, rfl⟩ : ∃ K : Tree, K = x := ⟨_, rfl⟩
  obtain ⟨c, hc⟩ : ∃ c, c = K.c := ⟨_, rfl⟩
  show Calls Try.prog 20 #[.agg #[.int .i64 K.k, .string K.t, .slice a K.c.length cap], .int .i64 lim, .int .i64 dep] w _
  rw [← hc] at hk hlen HS hs' hd' ⊢
  clear hc
  generalize K.k = kk
  generalize K.t = tt
  have H := Lib.hid hk
  clear hk
  have z1 : (lim == 0) = false := by simp; omega
  have z2 : (dep == 0) = false := by simp; omega
  have b1 : 1 ≤ lim := by omega
  have b2 : 1 ≤ dep := by omega
  go_enter Try.func20, Try.ntmps20
  go_wp2_with fail
  go_loopw [1, 20] (fun s i wr => ∃ k : Nat, k ≤ c.length ∧ i = .int .i64 k ∧ s = .int .i64 (lim - 1 - (sizes (c.take k) : Nat)) ∧ Below w.heap.size w wr)
    (fun _ i _ => c.length - (intOf i).toNat)
  case atStart => exact ⟨0, Nat.zero_le _, rfl, by simp [sizes], (Below.refl _ _).alloc (Nat.le_refl _) _⟩
  case round =>
    obtain ⟨k, hk, rfl, rfl, hb⟩ := hrel
    have hzw := hb.size
    by_cases hlt : k < c.length
    · have hx : c[k]? = some c[k] := List.getElem?_eq_getElem hlt
      obtain ⟨y, hY⟩ : ∃ y, y = c[k] := ⟨_, rfl⟩
      rw [← hY] at hx
      clear hY
      have hkw := H.out.to hb
      obtain ⟨hok', m, b, o, sa, cap', hm, rfl, _, p0, p1, p2, hk'⟩ := hkw.at hx
      have ht := sizes_take hx
      have hle := sizes_take_le c (k + 1)
      have hyh := height_le_of hx
      have HN : Hid (lim - 1 - (sizes (c.take k) : Nat) - (y.size : Nat) = lim - 1 - (sizes (c.take (k + 1)) : Nat)) := by show _ = _; omega
      have hy1 : (y.size : Int) ≤ lim - 1 - (sizes (c.take k) : Nat) := by omega
      have hy2 : (y.height : Int) ≤ dep - 1 := by omega
      have hy3 : lim - 1 - (sizes (c.take k) : Nat) ≤ 4000 := by omega
      have hb2 := below_al hb (Nat.le_refl _) (.cells #[.int .i64 y.k, .string y.t, .slice sa y.c.length cap'] 27)
      clear hkw hx ht hle hyh
      generalize lim - 1 - (sizes (c.take k) : Nat) = s at *
      have hnn : 0 ≤ s - (y.size : Int) := by omega
      have hnn2 : ¬ s - (y.size : Int) < 0 := by omega
      go_wp2_with ((go_at_call 20; (with_reducible refine (ih m hm y sa cap' _ _ _ hy1 hy3 hy2 (by omega) hok' (hk'.alloc _)).mono ?_); rintro e w' ⟨rfl, hb1⟩))
      go_roundw
      case rel => exact ⟨k + 1, by omega, by go_num, by rw [HN.out], hb2.trans (hb1.mono (by simp; omega))⟩
      case measure => simp [intOf]; omega
    · obtain rfl : k = c.length := by omega
      have hfin : Hid (lim - 1 - (sizes (c.take c.length) : Nat) = lim - (K.size : Nat)) := by
        have := HS.out
        show _ = _
        rw [List.take_length]
        omega
      generalize lim - 1 - (sizes (c.take c.length) : Nat) = s at *
      go_wp2_with fail
      go_ret
      exact ⟨by rw [hfin.out]; rfl, hb⟩
end Go.Proofs.Ytjnnilidnceplaa
