/-
  wellFormed, wellFormedTree of the program and TreeValid of the reference, by their contracts.
-/
import Derived.Test.YtbgahkicinkgfaaGreatGtBase
namespace Go.Proofs.YtbgahkicinkgfaaGreat
open Go.RowKit

theorem empty_of {t : ByteArray} (h : t.size = 0) : t = ⟨#[]⟩ := by
  cases t with
  | mk d => 
    have : d.size = 0 := h
    rw [Array.eq_empty_of_size_eq_zero this]
theorem isEmpty_of {t : ByteArray} (h : ¬ t.size = 0) : t.toList.isEmpty = false := by
  cases he : t.toList.isEmpty with
  | false => rfl
  | true =>
    rw [ByteArray.toList_eq, List.isEmpty_iff] at he
    have : t.data.toList.length = 0 := by rw [he]; rfl
    exact absurd (by simpa using this) h

theorem wfN_tok {k : Int} {t : ByteArray} {n : Nat} (h : 100 ≤ k) : wfN k t n = decide (n = 0) := by unfold wfN; rw [if_pos h]
theorem wfN_in {k : Int} {t : ByteArray} {n : Nat} (h : ¬ 100 ≤ k) : wfN k t n = decide (t.size = 0) := by unfold wfN; rw [if_neg h]

set_option maxHeartbeats 400000 in
theorem wfN_any (k : Int) (t : ByteArray) (n : Nat) (w : World) :
    Calls Tryz.prog 40 #[.int .i64 k, .string t, .int .i64 n] w fun e w' => e = .returned (.bool (wfN k t n)) ∧ w = w' := by
  by_cases hk : 100 ≤ k
  · have HW := Lib.hid (wfN_tok (t := t) (n := n) hk)
    have hn : (0 : Int) ≤ n := by omega
    by_cases h0 : n = 0
    · subst h0
      go_enter Tryz.func40, Tryz.ntmps40
      go_wp2_with fail
      go_ret
      exact ⟨by rw [HW.out]; rfl, rfl⟩
    · have h1 : ((n : Int) == 0) = false := by simp; omega
      go_enter Tryz.func40, Tryz.ntmps40
      go_wp2_with fail
      go_ret
      exact ⟨by rw [HW.out]; simp [h0], rfl⟩
  · have HW := Lib.hid (wfN_in (t := t) (n := n) hk)
    by_cases h0 : t.size = 0
    · obtain rfl := empty_of h0
      clear h0
      go_enter Tryz.func40, Tryz.ntmps40
      go_wp2_with fail
      go_ret
      exact ⟨by rw [HW.out]; rfl, rfl⟩
    · have h1 := isEmpty_of h0
      go_enter Tryz.func40, Tryz.ntmps40
      go_wp2_with fail
      go_ret
      exact ⟨by rw [HW.out]; simp [h0], rfl⟩

set_option maxHeartbeats 1000000 in
theorem wft_any : ∀ (n : Nat) (x : Tree) (a : Option Addr) (cap : Nat) (w : World), x.ok → Kids w (· < w.heap.size) n a x.c →
    Calls Tryz.prog 21 #[tv x a cap] w fun e w' => e = .returned (.bool x.wf) ∧ Below w.heap.size w w' := by
  intro n
  induction n using Nat.strongRecOn with
  | ind n ih =>
  intro x a cap w hok hk
  obtain ⟨_, _, hlen⟩ := hok
  unfold maxLen at hlen
  have HS : Hid (x.wf = (wfN x.k x.t x.c.length && wfs x.c)) := Lib.hid (wf_eq x)
  obtain ⟨K, rfl⟩ : ∃ K : Tree, K = x := ⟨_, rfl⟩
  obtain ⟨c, hc⟩ : ∃ c, c = K.c := ⟨_, rfl⟩
  obtain ⟨kk, hkk⟩ : ∃ c, c = K.k := ⟨_, rfl⟩
  obtain ⟨tt, htt⟩ : ∃ c, c = K.t := ⟨_, rfl⟩
  show Calls Tryz.prog 21 #[.agg #[.int .i64 K.k, .string K.t, .slice a K.c.length cap]] w _
  rw [← hc, ← hkk, ← htt] at HS
  rw [← hc] at hk hlen
  rw [← hc, ← hkk, ← htt]
  clear hc hkk htt
  have H := Lib.hid hk
  clear hk
  by_cases hw : wfN kk tt c.length = true
  case neg =>
    have HB : Hid (K.wf = false) := by
      show _ = _
      rw [HS.out, Bool.eq_false_iff.2 hw]; rfl
    have hwf : wfN kk tt c.length = false := Bool.eq_false_iff.2 hw
    clear hw
    go_enter Tryz.func21, Tryz.ntmps21
    go_wp2_with (go_at_call 40; (with_reducible refine (wfN_any _ _ _ _).mono ?_); rintro e w' ⟨rfl, rfl⟩)
    go_ret
    exact ⟨by rw [HB.out]; rfl, (Below.refl _ _).alloc (Nat.le_refl _) _⟩
  case pos =>
    have HB : Hid (K.wf = wfs c) := by
      show _ = _
      rw [HS.out, hw]; rfl
    have hdummy : True := trivial
    go_enter Tryz.func21, Tryz.ntmps21
    go_wp2_with (go_at_call 40; (with_reducible refine (wfN_any _ _ _ _).mono ?_); rintro e w' ⟨rfl, rfl⟩)
    go_loopw [17] (fun i wr => ∃ k : Nat, k ≤ c.length ∧ i = .int .i64 k ∧ Hid (wfs (c.take k) = true) ∧ Below w.heap.size w wr)
      (fun i _ => c.length - (intOf i).toNat)
    case atStart => exact ⟨0, Nat.zero_le _, rfl, rfl, (Below.refl _ _).alloc (Nat.le_refl _) _⟩
    case round =>
      obtain ⟨k, hk, rfl, hall, hb⟩ := hrel
      have hzw := hb.size
      by_cases hlt : k < c.length
      · have hx : c[k]? = some c[k] := List.getElem?_eq_getElem hlt
        obtain ⟨y, hY⟩ : ∃ y, y = c[k] := ⟨_, rfl⟩
        rw [← hY] at hx
        clear hY
        have hkw := H.out.to hb
        obtain ⟨hok', m, b, o, sa, cap', hm, rfl, _, p0, p1, p2, hk'⟩ := hkw.at hx
        have HT := Lib.hid (wfs_take hx)
        have HF : Hid (y.wf = false → wfs c = false) := Lib.hid (wfs_false hx)
        have hb2 := below_al hb (Nat.le_refl _) (.cells #[.int .i64 y.k, .string y.t, .slice sa y.c.length cap'] 25)
        clear hkw hx
        by_cases hyw : y.wf = true
        · go_wp2_with ((go_at_call 21; (with_reducible refine (ih m hm y sa cap' _ hok' (hk'.alloc _)).mono ?_); rintro e w' ⟨rfl, hb1⟩))
          go_roundw
          case rel => exact ⟨k + 1, by omega, by go_num, by (show _ = _; rw [HT.out, hall.out, hyw]; rfl), hb2.trans (hb1.mono (by simp; omega))⟩
          case measure => simp [intOf]; omega
        · have hyf : y.wf = false := Bool.eq_false_iff.2 hyw
          clear hyw
          go_wp2_with ((go_at_call 21; (with_reducible refine (ih m hm y sa cap' _ hok' (hk'.alloc _)).mono ?_); rintro e w' ⟨rfl, hb1⟩))
          go_ret
          exact ⟨by rw [HB.out, HF.out hyf]; rfl, hb2.trans (hb1.mono (by simp; omega))⟩
      · obtain rfl : k = c.length := by omega
        have hfin : Hid (wfs c = true) := by
          have := hall.out
          rwa [List.take_length] at this
        clear hall
        go_wp2_with fail
        go_ret
        exact ⟨by rw [HB.out, hfin.out]; rfl, hb⟩

theorem wfN_bad {k : Int} {t : ByteArray} {n : Nat} (h : ¬ wfN k t n = true) : (100 ≤ k ∧ 0 < n) ∨ (k < 100 ∧ t.toList.isEmpty = false) := by
  by_cases hk : 100 ≤ k
  · rw [wfN_tok hk] at h
    left
    exact ⟨hk, by simp at h; omega⟩
  · rw [wfN_in hk] at h
    right
    exact ⟨by omega, isEmpty_of (by simpa using h)⟩
theorem wfN_good {k : Int} {t : ByteArray} {n : Nat} (h : wfN k t n = true) : (100 ≤ k ∧ decide (0 < n) = false) ∨ (k < 100 ∧ t = ⟨#[]⟩) := by
  by_cases hk : 100 ≤ k
  · rw [wfN_tok hk] at h
    left
    exact ⟨hk, by simpa using h⟩
  · rw [wfN_in hk] at h
    right
    exact ⟨by omega, empty_of (by simpa using h)⟩

end Go.Proofs.YtbgahkicinkgfaaGreat
