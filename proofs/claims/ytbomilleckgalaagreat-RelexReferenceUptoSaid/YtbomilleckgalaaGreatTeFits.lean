import Derived.Test.YtbomilleckgalaaGreatTeSep
namespace Go.Proofs.YtbomilleckgalaaGreat.Te
open Go.RowKit

set_option maxHeartbeats 400000 in
theorem fits_any (n : Int) (a : Option Addr) (cap : Nat) (l : List Ed) (w : World) (hn0 : 0 ≤ n) (hn : n ≤ 2000) (hl : l.length ≤ 50) (hin : Inside n l) (h : Eds w w.heap.size a l) :
    Calls Tryz.prog 79 #[.int .i64 n, .slice a l.length cap] w fun e w' => e = .returned (.bool (fitsB n l)) ∧ Below w.heap.size w w' := by
  go_enter Tryz.func79, Tryz.ntmps79
  go_wp2
  go_loopw [5, 14] (fun p i wr => ∃ (k : Nat) (q : Int), k ≤ l.length ∧ i = .int .i64 k ∧ p = .int .i64 q ∧ Hid (q = 2000 - n + dsum (l.take k)) ∧ Below w.heap.size w wr) (fun _ i _ => l.length - (intOf i).toNat)
  case atStart => exact ⟨0, 2000 - n, Nat.zero_le _, rfl, rfl, by show _ = _; simp [dsum], Below.refl _ _⟩
  case round =>
    obtain ⟨k, q, hk, rfl, rfl, hq, hb⟩ := hrel
    have hqb : 0 ≤ q ∧ q ≤ 1000000 := by
      have := hin.dsum_le hn hl k
      have := hq.out
      omega
    obtain ⟨hq0, hq1⟩ := hqb
    by_cases hlt : k < l.length
    · have hx : l[k]? = some l[k] := List.getElem?_eq_getElem hlt
      obtain ⟨x, hX⟩ : ∃ x, x = l[k] := ⟨_, rfl⟩
      rw [← hX] at hx
      obtain ⟨hi0, hi1, hi2⟩ := hin x (by rw [hX]; exact List.getElem_mem hlt)
      clear hX
      obtain ⟨hok, b, o, rfl, hbl, h0, h1, h2⟩ := (h.below hb) k x hx
      have hz := hb.size
      have Hx := Lib.hid hx
      clear hx
      go_wp2
      go_roundw
      case rel => exact ⟨k + 1, _, by omega, by go_num, rfl, by show _ = _; rw [dsum_take Hx.out, hq.out]; omega, hb.alloc hz _⟩
      case measure => simp [intOf]; omega
    · have hkl : k = l.length := by omega
      subst hkl
      have hq' : Hid (q = 2000 - n + dsum l) := by have := hq.out; rw [List.take_length] at this; exact this
      clear hq
      go_wp2
      go_loopw [4, 5, 28] (fun r p i wr => ∃ (k : Nat) (q : Int), k ≤ l.length ∧ r = .bool false ∧ i = .int .i64 k ∧ p = .int .i64 q ∧ Hid (q = 2000 - n + dsum l - tsum (l.take k)) ∧ 0 ≤ q ∧ q ≤ 1000000 ∧ Below w.heap.size w wr) (fun _ _ i _ => l.length - (intOf i).toNat)
      case atStart => exact ⟨0, q, Nat.zero_le _, rfl, rfl, rfl, by show _ = _; rw [hq'.out]; simp [tsum], hq0, hq1, hb⟩
      case round =>
        clear hb hq0 hq1
        obtain ⟨k, q2, hk, rfl, rfl, rfl, hq, hq0, hq1, hb⟩ := hrel
        by_cases hlt : k < l.length
        · have hx : l[k]? = some l[k] := List.getElem?_eq_getElem hlt
          obtain ⟨x, hX⟩ : ∃ x, x = l[k] := ⟨_, rfl⟩
          rw [← hX] at hx
          clear hX
          obtain ⟨hok, b, o, rfl, hbl, h0, h1, h2⟩ := (h.below hb) k x hx
          have hz := hb.size
          have hts : x.t.size ≤ maxLen := hok.2.2.2.2
          unfold maxLen at hts
          have Hx := Lib.hid hx
          clear hx
          by_cases hgt : q2 < x.t.size
          · go_wp2
            go_ret
            have h1 := tsum_take Hx.out
            have h2 := tsum_take_le l (k + 1)
            have h3 := hq.out
            have : fitsB n l = false := by unfold fitsB; rw [decide_eq_false_iff_not]; omega
            exact ⟨(by rw [this] : Ending.returned (.bool false) = .returned (.bool (fitsB n l))), hb.alloc hz _⟩
          · go_wp2
            go_roundw
            case rel => exact ⟨k + 1, _, by omega, rfl, by go_num, rfl, by show _ = _; rw [tsum_take Hx.out, hq.out]; omega, by omega, by omega, hb.alloc hz _⟩
            case measure => simp [intOf]; omega
        · go_wp2
          go_ret
          have h3 := hq.out
          rw [List.take_of_length_le (by omega)] at h3
          have : fitsB n l = true := by unfold fitsB; rw [decide_eq_true_iff]; omega
          exact ⟨(by rw [this] : Ending.returned (.bool true) = .returned (.bool (fitsB n l))), hb⟩
end Go.Proofs.YtbomilleckgalaaGreat.Te
