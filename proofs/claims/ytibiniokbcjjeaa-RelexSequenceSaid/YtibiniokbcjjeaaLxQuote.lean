/-
  lexer.quotedToken, isPunct and startsWithPair by their contracts.
-/
import Derived.Test.YtibiniokbcjjeaaLxLine
import Derived.Lib.IndexAny
namespace Go.Proofs.Ytibiniokbcjjeaa
open Go.RowKit

theorem drop_cons {l : List UInt8} {i : Nat} {c : UInt8} (h : l[i]? = some c) : l.drop i = c :: l.drop (i + 1) := by
  obtain ⟨hi, rfl⟩ := List.getElem?_eq_some_iff.1 h
  exact List.drop_eq_getElem_cons hi

theorem lit_quote {l : List UInt8} {i R : Nat} {c : UInt8} (h : lit (l.drop i) i false = R) (hc : l[i]? = some c) (h34 : c = 34) : R = i + 1 := by
  subst h34
  rw [← h, drop_cons hc, lit]
  simp

theorem lit_plain {l : List UInt8} {i R : Nat} {c : UInt8} (h : lit (l.drop i) i false = R) (hc : l[i]? = some c) (h10 : c ≠ 10) (h34 : c ≠ 34) (h92 : c ≠ 92) : lit (l.drop (i + 1)) (i + 1) false = R := by
  rw [drop_cons hc, lit, if_neg h10, if_neg (by simp [h34])] at h
  have : (c == 92) = false := by simpa using h92
  rw [this] at h
  exact h

theorem lit_slash {l : List UInt8} {i R : Nat} {c : UInt8} (hnl : ∀ x ∈ l, x ≠ 10) (h : lit (l.drop i) i false = R) (hc : l[i]? = some c) (h92 : c = 92) : lit (l.drop (i + 1 + 1)) (i + 1 + 1) false = R := by
  subst h92
  rw [drop_cons hc, lit, if_neg (by decide), if_neg (by simp)] at h
  rcases Nat.lt_or_ge (i + 1) l.length with h1 | h1
  · have hd : l[i + 1]? = some (l[i + 1]'h1) := List.getElem?_eq_getElem h1
    have hn := hnl _ (List.getElem_mem h1)
    rw [drop_cons hd] at h
    simp only [Bool.not_false, Bool.true_and, beq_self_eq_true] at h
    rw [lit, if_neg hn] at h
    simp at h
    exact h
  · rw [List.drop_eq_nil_of_le h1] at h
    rw [List.drop_eq_nil_of_le (by omega)]
    exact h

theorem lit_end {l : List UInt8} {i R : Nat} (h : lit (l.drop i) i false = R) (hi : l.length ≤ i) : R = 0 := by
  rw [List.drop_eq_nil_of_le hi, lit] at h
  exact h.symm

def qR (s : ByteArray) : Nat := lit ((L s).drop 1) 1 false
def qK (s : ByteArray) : Int := if qR s = 0 then 108 else 106
def qN (s : ByteArray) : Nat := if qR s = 0 then s.size else qR s

theorem ne_of_int {c d : UInt8} (h : ¬ (c.toNat : Int) = d.toNat) : c ≠ d := fun e => h (by rw [e])

set_option maxHeartbeats 1000000 in
theorem quoted_any (s : ByteArray) (w : World) (hs : s.size ≤ 1000000) (hnl : Hid (∀ x ∈ L s, x ≠ 10)) : Calls Try.prog 29 #[.string s] w fun e w' => e = .returned (.tuple #[.int .i64 (qK s), .int .i64 (qN s : Nat)]) ∧ w' = w := by
  obtain ⟨R, hR⟩ : ∃ R, R = qR s := ⟨_, rfl⟩
  have HR := Lib.hid hR
  clear hR
  go_enter Try.func29, Try.ntmps29
  go_wp2_with fail
  go_loop [4] (fun i => ∃ k : Nat, 1 ≤ k ∧ k ≤ s.size + 1 ∧ i = .int .i64 k ∧ Hid (lit ((L s).drop k) k false = R)) (fun i => s.size + 1 - (intOf i).toNat)
  case atStart => exact ⟨1, Nat.le_refl _, by omega, rfl, by show _ = _; rw [HR.out]; rfl⟩
  case round =>
    obtain ⟨k, hk1, hk, rfl, hlit⟩ := hrel
    by_cases hlt : k < s.size
    · obtain ⟨c, hc⟩ : ∃ c, s[k]'hlt = c := ⟨_, rfl⟩
      have hat := Lib.hid (at_L s k hlt)
      rw [hc] at hat
      have hb : (k : Int) < 1000000 := by omega
      by_cases h34 : (c.toNat : Int) = 34
      · have hq := lit_quote hlit.out hat.out (byte_eq (d := 34) h34)
        have e1 : Hid (qK s = 106) := by show _ = _; rw [qK, ← HR.out, if_neg (by omega)]
        have e2 : Hid (qN s = k + 1) := by show _ = _; rw [qN, ← HR.out, if_neg (by omega), hq]
        clear hlit hat hq
        go_wp2_with fail
        go_ret2
        exact ⟨by rw [e1.out, e2.out]; rfl, rfl⟩
      · have g34 : ((c.toNat : Int) == 34) = false := by simpa using h34
        by_cases h92 : (c.toNat : Int) = 92
        · have hn := Lib.hid (lit_slash hnl.out hlit.out hat.out (byte_eq (d := 92) h92))
          clear hlit hat h34
          go_wp2_with fail
          go_round
          case rel => exact ⟨k + 1 + 1, by omega, by omega, by go_num, hn⟩
          case measure => simp [intOf]; omega
        · have g92 : ((c.toNat : Int) == 92) = false := by simpa using h92
          have hn := Lib.hid (lit_plain hlit.out hat.out (hnl.out _ (List.mem_of_getElem? hat.out)) (ne_of_int (d := 34) h34) (ne_of_int (d := 92) h92))
          clear hlit hat h34 h92
          go_wp2_with fail
          go_round
          case rel => exact ⟨k + 1, by omega, by omega, by go_num, hn⟩
          case measure => simp [intOf]; omega
    · have h0 := lit_end hlit.out (by rw [L_len]; omega)
      have e1 : Hid (qK s = 108) := by show _ = _; rw [qK, ← HR.out, if_pos h0]
      have e2 : Hid (qN s = s.size) := by show _ = _; rw [qN, ← HR.out, if_pos h0]
      have h1 : ¬ (k : Int) < s.size := by omega
      clear hlit h0
      go_wp2_with fail
      go_ret2
      exact ⟨by rw [e1.out, e2.out]; rfl, rfl⟩

theorem lit_take : ∀ (r : List UInt8) (k : Nat) (q : Bool), lit (r.take (run nnI r)) k q = lit r k q := by
  intro r
  induction r with
  | nil => intro k q; rfl
  | cons c r ih =>
    intro k q
    by_cases h : c = 10
    · subst h
      rw [run_zero rfl, List.take_zero, lit, lit, if_pos rfl]
    · have hn : nnI (c.toNat : Int) = true := by
        unfold nnI
        rw [decide_eq_false]
        · rfl
        · intro h2; exact h (byte_eq (d := 10) (by rw [h2]; rfl))
      rw [run_cons hn, List.take_succ_cons, lit, lit, ih]

theorem line_no (s : ByteArray) : ∀ x ∈ L (line s), x ≠ 10 := by
  intro x hx
  unfold line at hx
  rw [L_bs] at hx
  obtain ⟨i, hi⟩ := List.mem_iff_getElem?.1 hx
  rw [List.getElem?_take] at hi
  split at hi
  · have := run_at (by assumption) hi
    intro e
    subst e
    exact absurd this (by decide)
  · cases hi

theorem line_size (s : ByteArray) : (line s).size = run nnI (L s) := by
  unfold line
  rw [bs_size, List.length_take]
  have := run_le nnI (L s)
  omega

theorem quoted_line {s : ByteArray} {r : List UInt8} (h : L s = 34 :: r) : qK (line s) = (if lit r 1 false = 0 then 108 else 106) ∧ qN (line s) = (if lit r 1 false = 0 then run nnI (L s) else lit r 1 false) := by
  have e : qR (line s) = lit r 1 false := by
    unfold qR line
    rw [L_bs, h, run_cons rfl, List.take_succ_cons]
    exact lit_take r 1 false
  unfold qK qN
  rw [e, line_size]
  exact ⟨rfl, rfl⟩

theorem punct_any (c : UInt8) (w : World) : Calls Try.prog 31 #[.int .u8 (c.toNat : Int)] w fun e w' => e = .returned (.bool (singles.contains c)) ∧ w' = w := by
  have K := Lib.hid (Try.strings_IndexByte ⟨#[40, 41, 123, 125, 91, 93, 60, 62, 44, 59, 58, 46, 61, 43, 45, 42, 47, 33, 38, 124]⟩ (c.toNat : Int) w)
  rw [show ((c.toNat : Int)).toNat.toUInt8 = c from by simp] at K
  have HC : Hid (singles.contains c = decide (0 ≤ Lib.indexByte singles c)) := Lib.contains_iff_indexByte singles c
  change Hid (Calls Try.prog 39 _ w fun e w' => e = .returned (.int .i64 (Lib.indexByte singles c)) ∧ w' = w) at K
  generalize Lib.indexByte singles c = z at *
  go_enter Try.func31, Try.ntmps31
  go_wp2_with fail
  refine K.out.mono ?_
  rintro e w1 ⟨rfl, rfl⟩
  go_wp2_with fail
  go_ret
  exact ⟨by rw [HC.out]; rfl, rfl⟩

theorem pairs_true {q p : List UInt8} (h : (q == p) = true) (hp : p ∈ pairs) : pairs.contains q = true := by
  have : q = p := by simpa using h
  subst this
  simpa using hp

theorem pairs_false {q : List UInt8} (h1 : (q == [58, 58]) = false) (h2 : (q == [61, 62]) = false) (h3 : (q == [45, 62]) = false) (h4 : (q == [61, 61]) = false) (h5 : (q == [38, 38]) = false) (h6 : (q == [124, 124]) = false) : pairs.contains q = false := by
  simp only [pairs, List.contains_cons, List.contains_nil, h1, h2, h3, h4, h5, h6]
  rfl

set_option maxHeartbeats 1000000 in
theorem pair_any (s : ByteArray) (w : World) (hs : s.size ≤ 1000000) : Calls Try.prog 30 #[.string s] w fun e w' => e = .returned (.bool (pairs.contains ((L s).take 2))) ∧ w' = w := by
  have HE : Hid (∀ p : List UInt8, ((s.extract 0 (min 2 (s.size : Int)).toNat).toList == p) = ((L s).take 2 == p)) := by
    intro p
    have : (s.extract 0 (min 2 (s.size : Int)).toNat).toList = (L s).take 2 := by
      rw [ByteArray.toList_eq, take_is]
      show L (bs _) = _
      rw [L_bs]
      by_cases h : 2 ≤ s.size
      · rw [show (min 2 (s.size : Int)).toNat = 2 from by omega]
      · rw [show (min 2 (s.size : Int)).toNat = s.size from by omega, List.take_of_length_le (by rw [L_len]; omega), List.take_of_length_le (by rw [L_len]; omega)]
    rw [this]
  have b2 : (s.size : Int) ≤ 1000000 := by omega
  go_enter Try.func30, Try.ntmps30
  go_wp2_with fail
  all_goals simp only [HE.out] at *
  all_goals first
    | (exfalso; simp_all; done)
    | (go_ret
       refine ⟨?_, rfl⟩
       first
         | (rw [pairs_true (q := (L s).take 2) (by assumption) (by decide)]; rfl)
         | (rw [pairs_false (q := (L s).take 2) (by assumption) (by assumption) (by assumption) (by assumption) (by assumption) (by assumption)]; rfl))
end Go.Proofs.Ytibiniokbcjjeaa
