/-
  lexer.firstLine by its contract: strings.Cut at a line feed.
  lexer.quotedToken, isPunct and startsWithPair by their contracts.
  The classes of bytes: isSpace, isDigit, isWordByte of the program, isWordByte of the reference.
  lexer.lengthOf at the three classes that it is called with.
  lexer.firstToken by its contract: kind and length of the first token, a keyword counted as an identifier.
  lexer.Keywords, lexer.Tokenize and lexer.IsIdentifier by their contracts.
-/
import Derived.Test.YtcpojagfnpajeaaGreatDoorRZLxLow
import Derived.Test.YtcpojagfnpajeaaGreatDoorRZShelf
import Derived.Handy
import Derived.Lib.IndexAny
namespace Go.Proofs.YtcpojagfnpajeaaGreatDoorR.Lx
open Go.RowKit

theorem index_line : ∀ l : List UInt8, (run nnI l < l.length ∧ Lib.indexByte l 10 = (run nnI l : Nat)) ∨ (run nnI l = l.length ∧ Lib.indexByte l 10 = -1) := by
  intro l
  induction l with
  | nil => exact .inr ⟨rfl, rfl⟩
  | cons c r ih =>
    by_cases h : c = 10
    · subst h
      refine .inl ⟨by rw [run_zero rfl]; simp, ?_⟩
      rw [run_zero rfl, Lib.indexByte]
      rfl
    · have hn : nnI (c.toNat : Int) = true := by
        unfold nnI
        rw [decide_eq_false]
        · rfl
        · intro h2; exact h (byte_eq (d := 10) (by rw [h2]; rfl))
      have hc : (c == 10) = false := by simpa using h
      rw [run_cons hn]
      rcases ih with ⟨h1, h2⟩ | ⟨h1, h2⟩
      · refine .inl ⟨by simp; omega, ?_⟩
        rw [Lib.indexByte, hc, h2]
        simp
      · refine .inr ⟨by simp; omega, ?_⟩
        rw [Lib.indexByte, hc, h2]
        rfl

/-- The first line of s. -/
def line (s : ByteArray) : ByteArray := bs ((L s).take (run nnI (L s)))

def Cuts (s : ByteArray) (w : World) (e : Ending) (w' : World) : Prop := ∃ r b, e = .returned (.tuple #[.string (line s), .string r, .bool b]) ∧ Below w.heap.size w w'

set_option maxHeartbeats 1000000 in
theorem cut_inner (s : ByteArray) (w : World) (hs : s.size ≤ 1000000) : Calls Tryz.prog 237 #[.string s, .string ⟨#[10]⟩] w (Cuts s w) := by
  have K := Lib.hid (Tryz.stringslite_Index_one s 10 w)
  rcases index_line (L s) with ⟨h1, h2⟩ | ⟨h1, h2⟩
  · rw [show s.data.toList = L s from rfl, h2] at K
    have HL : Hid (line s = s.extract 0 (run nnI (L s))) := by show _ = _; rw [take_is]; rfl
    rw [L_len] at h1
    generalize run nnI (L s) = k at *
    have b1 : (k : Int) < s.size := by omega
    have b2 : (s.size : Int) ≤ 1000000 := by omega
    clear h2
    go_enter Tryz.func237, Tryz.ntmps237
    go_wp2_with fail
    refine K.out.mono ?_
    rintro e w1 ⟨rfl, rfl⟩
    go_wp2_with fail
    go_quiet (fail)
    go_wp2_with fail
    go_ret3
    exact ⟨_, _, by rw [HL.out]; rfl, below_drewN' (Below.refl _ _) _⟩
  · rw [show s.data.toList = L s from rfl, h2] at K
    have HL : Hid (line s = s) := by show _ = _; unfold line; rw [h1, List.take_length, bs_L]
    clear h1 h2
    go_enter Tryz.func237, Tryz.ntmps237
    go_wp2_with fail
    refine K.out.mono ?_
    rintro e w1 ⟨rfl, rfl⟩
    go_wp2_with fail
    go_ret3
    exact ⟨_, _, by rw [HL.out]; rfl, Below.refl _ _⟩

theorem cut_any (s : ByteArray) (w : World) (hs : s.size ≤ 1000000) : Calls Tryz.prog 185 #[.string s, .string ⟨#[10]⟩] w (Cuts s w) := by
  have K := Lib.hid (cut_inner s w hs)
  go_enter Tryz.func185, Tryz.ntmps185
  go_wp2_with fail
  refine K.out.mono ?_
  rintro e w1 ⟨r, b, rfl, hb⟩
  go_wp2_with fail
  go_ret3
  exact ⟨_, _, rfl, hb⟩

theorem line_any (s : ByteArray) (w : World) (hs : s.size ≤ 1000000) : Calls Tryz.prog 118 #[.string s] w fun e w' => e = .returned (.string (line s)) ∧ Below w.heap.size w w' := by
  have K := Lib.hid (cut_any s w hs)
  go_enter Tryz.func118, Tryz.ntmps118
  go_wp2_with fail
  refine K.out.mono ?_
  rintro e w1 ⟨r, b, rfl, hb⟩
  go_wp2_with fail
  go_ret
  exact ⟨rfl, hb⟩
end Go.Proofs.YtcpojagfnpajeaaGreatDoorR.Lx

namespace Go.Proofs.YtcpojagfnpajeaaGreatDoorR.Lx
open Go.RowKit

theorem drop_cons {l : List UInt8} {i : Nat} {c : UInt8} (h : l[i]? = some c) : l.drop i = c :: l.drop (i + 1) := by
  obtain ⟨hi, rfl⟩ := List.getElem?_eq_some_iff.1 h
  exact List.drop_eq_getElem_cons hi

theorem lit_quote {l : List UInt8} {i R : Nat} {c : UInt8} (h : lit (l.drop i) i false = R) (hc : l[i]? = some c) (h34 : c = 34) : R = i + 1 := by
  subst h34
  rw [← h, drop_cons hc, lit]
  simp

theorem lit_plain {l : List UInt8} {i R : Nat} {c : UInt8} (h : lit (l.drop i) i false = R) (hc : l[i]? = some c) (h10 : c ≠ 10) (h34 : c ≠ 34) (h92 : c ≠ 92) : lit (l.drop (i + 1)) (i + 1) false = R := by
  rw [drop_cons hc, lit, if_neg h10, if_neg (by simp [h34])] at h
  have : (c == 92) = false := by simpa using h92
  rw [this] at h
  exact h

theorem lit_slash {l : List UInt8} {i R : Nat} {c : UInt8} (hnl : ∀ x ∈ l, x ≠ 10) (h : lit (l.drop i) i false = R) (hc : l[i]? = some c) (h92 : c = 92) : lit (l.drop (i + 1 + 1)) (i + 1 + 1) false = R := by
  subst h92
  rw [drop_cons hc, lit, if_neg (by decide), if_neg (by simp)] at h
  rcases Nat.lt_or_ge (i + 1) l.length with h1 | h1
  · have hd : l[i + 1]? = some (l[i + 1]'h1) := List.getElem?_eq_getElem h1
    have hn := hnl _ (List.getElem_mem h1)
    rw [drop_cons hd] at h
    simp only [Bool.not_false, Bool.true_and, beq_self_eq_true] at h
    rw [lit, if_neg hn] at h
    simp at h
    exact h
  · rw [List.drop_eq_nil_of_le h1] at h
    rw [List.drop_eq_nil_of_le (by omega)]
    exact h

theorem lit_end {l : List UInt8} {i R : Nat} (h : lit (l.drop i) i false = R) (hi : l.length ≤ i) : R = 0 := by
  rw [List.drop_eq_nil_of_le hi, lit] at h
  exact h.symm

def qR (s : ByteArray) : Nat := lit ((L s).drop 1) 1 false
def qK (s : ByteArray) : Int := if qR s = 0 then 108 else 106
def qN (s : ByteArray) : Nat := if qR s = 0 then s.size else qR s

theorem ne_of_int {c d : UInt8} (h : ¬ (c.toNat : Int) = d.toNat) : c ≠ d := fun e => h (by rw [e])

set_option maxHeartbeats 1000000 in
theorem quoted_any (s : ByteArray) (w : World) (hs : s.size ≤ 1000000) (hnl : Hid (∀ x ∈ L s, x ≠ 10)) : Calls Tryz.prog 121 #[.string s] w fun e w' => e = .returned (.tuple #[.int .i64 (qK s), .int .i64 (qN s : Nat)]) ∧ w' = w := by
  obtain ⟨R, hR⟩ : ∃ R, R = qR s := ⟨_, rfl⟩
  have HR := Lib.hid hR
  clear hR
  go_enter Tryz.func121, Tryz.ntmps121
  go_wp2_with fail
  go_loop [4] (fun i => ∃ k : Nat, 1 ≤ k ∧ k ≤ s.size + 1 ∧ i = .int .i64 k ∧ Hid (lit ((L s).drop k) k false = R)) (fun i => s.size + 1 - (intOf i).toNat)
  case atStart => exact ⟨1, Nat.le_refl _, by omega, rfl, by show _ = _; rw [HR.out]; rfl⟩
  case round =>
    obtain ⟨k, hk1, hk, rfl, hlit⟩ := hrel
    by_cases hlt : k < s.size
    · obtain ⟨c, hc⟩ : ∃ c, s[k]'hlt = c := ⟨_, rfl⟩
      have hat := Lib.hid (at_L s k hlt)
      rw [hc] at hat
      have hb : (k : Int) < 1000000 := by omega
      by_cases h34 : (c.toNat : Int) = 34
      · have hq := lit_quote hlit.out hat.out (byte_eq (d := 34) h34)
        have e1 : Hid (qK s = 106) := by show _ = _; rw [qK, ← HR.out, if_neg (by omega)]
        have e2 : Hid (qN s = k + 1) := by show _ = _; rw [qN, ← HR.out, if_neg (by omega), hq]
        clear hlit hat hq
        go_wp2_with fail
        go_ret2
        exact ⟨by rw [e1.out, e2.out]; rfl, rfl⟩
      · have g34 : ((c.toNat : Int) == 34) = false := by simpa using h34
        by_cases h92 : (c.toNat : Int) = 92
        · have hn := Lib.hid (lit_slash hnl.out hlit.out hat.out (byte_eq (d := 92) h92))
          clear hlit hat h34
          go_wp2_with fail
          go_round
          case rel => exact ⟨k + 1 + 1, by omega, by omega, by go_num, hn⟩
          case measure => simp [intOf]; omega
        · have g92 : ((c.toNat : Int) == 92) = false := by simpa using h92
          have hn := Lib.hid (lit_plain hlit.out hat.out (hnl.out _ (List.mem_of_getElem? hat.out)) (ne_of_int (d := 34) h34) (ne_of_int (d := 92) h92))
          clear hlit hat h34 h92
          go_wp2_with fail
          go_round
          case rel => exact ⟨k + 1, by omega, by omega, by go_num, hn⟩
          case measure => simp [intOf]; omega
    · have h0 := lit_end hlit.out (by rw [L_len]; omega)
      have e1 : Hid (qK s = 108) := by show _ = _; rw [qK, ← HR.out, if_pos h0]
      have e2 : Hid (qN s = s.size) := by show _ = _; rw [qN, ← HR.out, if_pos h0]
      have h1 : ¬ (k : Int) < s.size := by omega
      clear hlit h0
      go_wp2_with fail
      go_ret2
      exact ⟨by rw [e1.out, e2.out]; rfl, rfl⟩

theorem lit_take : ∀ (r : List UInt8) (k : Nat) (q : Bool), lit (r.take (run nnI r)) k q = lit r k q := by
  intro r
  induction r with
  | nil => intro k q; rfl
  | cons c r ih =>
    intro k q
    by_cases h : c = 10
    · subst h
      rw [run_zero rfl, List.take_zero, lit, lit, if_pos rfl]
    · have hn : nnI (c.toNat : Int) = true := by
        unfold nnI
        rw [decide_eq_false]
        · rfl
        · intro h2; exact h (byte_eq (d := 10) (by rw [h2]; rfl))
      rw [run_cons hn, List.take_succ_cons, lit, lit, ih]

theorem line_no (s : ByteArray) : ∀ x ∈ L (line s), x ≠ 10 := by
  intro x hx
  unfold line at hx
  rw [L_bs] at hx
  obtain ⟨i, hi⟩ := List.mem_iff_getElem?.1 hx
  rw [List.getElem?_take] at hi
  split at hi
  · have := run_at (by assumption) hi
    intro e
    subst e
    exact absurd this (by decide)
  · cases hi

theorem line_size (s : ByteArray) : (line s).size = run nnI (L s) := by
  unfold line
  rw [bs_size, List.length_take]
  have := run_le nnI (L s)
  omega

theorem quoted_line {s : ByteArray} {r : List UInt8} (h : L s = 34 :: r) : qK (line s) = (if lit r 1 false = 0 then 108 else 106) ∧ qN (line s) = (if lit r 1 false = 0 then run nnI (L s) else lit r 1 false) := by
  have e : qR (line s) = lit r 1 false := by
    unfold qR line
    rw [L_bs, h, run_cons rfl, List.take_succ_cons]
    exact lit_take r 1 false
  unfold qK qN
  rw [e, line_size]
  exact ⟨rfl, rfl⟩

theorem punct_any (c : UInt8) (w : World) : Calls Tryz.prog 123 #[.int .u8 (c.toNat : Int)] w fun e w' => e = .returned (.bool (singles.contains c)) ∧ w' = w := by
  have K := Lib.hid (Tryz.strings_IndexByte ⟨#[40, 41, 123, 125, 91, 93, 60, 62, 44, 59, 58, 46, 61, 43, 45, 42, 47, 33, 38, 124]⟩ (c.toNat : Int) w)
  rw [show ((c.toNat : Int)).toNat.toUInt8 = c from by simp] at K
  have HC : Hid (singles.contains c = decide (0 ≤ Lib.indexByte singles c)) := Lib.contains_iff_indexByte singles c
  change Hid (Calls Tryz.prog 186 _ w fun e w' => e = .returned (.int .i64 (Lib.indexByte singles c)) ∧ w' = w) at K
  generalize Lib.indexByte singles c = z at *
  go_enter Tryz.func123, Tryz.ntmps123
  go_wp2_with fail
  refine K.out.mono ?_
  rintro e w1 ⟨rfl, rfl⟩
  go_wp2_with fail
  go_ret
  exact ⟨by rw [HC.out]; rfl, rfl⟩

theorem pairs_true {q p : List UInt8} (h : (q == p) = true) (hp : p ∈ pairs) : pairs.contains q = true := by
  have : q = p := by simpa using h
  subst this
  simpa using hp

theorem pairs_false {q : List UInt8} (h1 : (q == [58, 58]) = false) (h2 : (q == [61, 62]) = false) (h3 : (q == [45, 62]) = false) (h4 : (q == [61, 61]) = false) (h5 : (q == [38, 38]) = false) (h6 : (q == [124, 124]) = false) : pairs.contains q = false := by
  simp only [pairs, List.contains_cons, List.contains_nil, h1, h2, h3, h4, h5, h6]
  rfl

set_option maxHeartbeats 1000000 in
theorem pair_any (s : ByteArray) (w : World) (hs : s.size ≤ 1000000) : Calls Tryz.prog 122 #[.string s] w fun e w' => e = .returned (.bool (pairs.contains ((L s).take 2))) ∧ w' = w := by
  have HE : Hid (∀ p : List UInt8, ((s.extract 0 (min 2 (s.size : Int)).toNat).toList == p) = ((L s).take 2 == p)) := by
    intro p
    have : (s.extract 0 (min 2 (s.size : Int)).toNat).toList = (L s).take 2 := by
      rw [ByteArray.toList_eq, take_is]
      show L (bs _) = _
      rw [L_bs]
      by_cases h : 2 ≤ s.size
      · rw [show (min 2 (s.size : Int)).toNat = 2 from by omega]
      · rw [show (min 2 (s.size : Int)).toNat = s.size from by omega, List.take_of_length_le (by rw [L_len]; omega), List.take_of_length_le (by rw [L_len]; omega)]
    rw [this]
  have b2 : (s.size : Int) ≤ 1000000 := by omega
  go_enter Tryz.func122, Tryz.ntmps122
  go_wp2_with fail
  all_goals simp only [HE.out] at *
  all_goals first
    | (exfalso; simp_all; done)
    | (go_ret
       refine ⟨?_, rfl⟩
       first
         | (rw [pairs_true (q := (L s).take 2) (by assumption) (by decide)]; rfl)
         | (rw [pairs_false (q := (L s).take 2) (by assumption) (by assumption) (by assumption) (by assumption) (by assumption) (by assumption)]; rfl))
end Go.Proofs.YtcpojagfnpajeaaGreatDoorR.Lx

namespace Go.Proofs.YtcpojagfnpajeaaGreatDoorR.Lx
open Go.RowKit

theorem space_any (c : Int) (w : World) : Calls Tryz.prog 115 #[.int .u8 c] w fun e w' => e = .returned (.bool (spI c)) ∧ w' = w := by
  have hv : Hid (spI c = (decide (c = 32) || decide (c = 9) || decide (c = 10) || decide (c = 13))) := rfl
  by_cases h1 : c = 32
  · subst h1
    go_enter Tryz.func115, Tryz.ntmps115
    go_wp2_with fail
    go_ret
    exact ⟨rfl, rfl⟩
  · by_cases h2 : c = 9
    · subst h2
      go_enter Tryz.func115, Tryz.ntmps115
      go_wp2_with fail
      go_ret
      exact ⟨rfl, rfl⟩
    · by_cases h3 : c = 10
      · subst h3
        go_enter Tryz.func115, Tryz.ntmps115
        go_wp2_with fail
        go_ret
        exact ⟨rfl, rfl⟩
      · have g1 : (c == 32) = false := by simpa using h1
        have g2 : (c == 9) = false := by simpa using h2
        have g3 : (c == 10) = false := by simpa using h3
        have hv2 : Hid (spI c = (c == 13)) := by
          show _ = _
          rw [hv.out, decide_eq_false h1, decide_eq_false h2, decide_eq_false h3]
          by_cases h4 : c = 13 <;> simp [h4]
        go_enter Tryz.func115, Tryz.ntmps115
        go_wp2_with fail
        go_ret
        exact ⟨by rw [hv2.out]; rfl, rfl⟩

theorem digit_any (c : Int) (w : World) : Calls Tryz.prog 120 #[.int .u8 c] w fun e w' => e = .returned (.bool (dgI c)) ∧ w' = w := by
  by_cases h1 : 48 ≤ c
  · have hv : Hid (dgI c = decide (c ≤ 57)) := by show _ = _; rw [dgI, decide_eq_true h1]; rfl
    go_enter Tryz.func120, Tryz.ntmps120
    go_wp2_with fail
    go_ret
    exact ⟨by rw [hv.out]; rfl, rfl⟩
  · have hv : Hid (dgI c = false) := by show _ = _; rw [dgI, decide_eq_false h1]; rfl
    go_enter Tryz.func120, Tryz.ntmps120
    go_wp2_with fail
    go_ret
    exact ⟨by rw [hv.out]; rfl, rfl⟩

theorem wd_dg {c : Int} (h : ¬ (65 ≤ c ∧ c ≤ 90) ∧ ¬ (97 ≤ c ∧ c ≤ 122) ∧ c ≠ 95) : Hid (wdI c = dgI c) := by
  show _ = _
  unfold wdI
  have h1 : (decide (65 ≤ c) && decide (c ≤ 90)) = false := by rw [← Bool.decide_and]; exact decide_eq_false h.1
  have h2 : (decide (97 ≤ c) && decide (c ≤ 122)) = false := by rw [← Bool.decide_and]; exact decide_eq_false h.2.1
  rw [h1, h2, decide_eq_false h.2.2]
  simp

theorem word_any (c : Int) (w : World) : Calls Tryz.prog 119 #[.int .u8 c] w fun e w' => e = .returned (.bool (wdI c)) ∧ w' = w := by
  rcases (show (65 ≤ c ∧ c ≤ 90) ∨ (97 ≤ c ∧ c ≤ 122) ∨ c = 95 ∨ c < 65 ∨ (90 < c ∧ c < 97 ∧ c ≠ 95) ∨ 122 < c from by omega) with ⟨h1, h2⟩ | ⟨h1, h2⟩ | h1 | h1 | ⟨h1, h2, h3⟩ | h1
  · have hv : Hid (wdI c = true) := by show _ = _; unfold wdI; simp; omega
    go_enter Tryz.func119, Tryz.ntmps119
    go_wp2_with fail
    go_ret
    exact ⟨by rw [hv.out]; rfl, rfl⟩
  · have hv : Hid (wdI c = true) := by show _ = _; unfold wdI; simp; omega
    go_enter Tryz.func119, Tryz.ntmps119
    go_wp2_with fail
    go_ret
    exact ⟨by rw [hv.out]; rfl, rfl⟩
  · have hv : Hid (wdI c = true) := by show _ = _; unfold wdI; simp; omega
    subst h1
    go_enter Tryz.func119, Tryz.ntmps119
    go_wp2_with fail
    go_ret
    exact ⟨by rw [hv.out]; rfl, rfl⟩
  · have hv : Hid (wdI c = dgI c) := wd_dg (by omega)
    have g : (c == 95) = false := by simp; omega
    go_enter Tryz.func119, Tryz.ntmps119
    go_wp2_with fail
    refine (digit_any c w).mono ?_
    rintro e w1 ⟨rfl, rfl⟩
    go_wp2_with fail
    go_ret
    exact ⟨by rw [hv.out]; rfl, rfl⟩
  · have hv : Hid (wdI c = dgI c) := wd_dg (by omega)
    have g : (c == 95) = false := by simpa using h3
    have d90 : decide (c ≤ 90) = false := decide_eq_false (by omega)
    clear h3
    go_enter Tryz.func119, Tryz.ntmps119
    go_wp2_with fail
    refine (digit_any c w).mono ?_
    rintro e w1 ⟨rfl, rfl⟩
    go_wp2_with fail
    go_ret
    exact ⟨by rw [hv.out]; rfl, rfl⟩
  · have hv : Hid (wdI c = dgI c) := wd_dg (by omega)
    have g : (c == 95) = false := by simp; omega
    have d90 : decide (c ≤ 90) = false := decide_eq_false (by omega)
    have d122 : decide (c ≤ 122) = false := decide_eq_false (by omega)
    go_enter Tryz.func119, Tryz.ntmps119
    go_wp2_with fail
    refine (digit_any c w).mono ?_
    rintro e w1 ⟨rfl, rfl⟩
    go_wp2_with fail
    go_ret
    exact ⟨by rw [hv.out]; rfl, rfl⟩

end Go.Proofs.YtcpojagfnpajeaaGreatDoorR.Lx

namespace Go.Proofs.YtcpojagfnpajeaaGreatDoorR.Lx
open Go.RowKit

set_option maxHeartbeats 1000000 in
theorem len_space (s : ByteArray) (w : World) (hs : s.size ≤ 1000000) : Calls Tryz.prog 116 #[.string s, .func (.func 115) #[] #[]] w fun e w' => e = .returned (.int .i64 (run spI (L s) : Nat)) ∧ w' = w := by
  go_enter Tryz.func116, Tryz.ntmps116
  go_wp2_with fail
  go_loop [5] (fun i => ∃ k : Nat, k ≤ s.size ∧ i = .int .i64 k ∧ Hid (k ≤ run spI (L s))) (fun i => s.size - (intOf i).toNat)
  case atStart => exact ⟨0, Nat.zero_le _, rfl, Nat.zero_le _⟩
  case round =>
    obtain ⟨k, hk, rfl, hrun⟩ := hrel
    by_cases hlt : k < s.size
    · obtain ⟨c, hc⟩ : ∃ c, s[k]'hlt = c := ⟨_, rfl⟩
      have hat := Lib.hid (at_L s k hlt)
      rw [hc] at hat
      have K := Lib.hid (fun W => space_any (c.toNat : Int) W)
      have hb : (k : Int) < 1000000 := by omega
      cases hp : spI (c.toNat : Int) with
      | true =>
        rw [hp] at K
        have hmore := Lib.hid (run_more hrun.out hat.out hp)
        clear hat hrun hp
        go_wp2_with fail
        refine (K.out _).mono ?_
        rintro e w1 ⟨rfl, rfl⟩
        go_wp2_with fail
        go_round
        case rel => exact ⟨k + 1, by omega, by go_num, hmore⟩
        case measure => simp [intOf]; omega
      | false =>
        rw [hp] at K
        have hdone := Lib.hid (run_done hrun.out hat.out hp)
        clear hat hrun hp
        go_wp2_with fail
        refine (K.out _).mono ?_
        rintro e w1 ⟨rfl, rfl⟩
        go_wp2_with fail
        go_ret
        exact ⟨by rw [← hdone.out]; rfl, rfl⟩
    · obtain rfl : k = s.size := by omega
      have hdone := Lib.hid (run_end hrun.out (by rw [L_len]; exact Nat.le_refl _))
      clear hrun
      go_wp2_with fail
      go_ret
      exact ⟨by rw [← hdone.out]; rfl, rfl⟩

set_option maxHeartbeats 1000000 in
theorem len_word (s : ByteArray) (w : World) (hs : s.size ≤ 1000000) : Calls Tryz.prog 116 #[.string s, .func (.func 119) #[] #[]] w fun e w' => e = .returned (.int .i64 (run wdI (L s) : Nat)) ∧ w' = w := by
  go_enter Tryz.func116, Tryz.ntmps116
  go_wp2_with fail
  go_loop [5] (fun i => ∃ k : Nat, k ≤ s.size ∧ i = .int .i64 k ∧ Hid (k ≤ run wdI (L s))) (fun i => s.size - (intOf i).toNat)
  case atStart => exact ⟨0, Nat.zero_le _, rfl, Nat.zero_le _⟩
  case round =>
    obtain ⟨k, hk, rfl, hrun⟩ := hrel
    by_cases hlt : k < s.size
    · obtain ⟨c, hc⟩ : ∃ c, s[k]'hlt = c := ⟨_, rfl⟩
      have hat := Lib.hid (at_L s k hlt)
      rw [hc] at hat
      have K := Lib.hid (fun W => word_any (c.toNat : Int) W)
      have hb : (k : Int) < 1000000 := by omega
      cases hp : wdI (c.toNat : Int) with
      | true =>
        rw [hp] at K
        have hmore := Lib.hid (run_more hrun.out hat.out hp)
        clear hat hrun hp
        go_wp2_with fail
        refine (K.out _).mono ?_
        rintro e w1 ⟨rfl, rfl⟩
        go_wp2_with fail
        go_round
        case rel => exact ⟨k + 1, by omega, by go_num, hmore⟩
        case measure => simp [intOf]; omega
      | false =>
        rw [hp] at K
        have hdone := Lib.hid (run_done hrun.out hat.out hp)
        clear hat hrun hp
        go_wp2_with fail
        refine (K.out _).mono ?_
        rintro e w1 ⟨rfl, rfl⟩
        go_wp2_with fail
        go_ret
        exact ⟨by rw [← hdone.out]; rfl, rfl⟩
    · obtain rfl : k = s.size := by omega
      have hdone := Lib.hid (run_end hrun.out (by rw [L_len]; exact Nat.le_refl _))
      clear hrun
      go_wp2_with fail
      go_ret
      exact ⟨by rw [← hdone.out]; rfl, rfl⟩

set_option maxHeartbeats 1000000 in
theorem len_digit (s : ByteArray) (w : World) (hs : s.size ≤ 1000000) : Calls Tryz.prog 116 #[.string s, .func (.func 120) #[] #[]] w fun e w' => e = .returned (.int .i64 (run dgI (L s) : Nat)) ∧ w' = w := by
  go_enter Tryz.func116, Tryz.ntmps116
  go_wp2_with fail
  go_loop [5] (fun i => ∃ k : Nat, k ≤ s.size ∧ i = .int .i64 k ∧ Hid (k ≤ run dgI (L s))) (fun i => s.size - (intOf i).toNat)
  case atStart => exact ⟨0, Nat.zero_le _, rfl, Nat.zero_le _⟩
  case round =>
    obtain ⟨k, hk, rfl, hrun⟩ := hrel
    by_cases hlt : k < s.size
    · obtain ⟨c, hc⟩ : ∃ c, s[k]'hlt = c := ⟨_, rfl⟩
      have hat := Lib.hid (at_L s k hlt)
      rw [hc] at hat
      have K := Lib.hid (fun W => digit_any (c.toNat : Int) W)
      have hb : (k : Int) < 1000000 := by omega
      cases hp : dgI (c.toNat : Int) with
      | true =>
        rw [hp] at K
        have hmore := Lib.hid (run_more hrun.out hat.out hp)
        clear hat hrun hp
        go_wp2_with fail
        refine (K.out _).mono ?_
        rintro e w1 ⟨rfl, rfl⟩
        go_wp2_with fail
        go_round
        case rel => exact ⟨k + 1, by omega, by go_num, hmore⟩
        case measure => simp [intOf]; omega
      | false =>
        rw [hp] at K
        have hdone := Lib.hid (run_done hrun.out hat.out hp)
        clear hat hrun hp
        go_wp2_with fail
        refine (K.out _).mono ?_
        rintro e w1 ⟨rfl, rfl⟩
        go_wp2_with fail
        go_ret
        exact ⟨by rw [← hdone.out]; rfl, rfl⟩
    · obtain rfl : k = s.size := by omega
      have hdone := Lib.hid (run_end hrun.out (by rw [L_len]; exact Nat.le_refl _))
      clear hrun
      go_wp2_with fail
      go_ret
      exact ⟨by rw [← hdone.out]; rfl, rfl⟩
end Go.Proofs.YtcpojagfnpajeaaGreatDoorR.Lx

namespace Go.Proofs.YtcpojagfnpajeaaGreatDoorR.Lx
open Go.RowKit

theorem prefix_two (l : List UInt8) : Lib.hasPrefix l [47, 47] = decide (l.take 2 = [47, 47]) := by
  unfold Lib.hasPrefix
  match l with
  | [] => rfl
  | [c] => simp [List.isPrefixOf]
  | c :: d :: q =>
    simp only [List.isPrefixOf, List.take_succ_cons, List.take_zero, Bool.and_true]
    by_cases h1 : c = 47 <;> by_cases h2 : d = 47 <;> simp [h1, h2]
    · exact fun e => h2 e.symm
    · exact fun e => absurd e.symm h1
    · exact fun e => absurd e.symm h1

def Firsts (l : List UInt8) (w : World) (e : Ending) (w' : World) : Prop := e = .returned (.tuple #[.int .i64 (tok0 l).1, .int .i64 ((tok0 l).2 : Nat)]) ∧ Below w.heap.size w w'

theorem prefix_call (s : ByteArray) (w : World) : Calls Tryz.prog 117 #[.string s, .string ⟨#[47, 47]⟩] w fun e w' => e = .returned (.bool (decide ((L s).take 2 = [47, 47]))) ∧ w' = w := by
  have := Tryz.strings_HasPrefix s ⟨#[47, 47]⟩ w
  rw [show (⟨#[47, 47]⟩ : ByteArray).data.toList = [47, 47] from rfl, show s.data.toList = L s from rfl, prefix_two] at this
  exact this

section
variable {s : ByteArray} {c : UInt8}

set_option maxHeartbeats 1000000 in
theorem f_space (w : World) (hs : s.size ≤ 1000000) (hne : 0 < s.size) (hc : s[0]'hne = c) (h1 : Hid (spI (c.toNat : Int) = true)) : Calls Tryz.prog 63 #[.string s] w fun e w' => e = .returned (.tuple #[.int .i64 101, .int .i64 (run spI (L s) : Nat)]) ∧ Below w.heap.size w w' := by
  have hpos : (0 : Int) < s.size := by omega
  have K1 := Lib.hid (space_any (c.toNat : Int) w)
  rw [h1.out] at K1
  have K7 := Lib.hid (len_space s w hs)
  go_enter Tryz.func63, Tryz.ntmps63
  go_wp2_with fail
  refine (K1.out).mono ?_
  rintro e w1 ⟨rfl, rfl⟩
  go_wp2_with fail
  refine (K7.out).mono ?_
  rintro e w1 ⟨rfl, rfl⟩
  go_wp2_with fail
  go_ret2
  exact ⟨rfl, Below.refl _ _⟩

set_option maxHeartbeats 1000000 in
theorem f_comment (w : World) (hs : s.size ≤ 1000000) (hne : 0 < s.size) (hc : s[0]'hne = c) (h1 : Hid (spI (c.toNat : Int) = false)) (h2 : Hid (decide ((L s).take 2 = [47, 47]) = true)) : Calls Tryz.prog 63 #[.string s] w fun e w' => e = .returned (.tuple #[.int .i64 102, .int .i64 (run nnI (L s) : Nat)]) ∧ Below w.heap.size w w' := by
  have hpos : (0 : Int) < s.size := by omega
  have K1 := Lib.hid (space_any (c.toNat : Int) w)
  rw [h1.out] at K1
  have K2 := Lib.hid (prefix_call s w)
  rw [h2.out] at K2
  have KL := Lib.hid (line_any s w hs)
  have HS := Lib.hid (line_size s)
  have hz : ((line s).size : Int) ≤ 9223372036854775807 := by rw [HS.out]; have := run_le nnI (L s); rw [L_len] at this; omega
  generalize line s = q at *
  go_enter Tryz.func63, Tryz.ntmps63
  go_wp2_with fail
  refine (K1.out).mono ?_
  rintro e w1 ⟨rfl, rfl⟩
  go_wp2_with fail
  refine (K2.out).mono ?_
  rintro e w1 ⟨rfl, rfl⟩
  go_wp2_with fail
  refine KL.out.mono ?_
  rintro e w2 ⟨rfl, hb2⟩
  go_wp2_with fail
  go_ret2
  exact ⟨by rw [← HS.out]; rfl, hb2⟩

set_option maxHeartbeats 1000000 in
theorem f_digit (w : World) (hs : s.size ≤ 1000000) (hne : 0 < s.size) (hc : s[0]'hne = c) (h1 : Hid (spI (c.toNat : Int) = false)) (h2 : Hid (decide ((L s).take 2 = [47, 47]) = false)) (h3 : Hid (wdI (c.toNat : Int) = true)) (h4 : Hid (dgI (c.toNat : Int) = true)) : Calls Tryz.prog 63 #[.string s] w fun e w' => e = .returned (.tuple #[.int .i64 105, .int .i64 (run dgI (L s) : Nat)]) ∧ Below w.heap.size w w' := by
  have hpos : (0 : Int) < s.size := by omega
  have K1 := Lib.hid (space_any (c.toNat : Int) w)
  rw [h1.out] at K1
  have K2 := Lib.hid (prefix_call s w)
  rw [h2.out] at K2
  have K3 := Lib.hid (word_any (c.toNat : Int) w)
  rw [h3.out] at K3
  have K4 := Lib.hid (digit_any (c.toNat : Int) w)
  rw [h4.out] at K4
  have K7 := Lib.hid (len_digit s w hs)
  go_enter Tryz.func63, Tryz.ntmps63
  go_wp2_with fail
  refine (K1.out).mono ?_
  rintro e w1 ⟨rfl, rfl⟩
  go_wp2_with fail
  refine (K2.out).mono ?_
  rintro e w1 ⟨rfl, rfl⟩
  go_wp2_with fail
  refine (K3.out).mono ?_
  rintro e w1 ⟨rfl, rfl⟩
  go_wp2_with fail
  refine (K4.out).mono ?_
  rintro e w1 ⟨rfl, rfl⟩
  go_wp2_with fail
  refine (K4.out).mono ?_
  rintro e w1 ⟨rfl, rfl⟩
  go_wp2_with fail
  refine (K7.out).mono ?_
  rintro e w1 ⟨rfl, rfl⟩
  go_wp2_with fail
  go_ret2
  exact ⟨rfl, Below.refl _ _⟩

set_option maxHeartbeats 1000000 in
theorem f_word (w : World) (hs : s.size ≤ 1000000) (hne : 0 < s.size) (hc : s[0]'hne = c) (h1 : Hid (spI (c.toNat : Int) = false)) (h2 : Hid (decide ((L s).take 2 = [47, 47]) = false)) (h3 : Hid (wdI (c.toNat : Int) = true)) (h4 : Hid (dgI (c.toNat : Int) = false)) : Calls Tryz.prog 63 #[.string s] w fun e w' => e = .returned (.tuple #[.int .i64 103, .int .i64 (run wdI (L s) : Nat)]) ∧ Below w.heap.size w w' := by
  have hpos : (0 : Int) < s.size := by omega
  have K1 := Lib.hid (space_any (c.toNat : Int) w)
  rw [h1.out] at K1
  have K2 := Lib.hid (prefix_call s w)
  rw [h2.out] at K2
  have K3 := Lib.hid (word_any (c.toNat : Int) w)
  rw [h3.out] at K3
  have K4 := Lib.hid (digit_any (c.toNat : Int) w)
  rw [h4.out] at K4
  have K7 := Lib.hid (len_word s w hs)
  go_enter Tryz.func63, Tryz.ntmps63
  go_wp2_with fail
  refine (K1.out).mono ?_
  rintro e w1 ⟨rfl, rfl⟩
  go_wp2_with fail
  refine (K2.out).mono ?_
  rintro e w1 ⟨rfl, rfl⟩
  go_wp2_with fail
  refine (K3.out).mono ?_
  rintro e w1 ⟨rfl, rfl⟩
  go_wp2_with fail
  refine (K4.out).mono ?_
  rintro e w1 ⟨rfl, rfl⟩
  go_wp2_with fail
  refine (K7.out).mono ?_
  rintro e w1 ⟨rfl, rfl⟩
  go_wp2_with fail
  go_ret2
  exact ⟨rfl, Below.refl _ _⟩

set_option maxHeartbeats 1000000 in
theorem f_quote (w : World) (hs : s.size ≤ 1000000) (hne : 0 < s.size) (hc : s[0]'hne = c) (h1 : Hid (spI (c.toNat : Int) = false)) (h2 : Hid (decide ((L s).take 2 = [47, 47]) = false)) (h3 : Hid (wdI (c.toNat : Int) = false)) (h4 : Hid (dgI (c.toNat : Int) = false)) (g : ((c.toNat : Int) == 34) = true) : Calls Tryz.prog 63 #[.string s] w fun e w' => e = .returned (.tuple #[.int .i64 (qK (line s)), .int .i64 (qN (line s) : Nat)]) ∧ Below w.heap.size w w' := by
  have hpos : (0 : Int) < s.size := by omega
  have K1 := Lib.hid (space_any (c.toNat : Int) w)
  rw [h1.out] at K1
  have K2 := Lib.hid (prefix_call s w)
  rw [h2.out] at K2
  have K3 := Lib.hid (word_any (c.toNat : Int) w)
  rw [h3.out] at K3
  have K4 := Lib.hid (digit_any (c.toNat : Int) w)
  rw [h4.out] at K4
  have KL := Lib.hid (line_any s w hs)
  have KQ := Lib.hid (fun W => quoted_any (line s) W (by rw [line_size]; have := run_le nnI (L s); rw [L_len] at this; omega) (Lib.hid (line_no s)))
  generalize qK (line s) = k at *
  generalize qN (line s) = n at *
  generalize line s = q at *
  go_enter Tryz.func63, Tryz.ntmps63
  go_wp2_with fail
  refine (K1.out).mono ?_
  rintro e w1 ⟨rfl, rfl⟩
  go_wp2_with fail
  refine (K2.out).mono ?_
  rintro e w1 ⟨rfl, rfl⟩
  go_wp2_with fail
  refine (K3.out).mono ?_
  rintro e w1 ⟨rfl, rfl⟩
  go_wp2_with fail
  refine (K4.out).mono ?_
  rintro e w1 ⟨rfl, rfl⟩
  go_wp2_with fail
  refine KL.out.mono ?_
  rintro e w2 ⟨rfl, hb2⟩
  go_wp2_with fail
  refine (KQ.out _).mono ?_
  rintro e w3 ⟨rfl, rfl⟩
  go_wp2_with fail
  go_ret2
  exact ⟨rfl, hb2⟩

set_option maxHeartbeats 1000000 in
theorem f_pair (w : World) (hs : s.size ≤ 1000000) (hne : 0 < s.size) (hc : s[0]'hne = c) (h1 : Hid (spI (c.toNat : Int) = false)) (h2 : Hid (decide ((L s).take 2 = [47, 47]) = false)) (h3 : Hid (wdI (c.toNat : Int) = false)) (h4 : Hid (dgI (c.toNat : Int) = false)) (h5 : Hid (pairs.contains ((L s).take 2) = true)) (g : ((c.toNat : Int) == 34) = false) : Calls Tryz.prog 63 #[.string s] w fun e w' => e = .returned (.tuple #[.int .i64 107, .int .i64 (2 : Nat)]) ∧ Below w.heap.size w w' := by
  have hpos : (0 : Int) < s.size := by omega
  have K1 := Lib.hid (space_any (c.toNat : Int) w)
  rw [h1.out] at K1
  have K2 := Lib.hid (prefix_call s w)
  rw [h2.out] at K2
  have K3 := Lib.hid (word_any (c.toNat : Int) w)
  rw [h3.out] at K3
  have K4 := Lib.hid (digit_any (c.toNat : Int) w)
  rw [h4.out] at K4
  have K5 := Lib.hid (pair_any s w hs)
  rw [h5.out] at K5
  go_enter Tryz.func63, Tryz.ntmps63
  go_wp2_with fail
  refine (K1.out).mono ?_
  rintro e w1 ⟨rfl, rfl⟩
  go_wp2_with fail
  refine (K2.out).mono ?_
  rintro e w1 ⟨rfl, rfl⟩
  go_wp2_with fail
  refine (K3.out).mono ?_
  rintro e w1 ⟨rfl, rfl⟩
  go_wp2_with fail
  refine (K4.out).mono ?_
  rintro e w1 ⟨rfl, rfl⟩
  go_wp2_with fail
  refine (K5.out).mono ?_
  rintro e w1 ⟨rfl, rfl⟩
  go_wp2_with fail
  go_ret2
  exact ⟨rfl, Below.refl _ _⟩

set_option maxHeartbeats 1000000 in
theorem f_punct (w : World) (hs : s.size ≤ 1000000) (hne : 0 < s.size) (hc : s[0]'hne = c) (h1 : Hid (spI (c.toNat : Int) = false)) (h2 : Hid (decide ((L s).take 2 = [47, 47]) = false)) (h3 : Hid (wdI (c.toNat : Int) = false)) (h4 : Hid (dgI (c.toNat : Int) = false)) (h5 : Hid (pairs.contains ((L s).take 2) = false)) (h6 : Hid (singles.contains c = true)) (g : ((c.toNat : Int) == 34) = false) : Calls Tryz.prog 63 #[.string s] w fun e w' => e = .returned (.tuple #[.int .i64 107, .int .i64 (1 : Nat)]) ∧ Below w.heap.size w w' := by
  have hpos : (0 : Int) < s.size := by omega
  have K1 := Lib.hid (space_any (c.toNat : Int) w)
  rw [h1.out] at K1
  have K2 := Lib.hid (prefix_call s w)
  rw [h2.out] at K2
  have K3 := Lib.hid (word_any (c.toNat : Int) w)
  rw [h3.out] at K3
  have K4 := Lib.hid (digit_any (c.toNat : Int) w)
  rw [h4.out] at K4
  have K5 := Lib.hid (pair_any s w hs)
  rw [h5.out] at K5
  have K6 := Lib.hid (punct_any c w)
  rw [h6.out] at K6
  go_enter Tryz.func63, Tryz.ntmps63
  go_wp2_with fail
  refine (K1.out).mono ?_
  rintro e w1 ⟨rfl, rfl⟩
  go_wp2_with fail
  refine (K2.out).mono ?_
  rintro e w1 ⟨rfl, rfl⟩
  go_wp2_with fail
  refine (K3.out).mono ?_
  rintro e w1 ⟨rfl, rfl⟩
  go_wp2_with fail
  refine (K4.out).mono ?_
  rintro e w1 ⟨rfl, rfl⟩
  go_wp2_with fail
  refine (K5.out).mono ?_
  rintro e w1 ⟨rfl, rfl⟩
  go_wp2_with fail
  refine (K6.out).mono ?_
  rintro e w1 ⟨rfl, rfl⟩
  go_wp2_with fail
  go_ret2
  exact ⟨rfl, Below.refl _ _⟩

set_option maxHeartbeats 1000000 in
theorem f_other (w : World) (hs : s.size ≤ 1000000) (hne : 0 < s.size) (hc : s[0]'hne = c) (h1 : Hid (spI (c.toNat : Int) = false)) (h2 : Hid (decide ((L s).take 2 = [47, 47]) = false)) (h3 : Hid (wdI (c.toNat : Int) = false)) (h4 : Hid (dgI (c.toNat : Int) = false)) (h5 : Hid (pairs.contains ((L s).take 2) = false)) (h6 : Hid (singles.contains c = false)) (g : ((c.toNat : Int) == 34) = false) : Calls Tryz.prog 63 #[.string s] w fun e w' => e = .returned (.tuple #[.int .i64 108, .int .i64 (1 : Nat)]) ∧ Below w.heap.size w w' := by
  have hpos : (0 : Int) < s.size := by omega
  have K1 := Lib.hid (space_any (c.toNat : Int) w)
  rw [h1.out] at K1
  have K2 := Lib.hid (prefix_call s w)
  rw [h2.out] at K2
  have K3 := Lib.hid (word_any (c.toNat : Int) w)
  rw [h3.out] at K3
  have K4 := Lib.hid (digit_any (c.toNat : Int) w)
  rw [h4.out] at K4
  have K5 := Lib.hid (pair_any s w hs)
  rw [h5.out] at K5
  have K6 := Lib.hid (punct_any c w)
  rw [h6.out] at K6
  go_enter Tryz.func63, Tryz.ntmps63
  go_wp2_with fail
  refine (K1.out).mono ?_
  rintro e w1 ⟨rfl, rfl⟩
  go_wp2_with fail
  refine (K2.out).mono ?_
  rintro e w1 ⟨rfl, rfl⟩
  go_wp2_with fail
  refine (K3.out).mono ?_
  rintro e w1 ⟨rfl, rfl⟩
  go_wp2_with fail
  refine (K4.out).mono ?_
  rintro e w1 ⟨rfl, rfl⟩
  go_wp2_with fail
  refine (K5.out).mono ?_
  rintro e w1 ⟨rfl, rfl⟩
  go_wp2_with fail
  refine (K6.out).mono ?_
  rintro e w1 ⟨rfl, rfl⟩
  go_wp2_with fail
  go_ret2
  exact ⟨rfl, Below.refl _ _⟩

end
theorem first_any (s : ByteArray) (w : World) (hs : s.size ≤ 1000000) (hne : 0 < s.size) : Calls Tryz.prog 63 #[.string s] w (Firsts (L s) w) := by
  obtain ⟨c, hc⟩ : ∃ c, s[0]'hne = c := ⟨_, rfl⟩
  have hat := at_L s 0 hne
  rw [hc] at hat
  obtain ⟨r, hr⟩ : ∃ r, L s = c :: r := by
    cases h : L s with
    | nil => rw [h] at hat; simp at hat
    | cons x r => rw [h] at hat; simp at hat; exact ⟨r, by rw [hat]⟩
  have key : ∀ k n, tok0 (c :: r) = (k, n) → (Calls Tryz.prog 63 #[.string s] w fun e w' => e = .returned (.tuple #[.int .i64 k, .int .i64 (n : Nat)]) ∧ Below w.heap.size w w') → Calls Tryz.prog 63 #[.string s] w (Firsts (L s) w) := by
    intro k n h C
    unfold Firsts
    rw [hr, h]
    exact C
  cases h1 : spI (c.toNat : Int) with
  | true => exact key _ _ (by rw [tok0, if_pos h1, hr]) (f_space w hs hne hc h1)
  | false =>
    have g1 : ¬ spI (c.toNat : Int) = true := by simp [h1]
    by_cases h2 : (c :: r).take 2 = [47, 47]
    · exact key _ _ (by rw [tok0, if_neg g1, if_pos h2, hr]) (f_comment w hs hne hc h1 (by show _ = _; rw [hr]; exact decide_eq_true h2))
    · have d2 : Hid (decide ((L s).take 2 = [47, 47]) = false) := by show _ = _; rw [hr]; exact decide_eq_false h2
      cases h3 : dgI (c.toNat : Int) with
      | true => exact key _ _ (by rw [tok0, if_neg g1, if_neg h2, if_pos h3, hr]) (f_digit w hs hne hc h1 d2 (by show wdI _ = true; unfold wdI; rw [h3]; simp) h3)
      | false =>
        have g3 : ¬ dgI (c.toNat : Int) = true := by simp [h3]
        cases h4 : wdI (c.toNat : Int) with
        | true => exact key _ _ (by rw [tok0, if_neg g1, if_neg h2, if_neg g3, if_pos h4, hr]) (f_word w hs hne hc h1 d2 h4 h3)
        | false =>
          have g4 : ¬ wdI (c.toNat : Int) = true := by simp [h4]
          by_cases h5 : c = 34
          · have hq := quoted_line (s := s) (r := r) (by rw [hr, h5])
            refine key (qK (line s)) (qN (line s)) ?_ (f_quote w hs hne hc h1 d2 h4 h3 (by rw [h5]; rfl))
            rw [tok0, if_neg g1, if_neg h2, if_neg g3, if_neg g4, if_pos h5, hq.1, hq.2, hr]
            split <;> rfl
          · have g5 : ((c.toNat : Int) == 34) = false := by
              have : ¬ (c.toNat : Int) = 34 := fun e => h5 (byte_eq (d := 34) (by rw [e]; rfl))
              simpa using this
            cases h6 : pairs.contains ((c :: r).take 2) with
            | true => exact key _ _ (by rw [tok0, if_neg g1, if_neg h2, if_neg g3, if_neg g4, if_neg h5, if_pos h6]) (f_pair w hs hne hc h1 d2 h4 h3 (by show _ = _; rw [hr]; exact h6) g5)
            | false =>
              have g6 : ¬ pairs.contains ((c :: r).take 2) = true := by rw [h6]; exact Bool.false_ne_true
              cases h7 : singles.contains c with
              | true => exact key _ _ (by rw [tok0, if_neg g1, if_neg h2, if_neg g3, if_neg g4, if_neg h5, if_neg g6, if_pos h7]) (f_punct w hs hne hc h1 d2 h4 h3 (by show _ = _; rw [hr]; exact h6) h7 g5)
              | false => exact key _ _ (by rw [tok0, if_neg g1, if_neg h2, if_neg g3, if_neg g4, if_neg h5, if_neg g6, if_neg (by rw [h7]; exact Bool.false_ne_true)]) (f_other w hs hne hc h1 d2 h4 h3 (by show _ = _; rw [hr]; exact h6) h7 g5)
end Go.Proofs.YtcpojagfnpajeaaGreatDoorR.Lx

namespace Go.Proofs.YtcpojagfnpajeaaGreatDoorR.Lx
open Go.RowKit

/-- The new block with the keywords. -/
def kwBlock : Obj := .cells (kws.map fun x => Value.string (bs x)).toArray 9

theorem keys_any (w : World) : Calls Tryz.prog 61 #[] w fun e w' => e = .returned (.slice (some ⟨w.heap.size, 0, none⟩) 22 22) ∧ w' = w.alloc kwBlock := by
  go_enter Tryz.func61, Tryz.ntmps61
  go_wp2_with fail
  go_ret
  exact ⟨rfl, rfl⟩

theorem kw_strs (w : World) : Strs (w.alloc kwBlock) (w.alloc kwBlock).heap.size (some ⟨w.heap.size, 0, none⟩) kws := Strs.new w kws

theorem kw_below (w : World) : Below w.heap.size w (w.alloc kwBlock) := (Below.refl _ _).alloc (Nat.le_refl _) _

theorem mem_bs {l : List (List UInt8)} {x : ByteArray} : x ∈ l.map bs ↔ L x ∈ l := by
  constructor
  · intro h
    obtain ⟨y, hy, rfl⟩ := List.mem_map.1 h
    rw [L_bs]; exact hy
  · intro h
    exact List.mem_map.2 ⟨L x, h, bs_L x⟩

theorem kw_contains (b B : Nat) (x : ByteArray) (w : World) (h : Strs w B (some ⟨b, 0, none⟩) kws) :
    Calls Tryz.prog 64 #[.slice (some ⟨b, 0, none⟩) 22 22, .string x] w fun e w' => e = .returned (.bool (kws.contains (L x))) ∧ w' = w := by
  have := Tryz.slices_Contains_string b 0 22 22 (kws.map bs) x w (by decide) (by omega) (by
    intro j hj
    rw [List.length_map] at hj
    have hx : kws[j]? = some (kws[j]'hj) := List.getElem?_eq_getElem hj
    obtain ⟨b', o, h1, h2, h3⟩ := h j _ hx
    cases h1
    rw [h3, List.getD_eq_getElem?_getD, List.getElem?_map, hx]
    rfl)
  have e : Lib.containsS ((kws.map bs).take 22) x = kws.contains (L x) := by
    rw [List.take_of_length_le (by decide)]
    rw [Bool.eq_iff_iff, Lib.containsS_iff, mem_bs]
    simp
  rw [e] at this
  exact this

theorem clone_any (s : ByteArray) (w : World) (hs : s.size ≤ 1000000) :
    Calls Tryz.prog 62 #[.string s] w fun e w' => e = .returned (.string s) ∧ Below w.heap.size w w' := by
  go_enter Tryz.func62, Tryz.ntmps62
  go_wp2_with fail
  refine (Tryz.stringslite_Clone s w (by omega)).mono ?_
  rintro e w' ⟨rfl, hb⟩
  go_wp2_with fail
  go_ret
  exact ⟨rfl, hb⟩

theorem alloc_at {w : World} {m : Nat} (h : w.heap.size = m) (o : Obj) : (w.alloc o).heap[m]? = some o := by subst h; exact heap_alloc_new w o

theorem OwnsT.lower {w : World} {B B0 : Nat} {v : Value} {l : List Tk} (h : OwnsT w B v l) (hB : B0 ≤ B) : OwnsT w B0 v l :=
  ⟨h.1, h.2.elim .inl fun ⟨g, cap, cur, hv, hb, hg⟩ => .inr ⟨g, cap, cur, hv, Nat.le_trans hB hb, hg⟩⟩

/-- How long a string is. -/
def strSize : Value → Nat | .string s => s.size | _ => 0

/-- What Tokenize hands back. -/
def Toks (s : ByteArray) (w : World) (e : Ending) (w' : World) : Prop := ∃ v, e = .returned (.tuple #[v, .int .i64 0]) ∧ Hid (OwnsT w' w.heap.size v (T (L s))) ∧ Below w.heap.size w w'

theorem tokK_keep {l : List UInt8} (h : ¬ (tok0 l).1 = 103) : tokK l = (tok0 l).1 := by unfold tokK; rw [if_neg (fun e => h e.1)]
theorem tokK_word {l : List UInt8} (h : (tok0 l).1 = 103) (h2 : kws.contains (l.take (tok0 l).2) = false) : tokK l = 103 := by
  unfold tokK tokN
  rw [if_neg (by rw [h2]; simp), h]
theorem tokK_key {l : List UInt8} (h : (tok0 l).1 = 103) (h2 : kws.contains (l.take (tok0 l).2) = true) : tokK l = 104 := by
  unfold tokK tokN
  rw [if_pos ⟨h, h2⟩]

theorem size_ne {s : ByteArray} (h : 0 < s.size) : s.toList.isEmpty = false := by
  rw [ByteArray.toList_eq]
  have h2 := L_len s
  unfold L at h2
  cases hl : s.data.toList with
  | nil => rw [hl] at h2; simp at h2; omega
  | cons _ _ => rfl

set_option maxHeartbeats 2000000 in
set_option maxRecDepth 100000 in
theorem tokenize_any (s : ByteArray) (w : World) (hs : s.size ≤ 2000) : Calls Tryz.prog 22 #[.string s] w (Toks s w) := by
  obtain ⟨i0, hi, hz0, hz1, hz2⟩ := info_parts info_tok
  have g0 : (s.size : Int) ≤ 2000 := by omega
  have K13 := Lib.hid (keys_any w)
  go_enter Tryz.func22, Tryz.ntmps22
  go_wp2_with fail
  refine K13.out.mono ?_
  rintro e w0 ⟨rfl, rfl⟩
  have HS0 := Lib.hid (kw_strs w)
  have B0 := kw_below w
  generalize hw0 : w.alloc kwBlock = w0 at *
  clear hw0
  have K20 := Lib.hid (clone_any s w0 (by omega))
  clear K13
  go_wp2_with fail
  refine K20.out.mono ?_
  rintro e w1 ⟨rfl, hb1⟩
  have HS1 : Hid (Strs w1 w1.heap.size (some ⟨w.heap.size, 0, none⟩) kws) := HS0.out.to hb1
  have B1 := B0.trans (hb1.mono B0.size)
  have B1s := B1.size
  clear HS0 B0 hb1 K20
  go_wp2_with fail
  go_loopw [4, 6] (fun v rv wr => ∃ (acc : List Tk) (ρ : ByteArray), rv = .string ρ ∧ acc.length + ρ.size ≤ 2000 ∧ Hid (T (L s) = acc ++ T (L ρ)) ∧ Hid (OwnsT wr w1.heap.size v acc) ∧ Below w1.heap.size w1 wr)
    (fun _ rv _ => strSize rv)
  case atStart => exact ⟨[], s, rfl, by simp; omega, rfl, OwnsT.nil _ _, Below.refl _ _⟩
  case round =>
    obtain ⟨acc, ρ, rfl, hlen, hT, hown, hb⟩ := hrel
    have hzw := hb.size
    by_cases hne : 0 < ρ.size
    · have hne1 := size_ne hne
      have K21 := Lib.hid (first_any ρ wr (by omega) hne)
      have hr : L ρ ≠ [] := by intro h; have := L_len ρ; rw [h] at this; simp at this; omega
      have hbd := tokN_bound hr
      rw [L_len] at hbd
      have HTc := Lib.hid (T_cons hr)
      have HK1 := Lib.hid (@tokK_keep (L ρ))
      have HK2 := Lib.hid (@tokK_word (L ρ))
      have HK3 := Lib.hid (@tokK_key (L ρ))
      unfold tokN at hbd HTc
      unfold Firsts at K21
      generalize (tok0 (L ρ)).1 = k at *
      generalize (tok0 (L ρ)).2 = n at *
      have HX : Hid (ρ.extract 0 n = bs ((L ρ).take n)) := take_is ρ n
      have HY : Hid (ρ.extract n ρ.size = bs ((L ρ).drop n)) := drop_is ρ n
      have HLX : Hid (L (ρ.extract 0 n) = (L ρ).take n) := by show _ = _; rw [take_is, L_bs]
      have hzn : (ρ.extract n ρ.size).size = ρ.size - n := by simp
      have b1 : (1 : Int) ≤ n := by omega
      have b2 : (n : Int) ≤ ρ.size := by omega
      have b3 : (ρ.size : Int) ≤ 2000 := by omega
      obtain ⟨hbd1, hbd2⟩ := hbd
      have HM : Hid (acc.length + 1 + (ρ.extract n ρ.size).size ≤ 2000) := by show _ ≤ _; rw [hzn]; omega
      have HMs : Hid ((ρ.extract n ρ.size).size < ρ.size) := by show _ < _; rw [hzn]; omega
      have HTn : Hid (∀ kk, tokK (L ρ) = kk → T (L s) = (acc ++ [(kk, (L ρ).take n)]) ++ T (L (ρ.extract n ρ.size))) := by
        intro kk hk
        rw [hT.out, HTc.out, hk, HY.out, L_bs, List.append_assoc]; rfl
      clear hT hr HTc hzn
      by_cases hk : k = 103
      · cases hcon : kws.contains ((L ρ).take n) with
        | true =>
          subst hk
          have HKK := Lib.hid (HK3.out rfl hcon)
          clear HK1 HK2 HK3
          go_wp2_with fail
          refine K21.out.mono ?_
          rintro e w2 ⟨rfl, hb2⟩
          have hb20 := hb.trans (hb2.mono hzw)
          have hy2 := hb20.size
          have HO2 : Hid (OwnsT w2 w1.heap.size u4 acc) := ownsT_below hown.out hb2
          go_wp2_with fail
          have c0 : (w2.alloc (.cells #[.int .i64 103, .string (ρ.extract 0 n)] 69)).cell? ⟨w2.heap.size, 0, none⟩ = some (.int .i64 103) := by go_simp
          have c1 : (w2.alloc (.cells #[.int .i64 103, .string (ρ.extract 0 n)] 69)).cell? ⟨w2.heap.size, 1, none⟩ = some (.string (ρ.extract 0 n)) := by go_simp
          have f0 : (w2.alloc (.cells #[.int .i64 103, .string (ρ.extract 0 n)] 69)).frozen? ⟨w2.heap.size, 0, none⟩ = false := by go_simp
          have hz3 : (w2.alloc (.cells #[.int .i64 103, .string (ρ.extract 0 n)] 69)).heap.size = w2.heap.size + 1 := by simp
          have hb3 : Below w1.heap.size w1 (w2.alloc (.cells #[.int .i64 103, .string (ρ.extract 0 n)] 69)) := hb20.alloc hy2 _
          have hb32 : Below w2.heap.size w2 (w2.alloc (.cells #[.int .i64 103, .string (ρ.extract 0 n)] 69)) := (Below.refl _ _).alloc (Nat.le_refl _) _
          have C0 := Lib.hid c0
          have C1 := Lib.hid c1
          have F0 := Lib.hid f0
          have HZ := Lib.hid hz3
          clear c0 c1 f0 hz3 K21 hown
          generalize hw3 : w2.alloc (.cells #[.int .i64 103, .string (ρ.extract 0 n)] 69) = w3 at *
          clear hw3
          have K22 := Lib.hid (kw_contains w.heap.size _ (ρ.extract 0 n) w3 (HS1.out.below hb3 (Nat.le_refl _)))
          rw [HLX.out, hcon] at K22
          refine K22.out.mono ?_
          rintro e w4 ⟨rfl, rfl⟩
          have c0 := C0.out
          have c1 := C1.out
          have f0 := F0.out
          have hz4 := HZ.out
          have HOW : Hid (OwnsT (w4.setCell ⟨w2.heap.size, 0, none⟩ (.int .i64 104)) w1.heap.size u4 acc) := ownsT_below HO2.out (hb32.setCell (p := ⟨w2.heap.size, 0, none⟩) (Nat.le_refl _) _)
          have BW : Below w1.heap.size w1 (w4.setCell ⟨w2.heap.size, 0, none⟩ (.int .i64 104)) := hb3.setCell (p := ⟨w2.heap.size, 0, none⟩) hy2 _
          clear K22 HO2 hb3 hb32
          go_wp2_with (at_builtin; refine wpList_append_own _ rfl _ _ 42 rfl w1.heap.size 69 i0 _ 2 24 Tryz.underlying42 hi hz0 hz1 hz2 rfl (by decide) _ _ _ rfl (HOW.out.alloc _) ⟨w2.heap.size + 1, 0, none⟩ 1 1 [.int .i64 104, .string (ρ.extract 0 n)] rfl rfl (World.news_of_block (alloc_at (by first | exact hz4 | (simp; exact hz4) | simp) _)) (by simp [Value.oneCell']) (by unfold maxLen; first | omega | (simp; done)) (by first | omega | (simp; done)) (by first | omega | (simp; omega) | (simp; done)) ?_)
          intro v' w5 hown' hgrow _
          have hown5 : Hid (OwnsT w5 w1.heap.size v' (acc ++ [(104, (L ρ).take n)])) := by
            show World.ownsRow _ _ _ _ _ _ _
            rw [cellsT_append, List.length_append]
            have e : cellsT [(104, (L ρ).take n)] = [.int .i64 104, .string (ρ.extract 0 n)] := by rw [HX.out]; rfl
            rw [e]
            exact hown'
          have hb5 : Below w1.heap.size w1 w5 := (BW.alloc (by first | omega | (simp; omega)) _).grown hgrow (by first | omega | (simp; omega)) (fun j hj => (HOW.out.lt j hj).1)
          have HT5 := Lib.hid (HTn.out _ HKK.out)
          clear hown' hgrow HOW
          go_wp2_with fail
          go_roundw
          case rel => exact ⟨_, _, rfl, by rw [List.length_append]; exact HM.out, HT5, hown5, hb5⟩
          case measure => exact HMs.out
        | false =>
          subst hk
          have HKK := Lib.hid (HK2.out rfl hcon)
          clear HK1 HK2 HK3
          go_wp2_with fail
          refine K21.out.mono ?_
          rintro e w2 ⟨rfl, hb2⟩
          have hb20 := hb.trans (hb2.mono hzw)
          have hy2 := hb20.size
          have HO2 : Hid (OwnsT w2 w1.heap.size u4 acc) := ownsT_below hown.out hb2
          go_wp2_with fail
          have c0 : (w2.alloc (.cells #[.int .i64 103, .string (ρ.extract 0 n)] 69)).cell? ⟨w2.heap.size, 0, none⟩ = some (.int .i64 103) := by go_simp
          have c1 : (w2.alloc (.cells #[.int .i64 103, .string (ρ.extract 0 n)] 69)).cell? ⟨w2.heap.size, 1, none⟩ = some (.string (ρ.extract 0 n)) := by go_simp
          have f0 : (w2.alloc (.cells #[.int .i64 103, .string (ρ.extract 0 n)] 69)).frozen? ⟨w2.heap.size, 0, none⟩ = false := by go_simp
          have hz3 : (w2.alloc (.cells #[.int .i64 103, .string (ρ.extract 0 n)] 69)).heap.size = w2.heap.size + 1 := by simp
          have hb3 : Below w1.heap.size w1 (w2.alloc (.cells #[.int .i64 103, .string (ρ.extract 0 n)] 69)) := hb20.alloc hy2 _
          have hb32 : Below w2.heap.size w2 (w2.alloc (.cells #[.int .i64 103, .string (ρ.extract 0 n)] 69)) := (Below.refl _ _).alloc (Nat.le_refl _) _
          have C0 := Lib.hid c0
          have C1 := Lib.hid c1
          have F0 := Lib.hid f0
          have HZ := Lib.hid hz3
          clear c0 c1 f0 hz3 K21 hown
          generalize hw3 : w2.alloc (.cells #[.int .i64 103, .string (ρ.extract 0 n)] 69) = w3 at *
          clear hw3
          have K22 := Lib.hid (kw_contains w.heap.size _ (ρ.extract 0 n) w3 (HS1.out.below hb3 (Nat.le_refl _)))
          rw [HLX.out, hcon] at K22
          refine K22.out.mono ?_
          rintro e w4 ⟨rfl, rfl⟩
          have c0 := C0.out
          have c1 := C1.out
          have f0 := F0.out
          have hz4 := HZ.out
          have HOW : Hid (OwnsT w4 w1.heap.size u4 acc) := ownsT_below HO2.out hb32
          have BW : Below w1.heap.size w1 w4 := hb3
          clear K22 HO2 hb3 hb32
          go_wp2_with (at_builtin; refine wpList_append_own _ rfl _ _ 42 rfl w1.heap.size 69 i0 _ 2 24 Tryz.underlying42 hi hz0 hz1 hz2 rfl (by decide) _ _ _ rfl (HOW.out.alloc _) ⟨w2.heap.size + 1, 0, none⟩ 1 1 [.int .i64 103, .string (ρ.extract 0 n)] rfl rfl (World.news_of_block (alloc_at (by first | exact hz4 | (simp; exact hz4) | simp) _)) (by simp [Value.oneCell']) (by unfold maxLen; first | omega | (simp; done)) (by first | omega | (simp; done)) (by first | omega | (simp; omega) | (simp; done)) ?_)
          intro v' w5 hown' hgrow _
          have hown5 : Hid (OwnsT w5 w1.heap.size v' (acc ++ [(103, (L ρ).take n)])) := by
            show World.ownsRow _ _ _ _ _ _ _
            rw [cellsT_append, List.length_append]
            have e : cellsT [(103, (L ρ).take n)] = [.int .i64 103, .string (ρ.extract 0 n)] := by rw [HX.out]; rfl
            rw [e]
            exact hown'
          have hb5 : Below w1.heap.size w1 w5 := (BW.alloc (by first | omega | (simp; omega)) _).grown hgrow (by first | omega | (simp; omega)) (fun j hj => (HOW.out.lt j hj).1)
          have HT5 := Lib.hid (HTn.out _ HKK.out)
          clear hown' hgrow HOW
          go_wp2_with fail
          go_roundw
          case rel => exact ⟨_, _, rfl, by rw [List.length_append]; exact HM.out, HT5, hown5, hb5⟩
          case measure => exact HMs.out
      · have gk : (k == 103) = false := by simpa using hk
        have HKK := Lib.hid (HK1.out hk)
        clear HK1 HK2 HK3 hk
        go_wp2_with fail
        refine K21.out.mono ?_
        rintro e w2 ⟨rfl, hb2⟩
        have hb20 := hb.trans (hb2.mono hzw)
        have hy2 := hb20.size
        have HO2 : Hid (OwnsT w2 w1.heap.size u4 acc) := ownsT_below hown.out hb2
        have HOW : Hid (OwnsT (w2.alloc (.cells #[.int .i64 k, .string (ρ.extract 0 n)] 69)) w1.heap.size u4 acc) := HO2.out.alloc _
        have BW : Below w1.heap.size w1 (w2.alloc (.cells #[.int .i64 k, .string (ρ.extract 0 n)] 69)) := hb20.alloc hy2 _
        clear K21 hown HO2
        go_wp2_with (at_builtin; refine wpList_append_own _ rfl _ _ 42 rfl w1.heap.size 69 i0 _ 2 24 Tryz.underlying42 hi hz0 hz1 hz2 rfl (by decide) _ _ _ rfl (HOW.out.alloc _) ⟨w2.heap.size + 1, 0, none⟩ 1 1 [.int .i64 k, .string (ρ.extract 0 n)] rfl rfl (World.news_of_block (alloc_at (by first | exact hz4 | (simp; exact hz4) | simp) _)) (by simp [Value.oneCell']) (by unfold maxLen; first | omega | (simp; done)) (by first | omega | (simp; done)) (by first | omega | (simp; omega) | (simp; done)) ?_)
        intro v' w5 hown' hgrow _
        have hown5 : Hid (OwnsT w5 w1.heap.size v' (acc ++ [(k, (L ρ).take n)])) := by
          show World.ownsRow _ _ _ _ _ _ _
          rw [cellsT_append, List.length_append]
          have e : cellsT [(k, (L ρ).take n)] = [.int .i64 k, .string (ρ.extract 0 n)] := by rw [HX.out]; rfl
          rw [e]
          exact hown'
        have hb5 : Below w1.heap.size w1 w5 := (BW.alloc (by first | omega | (simp; omega)) _).grown hgrow (by first | omega | (simp; omega)) (fun j hj => (HOW.out.lt j hj).1)
        have HT5 := Lib.hid (HTn.out _ HKK.out)
        clear hown' hgrow HOW
        go_wp2_with fail
        go_roundw
        case rel => exact ⟨_, _, rfl, by rw [List.length_append]; exact HM.out, HT5, hown5, hb5⟩
        case measure => exact HMs.out
    · obtain rfl : ρ = ⟨#[]⟩ := by
        have : L ρ = [] := List.eq_nil_of_length_eq_zero (by rw [L_len]; omega)
        rw [← bs_L ρ, this]; rfl
      have hT2 : Hid (T (L s) = acc) := by
        show _ = _
        rw [hT.out]
        exact List.append_nil _
      have hown2 : Hid (OwnsT wr w.heap.size u4 (T (L s))) := by rw [hT2.out]; exact Lib.hid (hown.out.lower B1s)
      have B2 := B1.trans (hb.mono B1.size)
      clear hT hown hT2
      go_wp2_with fail
      go_ret2
      exact ⟨_, rfl, hown2, B2⟩
end Go.Proofs.YtcpojagfnpajeaaGreatDoorR.Lx
