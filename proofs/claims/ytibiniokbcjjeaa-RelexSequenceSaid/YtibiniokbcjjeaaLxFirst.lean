/-
  lexer.firstToken by its contract: kind and length of the first token, a keyword counted as an identifier.
-/
import Derived.Test.YtibiniokbcjjeaaLxQuote
import Derived.Test.YtibiniokbcjjeaaLxLen
namespace Go.Proofs.Ytibiniokbcjjeaa
open Go.RowKit

theorem prefix_two (l : List UInt8) : Lib.hasPrefix l [47, 47] = decide (l.take 2 = [47, 47]) := by
  unfold Lib.hasPrefix
  match l with
  | [] => rfl
  | [c] => simp [List.isPrefixOf]
  | c :: d :: q =>
    simp only [List.isPrefixOf, List.take_succ_cons, List.take_zero, Bool.and_true]
    by_cases h1 : c = 47 <;> by_cases h2 : d = 47 <;> simp [h1, h2]
    · exact fun e => h2 e.symm
    · exact fun e => absurd e.symm h1
    · exact fun e => absurd e.symm h1

theorem tok0_le {l : List UInt8} (hl : l ≠ []) : (tok0 l).2 ≤ l.length := (tokN_bound hl).2

def Firsts (l : List UInt8) (w : World) (e : Ending) (w' : World) : Prop := e = .returned (.tuple #[.int .i64 (tok0 l).1, .int .i64 ((tok0 l).2 : Nat)]) ∧ Below w.heap.size w w'

theorem prefix_call (s : ByteArray) (w : World) : Calls Try.prog 25 #[.string s, .string ⟨#[47, 47]⟩] w fun e w' => e = .returned (.bool (decide ((L s).take 2 = [47, 47]))) ∧ w' = w := by
  have := Try.strings_HasPrefix s ⟨#[47, 47]⟩ w
  rw [show (⟨#[47, 47]⟩ : ByteArray).data.toList = [47, 47] from rfl, show s.data.toList = L s from rfl, prefix_two] at this
  exact this

section
variable {s : ByteArray} {c : UInt8}

set_option maxHeartbeats 1000000 in
theorem f_space (w : World) (hs : s.size ≤ 1000000) (hne : 0 < s.size) (hc : s[0]'hne = c) (h1 : Hid (spI (c.toNat : Int) = true)) : Calls Try.prog 15 #[.string s] w fun e w' => e = .returned (.tuple #[.int .i64 101, .int .i64 (run spI (L s) : Nat)]) ∧ Below w.heap.size w w' := by
  have hpos : (0 : Int) < s.size := by omega
  have K1 := Lib.hid (space_any (c.toNat : Int) w)
  rw [h1.out] at K1
  have K7 := Lib.hid (len_space s w hs)
  go_enter Try.func15, Try.ntmps15
  go_wp2_with fail
  refine (K1.out).mono ?_
  rintro e w1 ⟨rfl, rfl⟩
  go_wp2_with fail
  refine (K7.out).mono ?_
  rintro e w1 ⟨rfl, rfl⟩
  go_wp2_with fail
  go_ret2
  exact ⟨rfl, Below.refl _ _⟩

set_option maxHeartbeats 1000000 in
theorem f_comment (w : World) (hs : s.size ≤ 1000000) (hne : 0 < s.size) (hc : s[0]'hne = c) (h1 : Hid (spI (c.toNat : Int) = false)) (h2 : Hid (decide ((L s).take 2 = [47, 47]) = true)) : Calls Try.prog 15 #[.string s] w fun e w' => e = .returned (.tuple #[.int .i64 102, .int .i64 (run nnI (L s) : Nat)]) ∧ Below w.heap.size w w' := by
  have hpos : (0 : Int) < s.size := by omega
  have K1 := Lib.hid (space_any (c.toNat : Int) w)
  rw [h1.out] at K1
  have K2 := Lib.hid (prefix_call s w)
  rw [h2.out] at K2
  have KL := Lib.hid (line_any s w hs)
  have HS := Lib.hid (line_size s)
  have hz : ((line s).size : Int) ≤ 9223372036854775807 := by rw [HS.out]; have := run_le nnI (L s); rw [L_len] at this; omega
  generalize line s = q at *
  go_enter Try.func15, Try.ntmps15
  go_wp2_with fail
  refine (K1.out).mono ?_
  rintro e w1 ⟨rfl, rfl⟩
  go_wp2_with fail
  refine (K2.out).mono ?_
  rintro e w1 ⟨rfl, rfl⟩
  go_wp2_with fail
  refine KL.out.mono ?_
  rintro e w2 ⟨rfl, hb2⟩
  go_wp2_with fail
  go_ret2
  exact ⟨by rw [← HS.out]; rfl, hb2⟩

set_option maxHeartbeats 1000000 in
theorem f_digit (w : World) (hs : s.size ≤ 1000000) (hne : 0 < s.size) (hc : s[0]'hne = c) (h1 : Hid (spI (c.toNat : Int) = false)) (h2 : Hid (decide ((L s).take 2 = [47, 47]) = false)) (h3 : Hid (wdI (c.toNat : Int) = true)) (h4 : Hid (dgI (c.toNat : Int) = true)) : Calls Try.prog 15 #[.string s] w fun e w' => e = .returned (.tuple #[.int .i64 105, .int .i64 (run dgI (L s) : Nat)]) ∧ Below w.heap.size w w' := by
  have hpos : (0 : Int) < s.size := by omega
  have K1 := Lib.hid (space_any (c.toNat : Int) w)
  rw [h1.out] at K1
  have K2 := Lib.hid (prefix_call s w)
  rw [h2.out] at K2
  have K3 := Lib.hid (word_any (c.toNat : Int) w)
  rw [h3.out] at K3
  have K4 := Lib.hid (digit_any (c.toNat : Int) w)
  rw [h4.out] at K4
  have K7 := Lib.hid (len_digit s w hs)
  go_enter Try.func15, Try.ntmps15
  go_wp2_with fail
  refine (K1.out).mono ?_
  rintro e w1 ⟨rfl, rfl⟩
  go_wp2_with fail
  refine (K2.out).mono ?_
  rintro e w1 ⟨rfl, rfl⟩
  go_wp2_with fail
  refine (K3.out).mono ?_
  rintro e w1 ⟨rfl, rfl⟩
  go_wp2_with fail
  refine (K4.out).mono ?_
  rintro e w1 ⟨rfl, rfl⟩
  go_wp2_with fail
  refine (K4.out).mono ?_
  rintro e w1 ⟨rfl, rfl⟩
  go_wp2_with fail
  refine (K7.out).mono ?_
  rintro e w1 ⟨rfl, rfl⟩
  go_wp2_with fail
  go_ret2
  exact ⟨rfl, Below.refl _ _⟩

set_option maxHeartbeats 1000000 in
theorem f_word (w : World) (hs : s.size ≤ 1000000) (hne : 0 < s.size) (hc : s[0]'hne = c) (h1 : Hid (spI (c.toNat : Int) = false)) (h2 : Hid (decide ((L s).take 2 = [47, 47]) = false)) (h3 : Hid (wdI (c.toNat : Int) = true)) (h4 : Hid (dgI (c.toNat : Int) = false)) : Calls Try.prog 15 #[.string s] w fun e w' => e = .returned (.tuple #[.int .i64 103, .int .i64 (run wdI (L s) : Nat)]) ∧ Below w.heap.size w w' := by
  have hpos : (0 : Int) < s.size := by omega
  have K1 := Lib.hid (space_any (c.toNat : Int) w)
  rw [h1.out] at K1
  have K2 := Lib.hid (prefix_call s w)
  rw [h2.out] at K2
  have K3 := Lib.hid (word_any (c.toNat : Int) w)
  rw [h3.out] at K3
  have K4 := Lib.hid (digit_any (c.toNat : Int) w)
  rw [h4.out] at K4
  have K7 := Lib.hid (len_word s w hs)
  go_enter Try.func15, Try.ntmps15
  go_wp2_with fail
  refine (K1.out).mono ?_
  rintro e w1 ⟨rfl, rfl⟩
  go_wp2_with fail
  refine (K2.out).mono ?_
  rintro e w1 ⟨rfl, rfl⟩
  go_wp2_with fail
  refine (K3.out).mono ?_
  rintro e w1 ⟨rfl, rfl⟩
  go_wp2_with fail
  refine (K4.out).mono ?_
  rintro e w1 ⟨rfl, rfl⟩
  go_wp2_with fail
  refine (K7.out).mono ?_
  rintro e w1 ⟨rfl, rfl⟩
  go_wp2_with fail
  go_ret2
  exact ⟨rfl, Below.refl _ _⟩

set_option maxHeartbeats 1000000 in
theorem f_quote (w : World) (hs : s.size ≤ 1000000) (hne : 0 < s.size) (hc : s[0]'hne = c) (h1 : Hid (spI (c.toNat : Int) = false)) (h2 : Hid (decide ((L s).take 2 = [47, 47]) = false)) (h3 : Hid (wdI (c.toNat : Int) = false)) (h4 : Hid (dgI (c.toNat : Int) = false)) (g : ((c.toNat : Int) == 34) = true) : Calls Try.prog 15 #[.string s] w fun e w' => e = .returned (.tuple #[.int .i64 (qK (line s)), .int .i64 (qN (line s) : Nat)]) ∧ Below w.heap.size w w' := by
  have hpos : (0 : Int) < s.size := by omega
  have K1 := Lib.hid (space_any (c.toNat : Int) w)
  rw [h1.out] at K1
  have K2 := Lib.hid (prefix_call s w)
  rw [h2.out] at K2
  have K3 := Lib.hid (word_any (c.toNat : Int) w)
  rw [h3.out] at K3
  have K4 := Lib.hid (digit_any (c.toNat : Int) w)
  rw [h4.out] at K4
  have KL := Lib.hid (line_any s w hs)
  have KQ := Lib.hid (fun W => quoted_any (line s) W (by rw [line_size]; have := run_le nnI (L s); rw [L_len] at this; omega) (Lib.hid (line_no s)))
  generalize qK (line s) = k at *
  generalize qN (line s) = n at *
  generalize line s = q at *
  go_enter Try.func15, Try.ntmps15
  go_wp2_with fail
  refine (K1.out).mono ?_
  rintro e w1 ⟨rfl, rfl⟩
  go_wp2_with fail
  refine (K2.out).mono ?_
  rintro e w1 ⟨rfl, rfl⟩
  go_wp2_with fail
  refine (K3.out).mono ?_
  rintro e w1 ⟨rfl, rfl⟩
  go_wp2_with fail
  refine (K4.out).mono ?_
  rintro e w1 ⟨rfl, rfl⟩
  go_wp2_with fail
  refine KL.out.mono ?_
  rintro e w2 ⟨rfl, hb2⟩
  go_wp2_with fail
  refine (KQ.out _).mono ?_
  rintro e w3 ⟨rfl, rfl⟩
  go_wp2_with fail
  go_ret2
  exact ⟨rfl, hb2⟩

set_option maxHeartbeats 1000000 in
theorem f_pair (w : World) (hs : s.size ≤ 1000000) (hne : 0 < s.size) (hc : s[0]'hne = c) (h1 : Hid (spI (c.toNat : Int) = false)) (h2 : Hid (decide ((L s).take 2 = [47, 47]) = false)) (h3 : Hid (wdI (c.toNat : Int) = false)) (h4 : Hid (dgI (c.toNat : Int) = false)) (h5 : Hid (pairs.contains ((L s).take 2) = true)) (g : ((c.toNat : Int) == 34) = false) : Calls Try.prog 15 #[.string s] w fun e w' => e = .returned (.tuple #[.int .i64 107, .int .i64 (2 : Nat)]) ∧ Below w.heap.size w w' := by
  have hpos : (0 : Int) < s.size := by omega
  have K1 := Lib.hid (space_any (c.toNat : Int) w)
  rw [h1.out] at K1
  have K2 := Lib.hid (prefix_call s w)
  rw [h2.out] at K2
  have K3 := Lib.hid (word_any (c.toNat : Int) w)
  rw [h3.out] at K3
  have K4 := Lib.hid (digit_any (c.toNat : Int) w)
  rw [h4.out] at K4
  have K5 := Lib.hid (pair_any s w hs)
  rw [h5.out] at K5
  go_enter Try.func15, Try.ntmps15
  go_wp2_with fail
  refine (K1.out).mono ?_
  rintro e w1 ⟨rfl, rfl⟩
  go_wp2_with fail
  refine (K2.out).mono ?_
  rintro e w1 ⟨rfl, rfl⟩
  go_wp2_with fail
  refine (K3.out).mono ?_
  rintro e w1 ⟨rfl, rfl⟩
  go_wp2_with fail
  refine (K4.out).mono ?_
  rintro e w1 ⟨rfl, rfl⟩
  go_wp2_with fail
  refine (K5.out).mono ?_
  rintro e w1 ⟨rfl, rfl⟩
  go_wp2_with fail
  go_ret2
  exact ⟨rfl, Below.refl _ _⟩

set_option maxHeartbeats 1000000 in
theorem f_punct (w : World) (hs : s.size ≤ 1000000) (hne : 0 < s.size) (hc : s[0]'hne = c) (h1 : Hid (spI (c.toNat : Int) = false)) (h2 : Hid (decide ((L s).take 2 = [47, 47]) = false)) (h3 : Hid (wdI (c.toNat : Int) = false)) (h4 : Hid (dgI (c.toNat : Int) = false)) (h5 : Hid (pairs.contains ((L s).take 2) = false)) (h6 : Hid (singles.contains c = true)) (g : ((c.toNat : Int) == 34) = false) : Calls Try.prog 15 #[.string s] w fun e w' => e = .returned (.tuple #[.int .i64 107, .int .i64 (1 : Nat)]) ∧ Below w.heap.size w w' := by
  have hpos : (0 : Int) < s.size := by omega
  have K1 := Lib.hid (space_any (c.toNat : Int) w)
  rw [h1.out] at K1
  have K2 := Lib.hid (prefix_call s w)
  rw [h2.out] at K2
  have K3 := Lib.hid (word_any (c.toNat : Int) w)
  rw [h3.out] at K3
  have K4 := Lib.hid (digit_any (c.toNat : Int) w)
  rw [h4.out] at K4
  have K5 := Lib.hid (pair_any s w hs)
  rw [h5.out] at K5
  have K6 := Lib.hid (punct_any c w)
  rw [h6.out] at K6
  go_enter Try.func15, Try.ntmps15
  go_wp2_with fail
  refine (K1.out).mono ?_
  rintro e w1 ⟨rfl, rfl⟩
  go_wp2_with fail
  refine (K2.out).mono ?_
  rintro e w1 ⟨rfl, rfl⟩
  go_wp2_with fail
  refine (K3.out).mono ?_
  rintro e w1 ⟨rfl, rfl⟩
  go_wp2_with fail
  refine (K4.out).mono ?_
  rintro e w1 ⟨rfl, rfl⟩
  go_wp2_with fail
  refine (K5.out).mono ?_
  rintro e w1 ⟨rfl, rfl⟩
  go_wp2_with fail
  refine (K6.out).mono ?_
  rintro e w1 ⟨rfl, rfl⟩
  go_wp2_with fail
  go_ret2
  exact ⟨rfl, Below.refl _ _⟩

set_option maxHeartbeats 1000000 in
theorem f_other (w : World) (hs : s.size ≤ 1000000) (hne : 0 < s.size) (hc : s[0]'hne = c) (h1 : Hid (spI (c.toNat : Int) = false)) (h2 : Hid (decide ((L s).take 2 = [47, 47]) = false)) (h3 : Hid (wdI (c.toNat : Int) = false)) (h4 : Hid (dgI (c.toNat : Int) = false)) (h5 : Hid (pairs.contains ((L s).take 2) = false)) (h6 : Hid (singles.contains c = false)) (g : ((c.toNat : Int) == 34) = false) : Calls Try.prog 15 #[.string s] w fun e w' => e = .returned (.tuple #[.int .i64 108, .int .i64 (1 : Nat)]) ∧ Below w.heap.size w w' := by
  have hpos : (0 : Int) < s.size := by omega
  have K1 := Lib.hid (space_any (c.toNat : Int) w)
  rw [h1.out] at K1
  have K2 := Lib.hid (prefix_call s w)
  rw [h2.out] at K2
  have K3 := Lib.hid (word_any (c.toNat : Int) w)
  rw [h3.out] at K3
  have K4 := Lib.hid (digit_any (c.toNat : Int) w)
  rw [h4.out] at K4
  have K5 := Lib.hid (pair_any s w hs)
  rw [h5.out] at K5
  have K6 := Lib.hid (punct_any c w)
  rw [h6.out] at K6
  go_enter Try.func15, Try.ntmps15
  go_wp2_with fail
  refine (K1.out).mono ?_
  rintro e w1 ⟨rfl, rfl⟩
  go_wp2_with fail
  refine (K2.out).mono ?_
  rintro e w1 ⟨rfl, rfl⟩
  go_wp2_with fail
  refine (K3.out).mono ?_
  rintro e w1 ⟨rfl, rfl⟩
  go_wp2_with fail
  refine (K4.out).mono ?_
  rintro e w1 ⟨rfl, rfl⟩
  go_wp2_with fail
  refine (K5.out).mono ?_
  rintro e w1 ⟨rfl, rfl⟩
  go_wp2_with fail
  refine (K6.out).mono ?_
  rintro e w1 ⟨rfl, rfl⟩
  go_wp2_with fail
  go_ret2
  exact ⟨rfl, Below.refl _ _⟩

end
theorem first_any (s : ByteArray) (w : World) (hs : s.size ≤ 1000000) (hne : 0 < s.size) : Calls Try.prog 15 #[.string s] w (Firsts (L s) w) := by
  obtain ⟨c, hc⟩ : ∃ c, s[0]'hne = c := ⟨_, rfl⟩
  have hat := at_L s 0 hne
  rw [hc] at hat
  obtain ⟨r, hr⟩ : ∃ r, L s = c :: r := by
    cases h : L s with
    | nil => rw [h] at hat; simp at hat
    | cons x r => rw [h] at hat; simp at hat; exact ⟨r, by rw [hat]⟩
  have key : ∀ k n, tok0 (c :: r) = (k, n) → (Calls Try.prog 15 #[.string s] w fun e w' => e = .returned (.tuple #[.int .i64 k, .int .i64 (n : Nat)]) ∧ Below w.heap.size w w') → Calls Try.prog 15 #[.string s] w (Firsts (L s) w) := by
    intro k n h C
    unfold Firsts
    rw [hr, h]
    exact C
  cases h1 : spI (c.toNat : Int) with
  | true => exact key _ _ (by rw [tok0, if_pos h1, hr]) (f_space w hs hne hc h1)
  | false =>
    have g1 : ¬ spI (c.toNat : Int) = true := by simp [h1]
    by_cases h2 : (c :: r).take 2 = [47, 47]
    · exact key _ _ (by rw [tok0, if_neg g1, if_pos h2, hr]) (f_comment w hs hne hc h1 (by show _ = _; rw [hr]; exact decide_eq_true h2))
    · have d2 : Hid (decide ((L s).take 2 = [47, 47]) = false) := by show _ = _; rw [hr]; exact decide_eq_false h2
      cases h3 : dgI (c.toNat : Int) with
      | true => exact key _ _ (by rw [tok0, if_neg g1, if_neg h2, if_pos h3, hr]) (f_digit w hs hne hc h1 d2 (by show wdI _ = true; unfold wdI; rw [h3]; simp) h3)
      | false =>
        have g3 : ¬ dgI (c.toNat : Int) = true := by simp [h3]
        cases h4 : wdI (c.toNat : Int) with
        | true => exact key _ _ (by rw [tok0, if_neg g1, if_neg h2, if_neg g3, if_pos h4, hr]) (f_word w hs hne hc h1 d2 h4 h3)
        | false =>
          have g4 : ¬ wdI (c.toNat : Int) = true := by simp [h4]
          by_cases h5 : c = 34
          · have hq := quoted_line (s := s) (r := r) (by rw [hr, h5])
            refine key (qK (line s)) (qN (line s)) ?_ (f_quote w hs hne hc h1 d2 h4 h3 (by rw [h5]; rfl))
            rw [tok0, if_neg g1, if_neg h2, if_neg g3, if_neg g4, if_pos h5, hq.1, hq.2, hr]
            split <;> rfl
          · have g5 : ((c.toNat : Int) == 34) = false := by
              have : ¬ (c.toNat : Int) = 34 := fun e => h5 (byte_eq (d := 34) (by rw [e]; rfl))
              simpa using this
            cases h6 : pairs.contains ((c :: r).take 2) with
            | true => exact key _ _ (by rw [tok0, if_neg g1, if_neg h2, if_neg g3, if_neg g4, if_neg h5, if_pos h6]) (f_pair w hs hne hc h1 d2 h4 h3 (by show _ = _; rw [hr]; exact h6) g5)
            | false =>
              have g6 : ¬ pairs.contains ((c :: r).take 2) = true := by rw [h6]; exact Bool.false_ne_true
              cases h7 : singles.contains c with
              | true => exact key _ _ (by rw [tok0, if_neg g1, if_neg h2, if_neg g3, if_neg g4, if_neg h5, if_neg g6, if_pos h7]) (f_punct w hs hne hc h1 d2 h4 h3 (by show _ = _; rw [hr]; exact h6) h7 g5)
              | false => exact key _ _ (by rw [tok0, if_neg g1, if_neg h2, if_neg g3, if_neg g4, if_neg h5, if_neg g6, if_neg (by rw [h7]; exact Bool.false_ne_true)]) (f_other w hs hne hc h1 d2 h4 h3 (by show _ = _; rw [hr]; exact h6) h7 g5)
end Go.Proofs.Ytibiniokbcjjeaa
