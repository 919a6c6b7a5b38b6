/-
  glossatorref1.literal, Contains[string], Puncts and the closure of FirstToken by their contracts.
-/
import Derived.Test.YtjakmigkipcomaaTok
namespace Go.Proofs.Ytjakmigkipcomaa
open Go.RowKit

theorem beq_yes' {c d : Int} (h : c = d) : (c == d) = true := by simpa using h
theorem beq_no' {c d : Int} (h : ¬ c = d) : (c == d) = false := by simpa using h

theorem lit_ten {l : List UInt8} {k R : Nat} {q : Bool} {c : UInt8} (h : lit (l.drop k) k q = R) (hc : l[k]? = some c) (h10 : (c.toNat : Int) = 10) : R = 0 := by
  obtain rfl := byte_eq (d := 10) h10
  rw [drop_cons hc, lit, if_pos rfl] at h
  exact h.symm

theorem lit_next {l : List UInt8} {k R : Nat} {q q2 : Bool} {c : UInt8} (h : lit (l.drop k) k q = R) (hc : l[k]? = some c) (h10 : ¬ (c.toNat : Int) = 10) (h34 : q = true ∨ ¬ (c.toNat : Int) = 34) (hq : (!q && decide ((c.toNat : Int) = 92)) = q2) : lit (l.drop (k + 1)) (k + 1) q2 = R := by
  have e : (c == 92) = decide ((c.toNat : Int) = 92) := by
    by_cases h : c = 92
    · subst h; rfl
    · have h2 : decide ((c.toNat : Int) = 92) = false := decide_eq_false (fun e => h (byte_eq (d := 92) e))
      rw [h2]; simpa using h
  rw [drop_cons hc, lit, if_neg (ne_of_int (d := 10) h10), if_neg (by
    intro h2
    rcases h34 with h3 | h3
    · rw [h3] at h2; cases h2.1
    · exact h3 (by rw [h2.2]; rfl)), e, hq] at h
  exact h

theorem lit_endq {l : List UInt8} {i R : Nat} {q : Bool} (h : lit (l.drop i) i q = R) (hi : l.length ≤ i) : R = 0 := by
  rw [List.drop_eq_nil_of_le hi, lit] at h
  exact h.symm

set_option maxHeartbeats 2000000 in
set_option maxRecDepth 100000 in
theorem literal_any (s : ByteArray) (w : World) (hs : s.size ≤ 1000000) : Calls Try.prog 38 #[.string s] w fun e w' => e = .returned (.int .i64 (lit ((L s).drop 1) 1 false : Nat)) ∧ w' = w := by
  obtain ⟨R, hR⟩ : ∃ R, R = lit ((L s).drop 1) 1 false := ⟨_, rfl⟩
  have HR := Lib.hid hR
  rw [← hR]
  clear hR
  have hS : (s.size : Int) ≤ 1000000 := by omega
  go_enter Try.func38, Try.ntmps38
  go_wp2_with fail
  go_loop [3, 4] (fun e i => ∃ (k : Nat) (q : Bool), 1 ≤ k ∧ k ≤ s.size + 1 ∧ e = .bool q ∧ i = .int .i64 k ∧ Hid (lit ((L s).drop k) k q = R)) (fun _ i => s.size + 1 - (intOf i).toNat)
  case atStart => exact ⟨1, false, Nat.le_refl _, by omega, rfl, rfl, by show _ = _; rw [HR.out]⟩
  case round =>
    obtain ⟨k, q, hk1, hk, rfl, rfl, hlit⟩ := hrel
    by_cases hlt : k < s.size
    · obtain ⟨c, hc⟩ : ∃ c, s[k]'hlt = c := ⟨_, rfl⟩
      have hat := Lib.hid (at_L s k hlt)
      rw [hc] at hat
      have hb : (k : Int) < 1000000 := by omega
      by_cases h10 : (c.toNat : Int) = 10
      · have h0 := Lib.hid (lit_ten hlit.out hat.out h10)
        have g10 : ((c.toNat : Int) != 10) = false := by simp [h10]
        clear hlit hat h10
        go_wp2_with fail
        go_ret
        exact ⟨by rw [h0.out]; rfl, rfl⟩
      · have g10 : ((c.toNat : Int) != 10) = true := by simpa using h10
        cases q with
        | true =>
          have hn := Lib.hid (lit_next (q2 := false) hlit.out hat.out h10 (.inl rfl) rfl)
          clear hlit hat
          by_cases h34 : (c.toNat : Int) = 34
          · have g34 := beq_yes' h34
            have g92 : ((c.toNat : Int) == 92) = false := beq_no' (by omega)
            clear h34 h10
            go_wp2_with fail
            go_round
            case rel => exact ⟨k + 1, false, by omega, by omega, rfl, by go_num, hn⟩
            case measure => simp [intOf]; omega
          · have g34 := beq_no' h34
            by_cases h92 : (c.toNat : Int) = 92
            · have g92 := beq_yes' h92
              clear h34 h10 h92
              go_wp2_with fail
              go_round
              case rel => exact ⟨k + 1, false, by omega, by omega, rfl, by go_num, hn⟩
              case measure => simp [intOf]; omega
            · have g92 := beq_no' h92
              clear h34 h10 h92
              go_wp2_with fail
              go_round
              case rel => exact ⟨k + 1, false, by omega, by omega, rfl, by go_num, hn⟩
              case measure => simp [intOf]; omega
        | false =>
          by_cases h34 : (c.toNat : Int) = 34
          · have hq := Lib.hid (lit_quote hlit.out hat.out (byte_eq (d := 34) h34))
            have g34 := beq_yes' h34
            clear h34 h10 hlit hat
            go_wp2_with fail
            go_ret
            exact ⟨by rw [hq.out]; rfl, rfl⟩
          · have g34 := beq_no' h34
            by_cases h92 : (c.toNat : Int) = 92
            · have hn := Lib.hid (lit_next (q2 := true) hlit.out hat.out h10 (.inr h34) (by rw [decide_eq_true h92]; rfl))
              have g92 := beq_yes' h92
              clear h34 h10 h92 hlit hat
              go_wp2_with fail
              go_round
              case rel => exact ⟨k + 1, true, by omega, by omega, rfl, by go_num, hn⟩
              case measure => simp [intOf]; omega
            · have hn := Lib.hid (lit_next (q2 := false) hlit.out hat.out h10 (.inr h34) (by rw [decide_eq_false h92]; rfl))
              have g92 := beq_no' h92
              clear h34 h10 h92 hlit hat
              go_wp2_with fail
              go_round
              case rel => exact ⟨k + 1, false, by omega, by omega, rfl, by go_num, hn⟩
              case measure => simp [intOf]; omega
    · have h0 := Lib.hid (lit_endq hlit.out (by rw [L_len]; omega))
      have h1 : ¬ (k : Int) < s.size := by omega
      clear hlit
      go_wp2_with fail
      go_ret
      exact ⟨by rw [h0.out]; rfl, rfl⟩

theorem eqs_yes {x y : ByteArray} (h : x = y) : (x.toList == y.toList) = true := by subst h; simp
theorem eqs_no {x y : ByteArray} (h : ¬ x = y) : (x.toList == y.toList) = false := by
  have h2 : ¬ x.toList = y.toList := by
    rw [ByteArray.toList_eq, ByteArray.toList_eq]
    exact fun e => h (L_inj e)
  simpa using h2

theorem take_snoc {l : List (List UInt8)} {k : Nat} {x : List UInt8} (h : l[k]? = some x) : l.take (k + 1) = l.take k ++ [x] := by
  rw [List.take_add_one, h]; rfl

set_option maxHeartbeats 1000000 in
theorem rcontains_any (l : List (List UInt8)) (a : Option Addr) (cap : Nat) (x : ByteArray) (w : World) (hl : l.length ≤ 1000000) (h : Strs w w.heap.size a l) :
    Calls Try.prog 37 #[.slice a l.length cap, .string x] w fun e w' => e = .returned (.bool (l.contains (L x))) ∧ w' = w := by
  have H := Lib.hid h
  obtain ⟨R, hR⟩ : ∃ R, R = l.contains (L x) := ⟨_, rfl⟩
  rw [← hR]
  have HN : Hid (R = (l.take l.length).contains (L x)) := by show _ = _; rw [hR, List.take_length]
  have HR := Lib.hid hR
  clear h hR
  go_enter Try.func37, Try.ntmps37
  go_wp2_with fail
  go_loop [9] (fun i => ∃ k : Nat, k ≤ l.length ∧ i = .int .i64 k ∧ Hid ((l.take k).contains (L x) = false)) (fun i => l.length - (intOf i).toNat)
  case atStart => exact ⟨0, Nat.zero_le _, rfl, rfl⟩
  case round =>
    obtain ⟨k, hk, rfl, hno⟩ := hrel
    by_cases hlt : k < l.length
    · have hx : l[k]? = some l[k] := List.getElem?_eq_getElem hlt
      obtain ⟨y, hY⟩ : ∃ y, y = l[k] := ⟨_, rfl⟩
      rw [← hY] at hx
      clear hY
      obtain ⟨b, o, rfl, _, p0⟩ := H.out k y hx
      have hk0 : (0 : Int) ≤ (k : Int) := by omega
      have hk1 : (k : Int) < (l.length : Int) := by omega
      have HX := Lib.hid hx
      clear hx
      by_cases he : x = bs y
      · have hyes : Hid (R = true) := by
          show _ = _
          rw [HR.out, he, L_bs]
          simpa using List.mem_of_getElem? HX.out
        have heq := eqs_yes he
        generalize bs y = z at *
        clear he hno
        go_wp2_with fail
        go_ret
        exact ⟨by rw [hyes.out]; rfl, rfl⟩
      · have hno2 : Hid ((l.take (k + 1)).contains (L x) = false) := by
          show _ = _
          rw [take_snoc HX.out, List.contains_eq_mem]
          have h1 := hno.out
          rw [List.contains_eq_mem] at h1
          simp only [decide_eq_false_iff_not, List.mem_append, List.mem_singleton] at h1 ⊢
          rintro (h2 | h2)
          · exact h1 h2
          · exact he (by rw [← h2, bs_L])
        have heq := eqs_no he
        generalize bs y = z at *
        clear he hno
        go_wp2_with fail
        go_round
        case rel => exact ⟨k + 1, by omega, by go_num, hno2⟩
        case measure => simp [intOf]; omega
    · obtain rfl : k = l.length := by omega
      have hno2 := Lib.hid (HN.out.trans hno.out)
      clear hno
      go_wp2_with fail
      go_ret
      exact ⟨by rw [hno2.out]; rfl, rfl⟩

/-- The punctuation tokens, the longer ones first. -/
def puncts : List (List UInt8) := pairs ++ singles.map fun c => [c]
def puBlock : Obj := .cells (puncts.map fun x => Value.string (bs x)).toArray 9

theorem puncts_any (w : World) : Calls Try.prog 39 #[] w fun e w' => e = .returned (.slice (some ⟨w.heap.size, 0, none⟩) 26 26) ∧ w' = w.alloc puBlock := by
  go_enter Try.func39, Try.ntmps39
  go_wp2_with fail
  go_ret
  exact ⟨rfl, rfl⟩

theorem pu_strs (w : World) : Strs (w.alloc puBlock) (w.alloc puBlock).heap.size (some ⟨w.heap.size, 0, none⟩) puncts := Strs.new w puncts
theorem pu_below (w : World) : Below w.heap.size w (w.alloc puBlock) := (Below.refl _ _).alloc (Nat.le_refl _) _

set_option maxHeartbeats 1000000 in
theorem closure_any (k : Int) (n : Nat) (b : Nat) (s : ByteArray) (w : World) (hs : s.size ≤ 1000000) (hn : n ≤ s.size) (hb : w.cell? ⟨b, 0, none⟩ = some (.string s)) :
    Calls Try.prog 35 #[.int .i64 k, .int .i64 n, .pointer (some ⟨b, 0, none⟩)] w fun e w' => e = .returned (.agg #[.int .i64 k, .string (s.extract 0 n)]) ∧ Below w.heap.size w w' := by
  have hlt := World.block_lt_of_cell? w _ hb
  have b1 : (n : Int) ≤ s.size := by omega
  have b2 : (s.size : Int) ≤ 1000000 := by omega
  have hb2 : (w.alloc (.cells #[.int .i64 0, .string ⟨#[]⟩] 30)).cell? ⟨b, 0, none⟩ = some (.string s) := (((Below.refl _ w).alloc (Nat.le_refl _) _).cell (p := ⟨b, 0, none⟩) hlt).trans hb
  clear hb hlt
  go_enter Try.func35, Try.ntmps35
  go_wp2_with fail
  refine bodyPost_ret (by simp [results, Try.results35, go_sem]; try rfl) rfl ?_
  exact ⟨rfl, (Below.refl _ _).alloc (Nat.le_refl _) _⟩
end Go.Proofs.Ytjakmigkipcomaa
