/-
  glossatorref1.FirstToken at punctuation: the loop over the punctuation tokens.
-/
import Derived.Test.YtjakmigkipcomaaRef3
namespace Go.Proofs.Ytjakmigkipcomaa
open Go.RowKit
section
variable {s : ByteArray} {c : UInt8}

set_option maxHeartbeats 2000000 in
set_option maxRecDepth 100000 in
theorem r_rest (w : World) (hs : s.size ≤ 1000000) (hne : 0 < s.size) (r0 : Hid (run spI (L s) = 0)) (h2 : (1 < s.size ∧ ((s.extract 0 2).toList == [47, 47]) = false) ∨ ¬ 1 < s.size) (r3 : Hid (run dgI (L s) = 0)) (r2 : Hid (run wdI (L s) = 0)) (hc : s[0]'hne = c) (g : ((c.toNat : Int) == 34) = false) (hl : Hid (L s ≠ [])) : Calls Try.prog 23 #[.string s] w (RTok s (pu (L s)).1 (pu (L s)).2 w) := by
  have bs1 : (s.size : Int) ≤ 1000000 := by omega
  have bs0 : (0 : Int) < s.size := by omega
  have K0 : Hid (∀ W, Calls Try.prog 36 #[.string s, .int .i64 0] W fun e w' => e = .returned (.int .i64 0) ∧ w' = W) := fun W => by have := rrun_0 s W hs; rw [r0.out] at this; exact this
  have K3 : Hid (∀ W, Calls Try.prog 36 #[.string s, .int .i64 3] W fun e w' => e = .returned (.int .i64 0) ∧ w' = W) := fun W => by have := rrun_3 s W hs; rw [r3.out] at this; exact this
  have K2 : Hid (∀ W, Calls Try.prog 36 #[.string s, .int .i64 2] W fun e w' => e = .returned (.int .i64 0) ∧ w' = W) := fun W => by have := rrun_2 s W hs; rw [r2.out] at this; exact this
  have K39 := Lib.hid (fun W => puncts_some W)
  rcases h2 with ⟨h3, h2⟩ | h3
  · have h4 : (1 : Int) < s.size := by omega
    clear h3
    go_enter Try.func23, Try.ntmps23
    go_wp2_with fail
    have HB := Lib.hid (begun s w)
    generalize ((w.alloc (.cells #[.string s] 9)).alloc (.cells #[.int .i64 0, .string ⟨#[]⟩] 30)) = w2 at *
    obtain ⟨c0, _, _⟩ := HB.out
    refine (K0.out _).mono ?_
    rintro e w1 ⟨rfl, rfl⟩
    go_wp2_with fail
    refine (K3.out _).mono ?_
    rintro e w1 ⟨rfl, rfl⟩
    go_wp2_with fail
    refine (K2.out _).mono ?_
    rintro e w1 ⟨rfl, rfl⟩
    go_wp2_with fail
    refine (K39.out _).mono ?_
    rintro e w3 ⟨b3, rfl, HS3, hb3⟩
    have HB3 := Lib.hid (HB.out.to hb3)
    have c3 := HB3.out.1
    clear HB c0
    go_wp2_with fail
    go_loop [68] (fun i => ∃ k : Nat, k ≤ 26 ∧ i = .int .i64 k ∧ Hid (∀ (j : Nat) q, j < k → puncts[j]? = some q → (L s).take q.length ≠ q)) (fun i => 26 - (intOf i).toNat)
    case atStart => exact ⟨0, Nat.zero_le _, rfl, fun j q h => by omega⟩
    case round =>
      obtain ⟨k, hk, rfl, hno⟩ := hrel
      by_cases hlt : k < 26
      · obtain ⟨p, hp⟩ : ∃ p, puncts[k]? = some p := ⟨_, List.getElem?_eq_getElem (show k < puncts.length from hlt)⟩
        obtain ⟨b, o, hbo, _, p0⟩ := HS3.out k p hp
        cases hbo
        have hk0 : (0 : Int) ≤ (k : Int) := by omega
        have hk1 : (k : Int) < 26 := by omega
        have HP := Lib.hid hp
        have hz := bs_size p
        have hpl : p.length ≤ 2 := by
          rcases puncts_at hp with ⟨_, h⟩ | ⟨_, d, _, h⟩
          · rw [pair_len p h]; exact Nat.le_refl _
          · rw [h]; simp
        have HE : Hid (∀ m, m = p.length → m ≤ s.size → ((s.extract 0 m).toList == (bs p).toList) = decide ((L s).take p.length = p)) := by
          rintro m rfl _
          rw [ByteArray.toList_eq, ByteArray.toList_eq, take_is]
          show (L (bs _) == L (bs _)) = _
          rw [L_bs, L_bs]
          by_cases h : (L s).take p.length = p
          · rw [decide_eq_true h, h]; simp
          · rw [decide_eq_false h]; simpa using h
        rw [Nat.zero_add] at p0
        clear hp
        by_cases hm : (L s).take p.length = p
        · have hle : p.length ≤ s.size := by
            have := congrArg List.length hm
            rw [List.length_take, L_len] at this
            omega
          have HH := Lib.hid (punct_hit hno.out HP.out hm)
          have he := HE.out (bs p).size hz (by omega)
          rw [decide_eq_true hm] at he
          rw [← hz] at hle HH
          have hle2 : ((bs p).size : Int) ≤ s.size := by omega
          clear HE HP hno hm
          generalize bs p = z at *
          have hle3 : (z.size : Int) ≤ 2 := by omega
          clear hz
          go_wp2_with fail
          refine ((closure_any 107 z.size w.heap.size s w3 hs (by first | exact hn | omega | exact class_in) HB3.out.1)).mono ?_
          rintro e w9 ⟨rfl, hb9⟩
          have HB9 := Lib.hid (HB3.out.to hb9)
          obtain ⟨z0, z1, z2, z3, z4⟩ := HB9.out.2.1
          have s0 := HB9.out.2.1.put0
          have s1 := HB9.out.2.1.put1
          go_wp2_with fail
          refine bodyPost_ret (by simp [results, Try.results23, go_sem, s0, s1]; try rfl) rfl ?_
          exact ⟨by rw [HH.out], HB9.out.stored _ _⟩
        · have hno2 : Hid (∀ (j : Nat) q, j < k + 1 → puncts[j]? = some q → (L s).take q.length ≠ q) := by
            intro j q hj hq
            by_cases hjk : j = k
            · subst hjk
              rw [HP.out] at hq
              cases hq
              exact hm
            · exact hno.out j q (by omega) hq
          have hlen : ((bs p).size ≤ s.size ∧ ((s.extract 0 (bs p).size).toList == (bs p).toList) = false) ∨ ¬ (bs p).size ≤ s.size := by
            by_cases h : (bs p).size ≤ s.size
            · exact .inl ⟨h, by rw [HE.out _ hz h]; exact decide_eq_false hm⟩
            · exact .inr h
          rw [← hz] at hpl
          clear HE HP hno hm hz
          generalize bs p = z at *
          have hle3 : (z.size : Int) ≤ 2 := by omega
          rcases hlen with ⟨h1, h2⟩ | h1
          · have hle2 : (z.size : Int) ≤ s.size := by omega
            go_wp2_with fail
            go_round
            case rel => exact ⟨k + 1, by omega, by go_num, hno2⟩
            case measure => simp [intOf]; omega
          · have hle2 : ¬ (z.size : Int) ≤ s.size := by omega
            go_wp2_with fail
            go_round
            case rel => exact ⟨k + 1, by omega, by go_num, hno2⟩
            case measure => simp [intOf]; omega
      · obtain rfl : k = 26 := by omega
        have HH : Hid (pu (L s) = (108, 1)) := punct_miss hl.out (fun j q hj => hno.out j q (by have := (List.getElem?_eq_some_iff.1 hj).1; exact this) hj)
        clear hno HS3
        go_wp2_with fail
        refine ((closure_any 108 1 w.heap.size s w3 hs (by first | exact hn | omega | exact class_in) HB3.out.1)).mono ?_
        rintro e w9 ⟨rfl, hb9⟩
        have HB9 := Lib.hid (HB3.out.to hb9)
        obtain ⟨z0, z1, z2, z3, z4⟩ := HB9.out.2.1
        have s0 := HB9.out.2.1.put0
        have s1 := HB9.out.2.1.put1
        go_wp2_with fail
        refine bodyPost_ret (by simp [results, Try.results23, go_sem, s0, s1]; try rfl) rfl ?_
        exact ⟨by rw [HH.out], HB9.out.stored _ _⟩
  · have h4 : ¬ (1 : Int) < s.size := by omega
    clear h3
    go_enter Try.func23, Try.ntmps23
    go_wp2_with fail
    have HB := Lib.hid (begun s w)
    generalize ((w.alloc (.cells #[.string s] 9)).alloc (.cells #[.int .i64 0, .string ⟨#[]⟩] 30)) = w2 at *
    obtain ⟨c0, _, _⟩ := HB.out
    refine (K0.out _).mono ?_
    rintro e w1 ⟨rfl, rfl⟩
    go_wp2_with fail
    refine (K3.out _).mono ?_
    rintro e w1 ⟨rfl, rfl⟩
    go_wp2_with fail
    refine (K2.out _).mono ?_
    rintro e w1 ⟨rfl, rfl⟩
    go_wp2_with fail
    refine (K39.out _).mono ?_
    rintro e w3 ⟨b3, rfl, HS3, hb3⟩
    have HB3 := Lib.hid (HB.out.to hb3)
    have c3 := HB3.out.1
    clear HB c0
    go_wp2_with fail
    go_loop [68] (fun i => ∃ k : Nat, k ≤ 26 ∧ i = .int .i64 k ∧ Hid (∀ (j : Nat) q, j < k → puncts[j]? = some q → (L s).take q.length ≠ q)) (fun i => 26 - (intOf i).toNat)
    case atStart => exact ⟨0, Nat.zero_le _, rfl, fun j q h => by omega⟩
    case round =>
      obtain ⟨k, hk, rfl, hno⟩ := hrel
      by_cases hlt : k < 26
      · obtain ⟨p, hp⟩ : ∃ p, puncts[k]? = some p := ⟨_, List.getElem?_eq_getElem (show k < puncts.length from hlt)⟩
        obtain ⟨b, o, hbo, _, p0⟩ := HS3.out k p hp
        cases hbo
        have hk0 : (0 : Int) ≤ (k : Int) := by omega
        have hk1 : (k : Int) < 26 := by omega
        have HP := Lib.hid hp
        have hz := bs_size p
        have hpl : p.length ≤ 2 := by
          rcases puncts_at hp with ⟨_, h⟩ | ⟨_, d, _, h⟩
          · rw [pair_len p h]; exact Nat.le_refl _
          · rw [h]; simp
        have HE : Hid (∀ m, m = p.length → m ≤ s.size → ((s.extract 0 m).toList == (bs p).toList) = decide ((L s).take p.length = p)) := by
          rintro m rfl _
          rw [ByteArray.toList_eq, ByteArray.toList_eq, take_is]
          show (L (bs _) == L (bs _)) = _
          rw [L_bs, L_bs]
          by_cases h : (L s).take p.length = p
          · rw [decide_eq_true h, h]; simp
          · rw [decide_eq_false h]; simpa using h
        rw [Nat.zero_add] at p0
        clear hp
        by_cases hm : (L s).take p.length = p
        · have hle : p.length ≤ s.size := by
            have := congrArg List.length hm
            rw [List.length_take, L_len] at this
            omega
          have HH := Lib.hid (punct_hit hno.out HP.out hm)
          have he := HE.out (bs p).size hz (by omega)
          rw [decide_eq_true hm] at he
          rw [← hz] at hle HH
          have hle2 : ((bs p).size : Int) ≤ s.size := by omega
          clear HE HP hno hm
          generalize bs p = z at *
          have hle3 : (z.size : Int) ≤ 2 := by omega
          clear hz
          go_wp2_with fail
          refine ((closure_any 107 z.size w.heap.size s w3 hs (by first | exact hn | omega | exact class_in) HB3.out.1)).mono ?_
          rintro e w9 ⟨rfl, hb9⟩
          have HB9 := Lib.hid (HB3.out.to hb9)
          obtain ⟨z0, z1, z2, z3, z4⟩ := HB9.out.2.1
          have s0 := HB9.out.2.1.put0
          have s1 := HB9.out.2.1.put1
          go_wp2_with fail
          refine bodyPost_ret (by simp [results, Try.results23, go_sem, s0, s1]; try rfl) rfl ?_
          exact ⟨by rw [HH.out], HB9.out.stored _ _⟩
        · have hno2 : Hid (∀ (j : Nat) q, j < k + 1 → puncts[j]? = some q → (L s).take q.length ≠ q) := by
            intro j q hj hq
            by_cases hjk : j = k
            · subst hjk
              rw [HP.out] at hq
              cases hq
              exact hm
            · exact hno.out j q (by omega) hq
          have hlen : ((bs p).size ≤ s.size ∧ ((s.extract 0 (bs p).size).toList == (bs p).toList) = false) ∨ ¬ (bs p).size ≤ s.size := by
            by_cases h : (bs p).size ≤ s.size
            · exact .inl ⟨h, by rw [HE.out _ hz h]; exact decide_eq_false hm⟩
            · exact .inr h
          rw [← hz] at hpl
          clear HE HP hno hm hz
          generalize bs p = z at *
          have hle3 : (z.size : Int) ≤ 2 := by omega
          rcases hlen with ⟨h1, h2⟩ | h1
          · have hle2 : (z.size : Int) ≤ s.size := by omega
            go_wp2_with fail
            go_round
            case rel => exact ⟨k + 1, by omega, by go_num, hno2⟩
            case measure => simp [intOf]; omega
          · have hle2 : ¬ (z.size : Int) ≤ s.size := by omega
            go_wp2_with fail
            go_round
            case rel => exact ⟨k + 1, by omega, by go_num, hno2⟩
            case measure => simp [intOf]; omega
      · obtain rfl : k = 26 := by omega
        have HH : Hid (pu (L s) = (108, 1)) := punct_miss hl.out (fun j q hj => hno.out j q (by have := (List.getElem?_eq_some_iff.1 hj).1; exact this) hj)
        clear hno HS3
        go_wp2_with fail
        refine ((closure_any 108 1 w.heap.size s w3 hs (by first | exact hn | omega | exact class_in) HB3.out.1)).mono ?_
        rintro e w9 ⟨rfl, hb9⟩
        have HB9 := Lib.hid (HB3.out.to hb9)
        obtain ⟨z0, z1, z2, z3, z4⟩ := HB9.out.2.1
        have s0 := HB9.out.2.1.put0
        have s1 := HB9.out.2.1.put1
        go_wp2_with fail
        refine bodyPost_ret (by simp [results, Try.results23, go_sem, s0, s1]; try rfl) rfl ?_
        exact ⟨by rw [HH.out], HB9.out.stored _ _⟩
end
end Go.Proofs.Ytjakmigkipcomaa
