/-
  glossatorref1.FirstToken at what is neither space, comment, number nor word.
-/
import Derived.Test.YtjakmigkipcomaaRef2
namespace Go.Proofs.Ytjakmigkipcomaa
open Go.RowKit

/-- What is no space, comment, number, word or quote. -/
def pu (l : List UInt8) : Int × Nat := if pairs.contains (l.take 2) then (107, 2) else if singles.contains (l.headD 0) then (107, 1) else (108, 1)

theorem pair_len : ∀ p ∈ pairs, p.length = 2 := by decide

theorem puncts_at {k : Nat} {p : List UInt8} (h : puncts[k]? = some p) : (k < 6 ∧ p ∈ pairs) ∨ (6 ≤ k ∧ ∃ d ∈ singles, p = [d]) := by
  unfold puncts at h
  rcases Nat.lt_or_ge k 6 with hk | hk
  · rw [List.getElem?_append_left (by exact hk)] at h
    exact .inl ⟨hk, List.mem_of_getElem? h⟩
  · rw [List.getElem?_append_right (by exact hk)] at h
    obtain ⟨d, hd, e⟩ := List.mem_map.1 (List.mem_of_getElem? h)
    exact .inr ⟨hk, d, hd, e.symm⟩

theorem pair_at {p : List UInt8} (h : p ∈ pairs) : ∃ j, j < 6 ∧ puncts[j]? = some p := by
  obtain ⟨j, hj⟩ := List.mem_iff_getElem?.1 h
  have hlt : j < 6 := (List.getElem?_eq_some_iff.1 hj).1
  exact ⟨j, hlt, by unfold puncts; rw [List.getElem?_append_left (by exact hlt)]; exact hj⟩

theorem single_at {d : UInt8} (h : d ∈ singles) : ∃ j : Nat, puncts[j]? = some [d] := by
  have : [d] ∈ puncts := List.mem_append_right _ (List.mem_map.2 ⟨d, h, rfl⟩)
  exact List.mem_iff_getElem?.1 this

theorem punct_hit {l p : List UInt8} {k : Nat} (hno : ∀ (j : Nat) q, j < k → puncts[j]? = some q → l.take q.length ≠ q) (hk : puncts[k]? = some p) (hm : l.take p.length = p) : pu l = (107, p.length) := by
  unfold pu
  rcases puncts_at hk with ⟨_, hp⟩ | ⟨hk6, d, hd, rfl⟩
  · have h2 := pair_len p hp
    rw [h2] at hm ⊢
    rw [hm, if_pos (by simpa using hp)]
  · cases l with
    | nil => simp at hm
    | cons c r =>
      obtain rfl : c = d := by simpa using hm
      rw [if_neg, if_pos (by simpa using hd)]
      · rfl
      · intro h
        have hmem : (c :: r).take 2 ∈ pairs := by simpa using h
        obtain ⟨j, hj, hj2⟩ := pair_at hmem
        exact hno j _ (by omega) hj2 (by rw [pair_len _ hmem])

theorem punct_miss {l : List UInt8} (hl : l ≠ []) (hno : ∀ (j : Nat) q, puncts[j]? = some q → l.take q.length ≠ q) : pu l = (108, 1) := by
  unfold pu
  rw [if_neg, if_neg]
  · intro h
    cases l with
    | nil => exact hl rfl
    | cons c r =>
      have hd : c ∈ singles := by simpa using h
      obtain ⟨j, hj⟩ := single_at hd
      exact hno j _ hj (by simp)
  · intro h
    have hmem : l.take 2 ∈ pairs := by simpa using h
    obtain ⟨j, _, hj2⟩ := pair_at hmem
    exact hno j _ hj2 (by rw [pair_len _ hmem])

theorem puncts_some (w : World) : Calls Try.prog 39 #[] w fun e w' => ∃ b, e = .returned (.slice (some ⟨b, 0, none⟩) 26 26) ∧ Hid (Strs w' w'.heap.size (some ⟨b, 0, none⟩) puncts) ∧ Below w.heap.size w w' :=
  (puncts_any w).mono fun e w' h => by
    obtain ⟨rfl, rfl⟩ := h
    exact ⟨_, rfl, pu_strs w, pu_below w⟩

section
variable {s : ByteArray} {c : UInt8}

set_option maxHeartbeats 2000000 in
set_option maxRecDepth 100000 in
theorem r_quote (w : World) (hs : s.size ≤ 1000000) (hne : 0 < s.size) (r0 : Hid (run spI (L s) = 0)) (h2 : (1 < s.size ∧ ((s.extract 0 2).toList == [47, 47]) = false) ∨ ¬ 1 < s.size) (r3 : Hid (run dgI (L s) = 0)) (r2 : Hid (run wdI (L s) = 0)) (hc : s[0]'hne = c) (g : ((c.toNat : Int) == 34) = true) (r4 : 0 < lit ((L s).drop 1) 1 false) : Calls Try.prog 23 #[.string s] w (RTok s 106 (lit ((L s).drop 1) 1 false) w) := by
  have bs1 : (s.size : Int) ≤ 1000000 := by omega
  have bs0 : (0 : Int) < s.size := by omega
  have K0 : Hid (∀ W, Calls Try.prog 36 #[.string s, .int .i64 0] W fun e w' => e = .returned (.int .i64 0) ∧ w' = W) := fun W => by have := rrun_0 s W hs; rw [r0.out] at this; exact this
  have K3 : Hid (∀ W, Calls Try.prog 36 #[.string s, .int .i64 3] W fun e w' => e = .returned (.int .i64 0) ∧ w' = W) := fun W => by have := rrun_3 s W hs; rw [r3.out] at this; exact this
  have K2 : Hid (∀ W, Calls Try.prog 36 #[.string s, .int .i64 2] W fun e w' => e = .returned (.int .i64 0) ∧ w' = W) := fun W => by have := rrun_2 s W hs; rw [r2.out] at this; exact this
  have K38 := Lib.hid (fun W => literal_any s W hs)
  have hn1 : lit ((L s).drop 1) 1 false ≤ s.size := by
    have := lit_le ((L s).drop 1) 1 false
    rw [List.length_drop, L_len] at this
    omega
  have p0 : (0 : Int) < lit ((L s).drop 1) 1 false := by omega
  generalize lit ((L s).drop 1) 1 false = n at *
  have hn : n ≤ s.size := hn1
  rcases h2 with ⟨h3, h2⟩ | h3
  · have h4 : (1 : Int) < s.size := by omega
    clear h3
    go_enter Try.func23, Try.ntmps23
    go_wp2_with fail
    have HB := Lib.hid (begun s w)
    generalize ((w.alloc (.cells #[.string s] 9)).alloc (.cells #[.int .i64 0, .string ⟨#[]⟩] 30)) = w2 at *
    obtain ⟨c0, _, _⟩ := HB.out
    refine (K0.out _).mono ?_
    rintro e w1 ⟨rfl, rfl⟩
    go_wp2_with fail
    refine (K3.out _).mono ?_
    rintro e w1 ⟨rfl, rfl⟩
    go_wp2_with fail
    refine (K2.out _).mono ?_
    rintro e w1 ⟨rfl, rfl⟩
    go_wp2_with fail
    refine (K38.out _).mono ?_
    rintro e w1 ⟨rfl, rfl⟩
    go_wp2_with fail
    refine ((closure_any 106 n w.heap.size s w1 hs (by first | exact hn | omega | exact class_in) HB.out.1)).mono ?_
    rintro e w9 ⟨rfl, hb9⟩
    have HB9 := Lib.hid (HB.out.to hb9)
    obtain ⟨z0, z1, z2, z3, z4⟩ := HB9.out.2.1
    have s0 := HB9.out.2.1.put0
    have s1 := HB9.out.2.1.put1
    go_wp2_with fail
    refine bodyPost_ret (by simp [results, Try.results23, go_sem, s0, s1]; try rfl) rfl ?_
    exact ⟨rfl, HB9.out.stored _ _⟩
  · have h4 : ¬ (1 : Int) < s.size := by omega
    clear h3
    go_enter Try.func23, Try.ntmps23
    go_wp2_with fail
    have HB := Lib.hid (begun s w)
    generalize ((w.alloc (.cells #[.string s] 9)).alloc (.cells #[.int .i64 0, .string ⟨#[]⟩] 30)) = w2 at *
    obtain ⟨c0, _, _⟩ := HB.out
    refine (K0.out _).mono ?_
    rintro e w1 ⟨rfl, rfl⟩
    go_wp2_with fail
    refine (K3.out _).mono ?_
    rintro e w1 ⟨rfl, rfl⟩
    go_wp2_with fail
    refine (K2.out _).mono ?_
    rintro e w1 ⟨rfl, rfl⟩
    go_wp2_with fail
    refine (K38.out _).mono ?_
    rintro e w1 ⟨rfl, rfl⟩
    go_wp2_with fail
    refine ((closure_any 106 n w.heap.size s w1 hs (by first | exact hn | omega | exact class_in) HB.out.1)).mono ?_
    rintro e w9 ⟨rfl, hb9⟩
    have HB9 := Lib.hid (HB.out.to hb9)
    obtain ⟨z0, z1, z2, z3, z4⟩ := HB9.out.2.1
    have s0 := HB9.out.2.1.put0
    have s1 := HB9.out.2.1.put1
    go_wp2_with fail
    refine bodyPost_ret (by simp [results, Try.results23, go_sem, s0, s1]; try rfl) rfl ?_
    exact ⟨rfl, HB9.out.stored _ _⟩

set_option maxHeartbeats 2000000 in
set_option maxRecDepth 100000 in
theorem r_bad (w : World) (hs : s.size ≤ 1000000) (hne : 0 < s.size) (r0 : Hid (run spI (L s) = 0)) (h2 : (1 < s.size ∧ ((s.extract 0 2).toList == [47, 47]) = false) ∨ ¬ 1 < s.size) (r3 : Hid (run dgI (L s) = 0)) (r2 : Hid (run wdI (L s) = 0)) (hc : s[0]'hne = c) (g : ((c.toNat : Int) == 34) = true) (r4 : Hid (lit ((L s).drop 1) 1 false = 0)) : Calls Try.prog 23 #[.string s] w (RTok s 108 (run nnI (L s)) w) := by
  have bs1 : (s.size : Int) ≤ 1000000 := by omega
  have bs0 : (0 : Int) < s.size := by omega
  have K0 : Hid (∀ W, Calls Try.prog 36 #[.string s, .int .i64 0] W fun e w' => e = .returned (.int .i64 0) ∧ w' = W) := fun W => by have := rrun_0 s W hs; rw [r0.out] at this; exact this
  have K3 : Hid (∀ W, Calls Try.prog 36 #[.string s, .int .i64 3] W fun e w' => e = .returned (.int .i64 0) ∧ w' = W) := fun W => by have := rrun_3 s W hs; rw [r3.out] at this; exact this
  have K2 : Hid (∀ W, Calls Try.prog 36 #[.string s, .int .i64 2] W fun e w' => e = .returned (.int .i64 0) ∧ w' = W) := fun W => by have := rrun_2 s W hs; rw [r2.out] at this; exact this
  have K38 := Lib.hid (fun W => literal_any s W hs)
  have hn1 : lit ((L s).drop 1) 1 false ≤ s.size := by
    have := lit_le ((L s).drop 1) 1 false
    rw [List.length_drop, L_len] at this
    omega
  have K1 := Lib.hid (fun W => rrun_1 s W hs)
  have l1 : (run nnI (L s) : Int) ≤ s.size := by have := class_in (p := nnI) (s := s); omega
  rw [r4.out] at K38 hn1
  generalize run nnI (L s) = n at *
  have hn : n ≤ s.size := by omega
  rcases h2 with ⟨h3, h2⟩ | h3
  · have h4 : (1 : Int) < s.size := by omega
    clear h3
    go_enter Try.func23, Try.ntmps23
    go_wp2_with fail
    have HB := Lib.hid (begun s w)
    generalize ((w.alloc (.cells #[.string s] 9)).alloc (.cells #[.int .i64 0, .string ⟨#[]⟩] 30)) = w2 at *
    obtain ⟨c0, _, _⟩ := HB.out
    refine (K0.out _).mono ?_
    rintro e w1 ⟨rfl, rfl⟩
    go_wp2_with fail
    refine (K3.out _).mono ?_
    rintro e w1 ⟨rfl, rfl⟩
    go_wp2_with fail
    refine (K2.out _).mono ?_
    rintro e w1 ⟨rfl, rfl⟩
    go_wp2_with fail
    refine (K38.out _).mono ?_
    rintro e w1 ⟨rfl, rfl⟩
    go_wp2_with fail
    refine (K1.out _).mono ?_
    rintro e w1 ⟨rfl, rfl⟩
    go_wp2_with fail
    refine ((closure_any 108 n w.heap.size s w1 hs (by first | exact hn | omega | exact class_in) HB.out.1)).mono ?_
    rintro e w9 ⟨rfl, hb9⟩
    have HB9 := Lib.hid (HB.out.to hb9)
    obtain ⟨z0, z1, z2, z3, z4⟩ := HB9.out.2.1
    have s0 := HB9.out.2.1.put0
    have s1 := HB9.out.2.1.put1
    go_wp2_with fail
    refine bodyPost_ret (by simp [results, Try.results23, go_sem, s0, s1]; try rfl) rfl ?_
    exact ⟨rfl, HB9.out.stored _ _⟩
  · have h4 : ¬ (1 : Int) < s.size := by omega
    clear h3
    go_enter Try.func23, Try.ntmps23
    go_wp2_with fail
    have HB := Lib.hid (begun s w)
    generalize ((w.alloc (.cells #[.string s] 9)).alloc (.cells #[.int .i64 0, .string ⟨#[]⟩] 30)) = w2 at *
    obtain ⟨c0, _, _⟩ := HB.out
    refine (K0.out _).mono ?_
    rintro e w1 ⟨rfl, rfl⟩
    go_wp2_with fail
    refine (K3.out _).mono ?_
    rintro e w1 ⟨rfl, rfl⟩
    go_wp2_with fail
    refine (K2.out _).mono ?_
    rintro e w1 ⟨rfl, rfl⟩
    go_wp2_with fail
    refine (K38.out _).mono ?_
    rintro e w1 ⟨rfl, rfl⟩
    go_wp2_with fail
    refine (K1.out _).mono ?_
    rintro e w1 ⟨rfl, rfl⟩
    go_wp2_with fail
    refine ((closure_any 108 n w.heap.size s w1 hs (by first | exact hn | omega | exact class_in) HB.out.1)).mono ?_
    rintro e w9 ⟨rfl, hb9⟩
    have HB9 := Lib.hid (HB.out.to hb9)
    obtain ⟨z0, z1, z2, z3, z4⟩ := HB9.out.2.1
    have s0 := HB9.out.2.1.put0
    have s1 := HB9.out.2.1.put1
    go_wp2_with fail
    refine bodyPost_ret (by simp [results, Try.results23, go_sem, s0, s1]; try rfl) rfl ?_
    exact ⟨rfl, HB9.out.stored _ _⟩
end
end Go.Proofs.Ytjakmigkipcomaa
