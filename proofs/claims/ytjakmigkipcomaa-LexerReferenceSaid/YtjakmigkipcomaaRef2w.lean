/-
  glossatorref1.FirstToken at a word: a keyword, or another.
-/
import Derived.Test.YtjakmigkipcomaaRef2
namespace Go.Proofs.Ytjakmigkipcomaa
open Go.RowKit
section
variable {s : ByteArray}

set_option maxHeartbeats 2000000 in
set_option maxRecDepth 100000 in
theorem r_word (w : World) (hs : s.size ≤ 1000000) (hne : 0 < s.size) (r0 : Hid (run spI (L s) = 0)) (h2 : (1 < s.size ∧ ((s.extract 0 2).toList == [47, 47]) = false) ∨ ¬ 1 < s.size) (r3 : Hid (run dgI (L s) = 0)) (r2 : 0 < run wdI (L s)) (hcon : Hid (kws.contains ((L s).take (run wdI (L s))) = false)) : Calls Try.prog 23 #[.string s] w (RTok s 103 (run wdI (L s)) w) := by
  have bs1 : (s.size : Int) ≤ 1000000 := by omega
  have bs0 : (0 : Int) < s.size := by omega
  have K0 : Hid (∀ W, Calls Try.prog 36 #[.string s, .int .i64 0] W fun e w' => e = .returned (.int .i64 0) ∧ w' = W) := fun W => by have := rrun_0 s W hs; rw [r0.out] at this; exact this
  have K3 : Hid (∀ W, Calls Try.prog 36 #[.string s, .int .i64 3] W fun e w' => e = .returned (.int .i64 0) ∧ w' = W) := fun W => by have := rrun_3 s W hs; rw [r3.out] at this; exact this
  have K2 := Lib.hid (fun W => rrun_2 s W hs)
  have l2 : (run wdI (L s) : Int) ≤ s.size := by have := class_in (p := wdI) (s := s); omega
  have p0 : (0 : Int) < run wdI (L s) := by omega
  generalize run wdI (L s) = n at *
  have hn : n ≤ s.size := by omega
  have HX : Hid (L (s.extract 0 n) = (L s).take n) := by show _ = _; rw [take_is, L_bs]
  have K14 := Lib.hid (fun W => rkeys_some W)
  have K37 : Hid (∀ b W, Strs W W.heap.size (some ⟨b, 0, none⟩) kws → Calls Try.prog 37 #[.slice (some ⟨b, 0, none⟩) 22 22, .string (s.extract 0 n)] W fun e w' => e = .returned (.bool false) ∧ Below W.heap.size W w') := fun b W h => by
    have := rcontains_any kws (some ⟨b, 0, none⟩) 22 (s.extract 0 n) W (by decide) h
    rw [HX.out, hcon.out] at this
    exact this.mono fun e w' h => ⟨h.1, by rw [h.2]; exact Below.refl _ _⟩
  rcases h2 with ⟨h3, h2⟩ | h3
  · have h4 : (1 : Int) < s.size := by omega
    clear h3
    go_enter Try.func23, Try.ntmps23
    go_wp2_with fail
    have HB := Lib.hid (begun s w)
    generalize ((w.alloc (.cells #[.string s] 9)).alloc (.cells #[.int .i64 0, .string ⟨#[]⟩] 30)) = w2 at *
    obtain ⟨c0, _, _⟩ := HB.out
    refine (K0.out _).mono ?_
    rintro e w1 ⟨rfl, rfl⟩
    go_wp2_with fail
    refine (K3.out _).mono ?_
    rintro e w1 ⟨rfl, rfl⟩
    go_wp2_with fail
    refine (K2.out _).mono ?_
    rintro e w1 ⟨rfl, rfl⟩
    go_wp2_with fail
    have hlt := World.block_lt_of_cell? _ _ HB.out.1
    go_region_with (first
      | (go_at_call 14; refine (K14.out _).mono ?_; rintro e w4 ⟨b4, rfl, HS4, hb40⟩; have hb4 := below_drew' hb40; have d0 := (hb4.cell (p := ⟨w.heap.size, 0, none⟩) hlt).trans c0; have HB4 := Lib.hid (HB.out.to hb4); clear hb40)
      | (go_at_call 37; refine (K37.out _ _ HS4.out).mono ?_; rintro e w5 ⟨rfl, hb5⟩))
    all_goals
      have HB5 := Lib.hid (HB4.out.to hb5)
      have d5 := HB5.out.1
      go_wp2_with fail
      refine ((closure_any 103 n w.heap.size s w5 hs (by first | exact hn | omega | exact class_in) HB5.out.1)).mono ?_
      rintro e w9 ⟨rfl, hb9⟩
      have HB9 := Lib.hid (HB5.out.to hb9)
      obtain ⟨z0, z1, z2, z3, z4⟩ := HB9.out.2.1
      have s0 := HB9.out.2.1.put0
      have s1 := HB9.out.2.1.put1
      go_wp2_with fail
      refine bodyPost_ret (by simp [results, Try.results23, go_sem, s0, s1]; try rfl) rfl ?_
      exact ⟨rfl, HB9.out.stored _ _⟩
  · have h4 : ¬ (1 : Int) < s.size := by omega
    clear h3
    go_enter Try.func23, Try.ntmps23
    go_wp2_with fail
    have HB := Lib.hid (begun s w)
    generalize ((w.alloc (.cells #[.string s] 9)).alloc (.cells #[.int .i64 0, .string ⟨#[]⟩] 30)) = w2 at *
    obtain ⟨c0, _, _⟩ := HB.out
    refine (K0.out _).mono ?_
    rintro e w1 ⟨rfl, rfl⟩
    go_wp2_with fail
    refine (K3.out _).mono ?_
    rintro e w1 ⟨rfl, rfl⟩
    go_wp2_with fail
    refine (K2.out _).mono ?_
    rintro e w1 ⟨rfl, rfl⟩
    go_wp2_with fail
    have hlt := World.block_lt_of_cell? _ _ HB.out.1
    go_region_with (first
      | (go_at_call 14; refine (K14.out _).mono ?_; rintro e w4 ⟨b4, rfl, HS4, hb40⟩; have hb4 := below_drew' hb40; have d0 := (hb4.cell (p := ⟨w.heap.size, 0, none⟩) hlt).trans c0; have HB4 := Lib.hid (HB.out.to hb4); clear hb40)
      | (go_at_call 37; refine (K37.out _ _ HS4.out).mono ?_; rintro e w5 ⟨rfl, hb5⟩))
    all_goals
      have HB5 := Lib.hid (HB4.out.to hb5)
      have d5 := HB5.out.1
      go_wp2_with fail
      refine ((closure_any 103 n w.heap.size s w5 hs (by first | exact hn | omega | exact class_in) HB5.out.1)).mono ?_
      rintro e w9 ⟨rfl, hb9⟩
      have HB9 := Lib.hid (HB5.out.to hb9)
      obtain ⟨z0, z1, z2, z3, z4⟩ := HB9.out.2.1
      have s0 := HB9.out.2.1.put0
      have s1 := HB9.out.2.1.put1
      go_wp2_with fail
      refine bodyPost_ret (by simp [results, Try.results23, go_sem, s0, s1]; try rfl) rfl ?_
      exact ⟨rfl, HB9.out.stored _ _⟩
end
end Go.Proofs.Ytjakmigkipcomaa
