/-
  glossatorref1.FirstToken by its contract.
-/
import Derived.Test.YtjakmigkipcomaaRef1
import Derived.Test.YtjakmigkipcomaaRrun
import Derived.Deep.RegionWith
namespace Go.Proofs.Ytjakmigkipcomaa
open Go.RowKit

/-- The result's block, still empty. -/
def Res (w : World) (b : Nat) : Prop := w.cell? ⟨b, 0, none⟩ = some (.int .i64 0) ∧ w.cell? ⟨b, 1, none⟩ = some (.string ⟨#[]⟩) ∧ w.frozen? ⟨b, 0, none⟩ = false ∧ w.frozen? ⟨b, 1, none⟩ = false ∧ b < w.heap.size

theorem Res.to {w w' : World} {b : Nat} (h : Res w b) (hb : Below w.heap.size w w') : Res w' b :=
  ⟨(hb.cell (p := ⟨b, 0, none⟩) h.2.2.2.2).trans h.1, (hb.cell (p := ⟨b, 1, none⟩) h.2.2.2.2).trans h.2.1, (hb.frozen (p := ⟨b, 0, none⟩) h.2.2.2.2).trans h.2.2.1, (hb.frozen (p := ⟨b, 1, none⟩) h.2.2.2.2).trans h.2.2.2.1, Nat.lt_of_lt_of_le h.2.2.2.2 hb.size⟩

theorem Res.put0 {w : World} {b : Nat} (h : Res w b) (v u : Value) : ((w.setCell ⟨b, 0, none⟩ v).setCell ⟨b, 1, none⟩ u).cell? ⟨b, 0, none⟩ = some v := by
  rw [World.cell?_setCell_other]
  · exact World.cell?_setCell_same' _ _ _ (by rw [h.1]; rfl)
  · simp

theorem Res.put1 {w : World} {b : Nat} (h : Res w b) (v u : Value) : ((w.setCell ⟨b, 0, none⟩ v).setCell ⟨b, 1, none⟩ u).cell? ⟨b, 1, none⟩ = some u :=
  World.cell?_setCell_same' _ _ _ (by
    rw [World.cell?_setCell_other]
    · rw [h.2.1]; rfl
    · simp)

/-- The world in which FirstToken begins its work: the box of s in block b, the result's block behind it. -/
def Begun (s : ByteArray) (w : World) (w2 : World) : Prop := w2.cell? ⟨w.heap.size, 0, none⟩ = some (.string s) ∧ Res w2 (w.heap.size + 1) ∧ Below w.heap.size w w2

theorem begun (s : ByteArray) (w : World) : Begun s w ((w.alloc (.cells #[.string s] 9)).alloc (.cells #[.int .i64 0, .string ⟨#[]⟩] 30)) := by
  refine ⟨by go_simp, ⟨by go_simp, by go_simp, by go_simp, by go_simp, by simp⟩, ((Below.refl _ _).alloc (Nat.le_refl _) _).alloc (by simp) _⟩

theorem Begun.to {s : ByteArray} {w w2 w3 : World} (h : Begun s w w2) (hb : Below w2.heap.size w2 w3) : Begun s w w3 :=
  ⟨(hb.cell (p := ⟨w.heap.size, 0, none⟩) (Nat.lt_of_succ_lt h.2.1.2.2.2.2)).trans h.1, h.2.1.to hb, h.2.2.trans (hb.mono h.2.2.size)⟩

theorem Begun.stored {s : ByteArray} {w w2 : World} (h : Begun s w w2) (v u : Value) : Below w.heap.size w ((w2.setCell ⟨w.heap.size + 1, 0, none⟩ v).setCell ⟨w.heap.size + 1, 1, none⟩ u) :=
  (h.2.2.setCell (p := ⟨w.heap.size + 1, 0, none⟩) (Nat.le_succ _) _).setCell (p := ⟨w.heap.size + 1, 1, none⟩) (Nat.le_succ _) _

/-- What FirstToken hands back. -/
def RTok (s : ByteArray) (k : Int) (n : Nat) (w : World) (e : Ending) (w' : World) : Prop := e = .returned (.agg #[.int .i64 k, .string (s.extract 0 n)]) ∧ Below w.heap.size w w'

theorem class_in {p : Int → Bool} {s : ByteArray} : run p (L s) ≤ s.size := by have := run_le p (L s); rwa [L_len] at this

theorem rkeys_some (w : World) : Calls Try.prog 14 #[] w fun e w' => ∃ b, e = .returned (.slice (some ⟨b, 0, none⟩) 22 22) ∧ Hid (Strs w' w'.heap.size (some ⟨b, 0, none⟩) kws) ∧ Below w.heap.size w w' :=
  (rkeys_any w).mono fun e w' h => by
    obtain ⟨rfl, rfl⟩ := h
    exact ⟨_, rfl, kw_strs w, kw_below w⟩

section
variable {s : ByteArray}

set_option maxHeartbeats 2000000 in
set_option maxRecDepth 100000 in
theorem r_space (w : World) (hs : s.size ≤ 1000000) (hne : 0 < s.size) (r0 : 0 < run spI (L s)) : Calls Try.prog 23 #[.string s] w (RTok s 101 (run spI (L s)) w) := by
  have bs1 : (s.size : Int) ≤ 1000000 := by omega
  have bs0 : (0 : Int) < s.size := by omega
  have K0 := Lib.hid (fun W => rrun_0 s W hs)
  have l0 : (run spI (L s) : Int) ≤ s.size := by have := class_in (p := spI) (s := s); omega
  have p0 : (0 : Int) < run spI (L s) := by omega
  generalize run spI (L s) = n at *
  have hn : n ≤ s.size := by omega
  go_enter Try.func23, Try.ntmps23
  go_wp2_with fail
  have HB := Lib.hid (begun s w)
  generalize ((w.alloc (.cells #[.string s] 9)).alloc (.cells #[.int .i64 0, .string ⟨#[]⟩] 30)) = w2 at *
  obtain ⟨c0, _, _⟩ := HB.out
  refine (K0.out _).mono ?_
  rintro e w1 ⟨rfl, rfl⟩
  go_wp2_with fail
  refine ((closure_any 101 n w.heap.size s w1 hs (by first | exact hn | omega | exact class_in) HB.out.1)).mono ?_
  rintro e w9 ⟨rfl, hb9⟩
  have HB9 := Lib.hid (HB.out.to hb9)
  obtain ⟨z0, z1, z2, z3, z4⟩ := HB9.out.2.1
  have s0 := HB9.out.2.1.put0
  have s1 := HB9.out.2.1.put1
  go_wp2_with fail
  refine bodyPost_ret (by simp [results, Try.results23, go_sem, s0, s1]; try rfl) rfl ?_
  exact ⟨rfl, HB9.out.stored _ _⟩

set_option maxHeartbeats 2000000 in
set_option maxRecDepth 100000 in
theorem r_comment (w : World) (hs : s.size ≤ 1000000) (hne : 0 < s.size) (r0 : Hid (run spI (L s) = 0)) (h1 : 1 < s.size) (h2 : ((s.extract 0 2).toList == [47, 47]) = true) : Calls Try.prog 23 #[.string s] w (RTok s 102 (run nnI (L s)) w) := by
  have bs1 : (s.size : Int) ≤ 1000000 := by omega
  have bs0 : (0 : Int) < s.size := by omega
  have K0 : Hid (∀ W, Calls Try.prog 36 #[.string s, .int .i64 0] W fun e w' => e = .returned (.int .i64 0) ∧ w' = W) := fun W => by have := rrun_0 s W hs; rw [r0.out] at this; exact this
  have K1 := Lib.hid (fun W => rrun_1 s W hs)
  have l1 : (run nnI (L s) : Int) ≤ s.size := by have := class_in (p := nnI) (s := s); omega
  generalize run nnI (L s) = n at *
  have hn : n ≤ s.size := by omega
  have h3 : (1 : Int) < s.size := by omega
  go_enter Try.func23, Try.ntmps23
  go_wp2_with fail
  have HB := Lib.hid (begun s w)
  generalize ((w.alloc (.cells #[.string s] 9)).alloc (.cells #[.int .i64 0, .string ⟨#[]⟩] 30)) = w2 at *
  obtain ⟨c0, _, _⟩ := HB.out
  refine (K0.out _).mono ?_
  rintro e w1 ⟨rfl, rfl⟩
  go_wp2_with fail
  refine (K1.out _).mono ?_
  rintro e w1 ⟨rfl, rfl⟩
  go_wp2_with fail
  refine ((closure_any 102 n w.heap.size s w1 hs (by first | exact hn | omega | exact class_in) HB.out.1)).mono ?_
  rintro e w9 ⟨rfl, hb9⟩
  have HB9 := Lib.hid (HB.out.to hb9)
  obtain ⟨z0, z1, z2, z3, z4⟩ := HB9.out.2.1
  have s0 := HB9.out.2.1.put0
  have s1 := HB9.out.2.1.put1
  go_wp2_with fail
  refine bodyPost_ret (by simp [results, Try.results23, go_sem, s0, s1]; try rfl) rfl ?_
  exact ⟨rfl, HB9.out.stored _ _⟩

set_option maxHeartbeats 2000000 in
set_option maxRecDepth 100000 in
theorem r_digit (w : World) (hs : s.size ≤ 1000000) (hne : 0 < s.size) (r0 : Hid (run spI (L s) = 0)) (h2 : (1 < s.size ∧ ((s.extract 0 2).toList == [47, 47]) = false) ∨ ¬ 1 < s.size) (r3 : 0 < run dgI (L s)) : Calls Try.prog 23 #[.string s] w (RTok s 105 (run dgI (L s)) w) := by
  have bs1 : (s.size : Int) ≤ 1000000 := by omega
  have bs0 : (0 : Int) < s.size := by omega
  have K0 : Hid (∀ W, Calls Try.prog 36 #[.string s, .int .i64 0] W fun e w' => e = .returned (.int .i64 0) ∧ w' = W) := fun W => by have := rrun_0 s W hs; rw [r0.out] at this; exact this
  have K3 := Lib.hid (fun W => rrun_3 s W hs)
  have l3 : (run dgI (L s) : Int) ≤ s.size := by have := class_in (p := dgI) (s := s); omega
  have p0 : (0 : Int) < run dgI (L s) := by omega
  generalize run dgI (L s) = n at *
  have hn : n ≤ s.size := by omega
  rcases h2 with ⟨h3, h2⟩ | h3
  · have h4 : (1 : Int) < s.size := by omega
    clear h3
    go_enter Try.func23, Try.ntmps23
    go_wp2_with fail
    have HB := Lib.hid (begun s w)
    generalize ((w.alloc (.cells #[.string s] 9)).alloc (.cells #[.int .i64 0, .string ⟨#[]⟩] 30)) = w2 at *
    obtain ⟨c0, _, _⟩ := HB.out
    refine (K0.out _).mono ?_
    rintro e w1 ⟨rfl, rfl⟩
    go_wp2_with fail
    refine (K3.out _).mono ?_
    rintro e w1 ⟨rfl, rfl⟩
    go_wp2_with fail
    refine ((closure_any 105 n w.heap.size s w1 hs (by first | exact hn | omega | exact class_in) HB.out.1)).mono ?_
    rintro e w9 ⟨rfl, hb9⟩
    have HB9 := Lib.hid (HB.out.to hb9)
    obtain ⟨z0, z1, z2, z3, z4⟩ := HB9.out.2.1
    have s0 := HB9.out.2.1.put0
    have s1 := HB9.out.2.1.put1
    go_wp2_with fail
    refine bodyPost_ret (by simp [results, Try.results23, go_sem, s0, s1]; try rfl) rfl ?_
    exact ⟨rfl, HB9.out.stored _ _⟩
  · have h4 : ¬ (1 : Int) < s.size := by omega
    clear h3
    go_enter Try.func23, Try.ntmps23
    go_wp2_with fail
    have HB := Lib.hid (begun s w)
    generalize ((w.alloc (.cells #[.string s] 9)).alloc (.cells #[.int .i64 0, .string ⟨#[]⟩] 30)) = w2 at *
    obtain ⟨c0, _, _⟩ := HB.out
    refine (K0.out _).mono ?_
    rintro e w1 ⟨rfl, rfl⟩
    go_wp2_with fail
    refine (K3.out _).mono ?_
    rintro e w1 ⟨rfl, rfl⟩
    go_wp2_with fail
    refine ((closure_any 105 n w.heap.size s w1 hs (by first | exact hn | omega | exact class_in) HB.out.1)).mono ?_
    rintro e w9 ⟨rfl, hb9⟩
    have HB9 := Lib.hid (HB.out.to hb9)
    obtain ⟨z0, z1, z2, z3, z4⟩ := HB9.out.2.1
    have s0 := HB9.out.2.1.put0
    have s1 := HB9.out.2.1.put1
    go_wp2_with fail
    refine bodyPost_ret (by simp [results, Try.results23, go_sem, s0, s1]; try rfl) rfl ?_
    exact ⟨rfl, HB9.out.stored _ _⟩
end
end Go.Proofs.Ytjakmigkipcomaa
