/-
  glossatorref1.Mod as a function, glossatorref1.Splice, an edit that is written in place, and an argument of type []api.TextEdit with its capacity.
-/
import Derived.Test.YtbomilleckgalaaGreatTeNext
import Derived.Test.YtbomilleckgalaaGreatTeOpen
import Derived.BigQuiet
namespace Go.Proofs.YtbomilleckgalaaGreat.Te
open Go.ChangeShapes Go.WideShapes Go.ChangeAt Go.RowKit Go.Deep Go.Proofs.YtbomilleckgalaaGreat.Lx

/-- n modulo m, as Mod has it. -/
def gm (n : Int) (m : Nat) : Nat := (if Int.tmod n m < 0 then Int.tmod n m + m else Int.tmod n m).toNat

theorem gm_lt (n : Int) {m : Nat} (hm : 1 ≤ m) : gm n m < m := by
  have hlt : Int.tmod n m < m := Int.tmod_lt_of_pos n (by omega)
  unfold gm
  split <;> omega

theorem mod_det (n : Int) (m : Nat) (w : World) (hm : 1 ≤ m) (hm2 : m ≤ 1000000) (hn : -9223372036854775808 ≤ n ∧ n ≤ 9223372036854775807) :
    Calls Tryz.prog 16 #[.int .i64 n, .int .i64 m] w fun e w' => e = .returned (.int .i64 (gm n m)) ∧ w' = w := by
  obtain ⟨hn1, hn2⟩ := hn
  have hm3 : (1 : Int) ≤ m := by omega
  have hm4 : (m : Int) ≤ 1000000 := by omega
  have h0 : ((m : Int) == 0) = false := by simp; omega
  have hlt : Int.tmod n m < m := Int.tmod_lt_of_pos n (by omega)
  have hgt : -(m : Int) < Int.tmod n m := Int.lt_tmod_of_pos n (by omega)
  have hg : Hid (gm n m = (if Int.tmod n m < 0 then Int.tmod n m + m else Int.tmod n m).toNat) := rfl
  obtain ⟨r, hr⟩ : ∃ r, Int.tmod n m = r := ⟨_, rfl⟩
  rw [hr] at hlt hgt hg
  by_cases hneg : r < 0
  · rw [if_pos hneg] at hg
    go_enter Tryz.func16, Tryz.ntmps16
    go_wp2_with fail
    go_ret
    refine ⟨?_, rfl⟩
    rw [hg.out, Int.toNat_of_nonneg (by omega)]
    rfl
  · rw [if_neg hneg] at hg
    go_enter Tryz.func16, Tryz.ntmps16
    go_wp2_with fail
    go_ret
    refine ⟨?_, rfl⟩
    rw [hg.out, Int.toNat_of_nonneg (by omega)]
    rfl

theorem set_three0 {w : World} {b : Nat} {v0 v1 v2 u : Value} {t : TypeId} (h : w.heap[b]? = some (.cells #[v0, v1, v2] t (0, 0))) : (w.setCell ⟨b, 0, none⟩ u).heap[b]? = some (.cells #[u, v1, v2] t (0, 0)) := by
  simp [World.setCell, Array.getElem?_modify, h]
theorem set_three1 {w : World} {b : Nat} {v0 v1 v2 u : Value} {t : TypeId} (h : w.heap[b]? = some (.cells #[v0, v1, v2] t (0, 0))) : (w.setCell ⟨b, 1, none⟩ u).heap[b]? = some (.cells #[v0, u, v2] t (0, 0)) := by
  simp [World.setCell, Array.getElem?_modify, h]
theorem set_three2 {w : World} {b : Nat} {v0 v1 v2 u : Value} {t : TypeId} (h : w.heap[b]? = some (.cells #[v0, v1, v2] t (0, 0))) : (w.setCell ⟨b, 2, none⟩ u).heap[b]? = some (.cells #[v0, v1, u] t (0, 0)) := by
  simp [World.setCell, Array.getElem?_modify, h]

theorem add_three (a b c : ByteArray) (h : a.size + b.size + c.size ≤ 100000) :
    (∀ W, (Op.stringOp .add a b).run Tryz.prog W = .ok (.string (a ++ b)) W) ∧ (∀ W, (Op.stringOp .add (a ++ b) c).run Tryz.prog W = .ok (.string (a ++ b ++ c)) W) :=
  ⟨fun W => run_string_add W _ _ (by omega) (by omega), fun W => run_string_add W _ _ (by rw [ByteArray.size_append]; omega) (by omega)⟩

set_option maxHeartbeats 1000000 in
set_option maxRecDepth 100000 in
theorem splice_any (z t : ByteArray) (s e : Nat) (w : World) (h0 : s ≤ e) (h1 : e ≤ z.size) (h2 : z.size ≤ 2000) (h3 : t.size ≤ 2000) :
    Calls Tryz.prog 11 #[.string z, .agg #[.int .i64 s, .int .i64 e, .string t]] w fun r w' => ∃ y, r = .returned (.string y) ∧ L y = next (L z) ⟨s, e, t⟩ ∧ Below w.heap.size w w' := by
  have a1 : (z.extract 0 s).size = s := by simp; omega
  have a2 : (z.extract e z.size).size = z.size - e := by simp
  obtain ⟨d1, d2⟩ := add_three (z.extract 0 s) t (z.extract e z.size) (by omega)
  have hy : Hid (L (z.extract 0 s ++ t ++ z.extract e z.size) = next (L z) ⟨s, e, t⟩) := by
    show _ = _
    rw [L_append, L_append, take_is, drop_is, L_bs, L_bs, List.append_assoc]
    rfl
  have i0 : (s : Int) ≤ e := by omega
  have i1 : (e : Int) ≤ z.size := by omega
  have i2 : (z.size : Int) ≤ 2000 := by omega
  have i3 : (s : Int) ≤ z.size := by omega
  clear a1 a2
  go_enter Tryz.func11, Tryz.ntmps11
  go_wp2_with fail
  have hb : Below w.heap.size w (w.alloc (.cells #[.int .i64 s, .int .i64 e, .string t] 23)) := (Below.refl _ _).alloc (Nat.le_refl _) _
  go_quiet (fail)
  go_wp2_with fail
  go_ret
  exact ⟨_, rfl, hy.out, below_drewN' hb _⟩

section
variable {H : Type} {enc : TypeId × Value → H}
theorem open_eds3 {W : World} {v : Value} {d : DataW H} {p : List MemPlace} (hv : ∃ a len cap, v = .slice a len cap) (h : DataW.Trod enc Tryz.prog W 0 (fun _ => true) true 36 v d p) :
    ∃ a l cap, v = .slice a (List.length l) cap ∧ (l.length ≤ maxLen ∧ l.length ≤ cap) ∧ Eds W W.heap.size a l := by
  obtain ⟨a, l, cap, rfl, hl, hE⟩ := open_eds hv h
  refine ⟨a, l, cap, rfl, ⟨hl, ?_⟩, hE⟩
  obtain ⟨fuel, hf⟩ := h
  rcases open_slice Tryz.underlying36 hf with ⟨hcs, _⟩ | ⟨x, len', cap', m, n, D, Pl, hcs, _, hl, hm, hmm, _, hi⟩
  · simp [Value.cells] at hcs
    rw [hcs.2.1]
    exact Nat.zero_le _
  · simp [Value.cells] at hcs
    obtain ⟨_, h1, h2⟩ := hcs
    rw [h1, h2]
    exact hl
end
end Go.Proofs.YtbomilleckgalaaGreat.Te
