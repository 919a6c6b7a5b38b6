/-
  slices.Grow from nil, and slices.Equal of two lists of tokens, by their contracts.
-/
import Derived.Test.YtibiniokbcjjeaaRxTail
import Derived.Lib.AppendZeros
namespace Go.Proofs.Ytibiniokbcjjeaa
open Go.RowKit

set_option maxHeartbeats 1000000 in
set_option maxRecDepth 100000 in
theorem grow_nil (n : Nat) (w : World) (hn : n ≤ 100000) :
    Calls Try.prog 36 #[.slice none 0 0, .int .i64 n] w fun e w' => ∃ v, e = .returned v ∧ Hid (OwnsT w' w.heap.size v []) ∧ Below w.heap.size w w' := by
  obtain ⟨i0, hi, hz0, hz1, hz2⟩ := info_parts info_tok
  by_cases h0 : n = 0
  · subst h0
    go_enter Try.func36, Try.ntmps36
    go_wp2_with fail
    go_ret
    exact ⟨_, rfl, OwnsT.nil _ _, Below.refl _ _⟩
  · have g0 : (0 : Int) < n := by omega
    have g1 : (n : Int) ≤ 100000 := by omega
    have hap := fun ty => Lib.run_append_nil_zeros (P := Try.prog) w 25 3 ty 37 i0 _ .i64 .i64 Try.underlying25 Try.underlying3 hi hz0 n (by omega) (by rw [hz1]; omega) (by omega) (by rw [hz2]; omega)
    have hge := grownCap_ge w n 0 37
    have hle := grownCap_le_maxLen w n 0 37 (by unfold maxLen; omega)
    generalize grownCap w n 0 37 = G at *
    obtain ⟨cur, hcur⟩ : ∃ cur, cur = Builtin.zeroCells (Value.agg #[.int .i64 0, .string ⟨#[]⟩]).cells n ++ Builtin.zeroCells (Value.agg #[.int .i64 0, .string ⟨#[]⟩]).cells (G - n) := ⟨_, rfl⟩
    rw [← hcur] at hap
    have hcs : cur.size = G * 2 := by
      rw [hcur, Array.size_append, size_zeroCells, size_zeroCells]
      show n * 2 + (G - n) * 2 = G * 2
      omega
    clear hcur
    have HC := Lib.hid hcs
    have HLE := Lib.hid hle
    have g2 : (n : Int) ≤ G := by omega
    have g3 : (G : Int) ≤ 9223372036854775807 := by unfold maxLen at hle; omega
    clear hcs hle hge
    go_enter Try.func36, Try.ntmps36
    go_wp2_with (at_builtin; refine Lib.wpList_append_run _ rfl _ _ _ _ rfl _ _ rfl rfl _ _ (hap _) ?_)
    go_ret
    refine ⟨_, rfl, ?_, ?_⟩
    · exact World.ownsRow_made w.drew _ _ (Nat.le_refl _) HLE.out HC.out
    · exact (below_drewN' (Below.refl _ _) 1).alloc (Nat.le_refl _) _
end Go.Proofs.Ytibiniokbcjjeaa
