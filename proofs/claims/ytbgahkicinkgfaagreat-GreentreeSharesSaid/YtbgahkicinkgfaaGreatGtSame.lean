/-
  sameTree and sameArena where both read alike.
-/
import Derived.Test.YtbgahkicinkgfaaGreatGtEq
import Derived.StillTailTactics
namespace Go.Proofs.YtbgahkicinkgfaaGreat
open Go.RowKit

def treeBox (k : Int) (t : ByteArray) (v : Value) : Obj := .cells #[.int .i64 k, .string t, v] 25

theorem box_cells (w : World) (k : Int) (t : ByteArray) (v : Value) : (w.alloc (treeBox k t v)).cell? ⟨w.heap.size, 0, none⟩ = some (.int .i64 k) ∧ (w.alloc (treeBox k t v)).cell? ⟨w.heap.size, 1, none⟩ = some (.string t) ∧ (w.alloc (treeBox k t v)).cell? ⟨w.heap.size, 2, none⟩ = some v := by
  refine ⟨?_, ?_, ?_⟩ <;> simp [treeBox, go_sem]

set_option maxRecDepth 100000 in
set_option maxHeartbeats 2000000 in
theorem tree_yes : ∀ (n : Nat) (x : Tree) (a1 : Option Addr) (c1 : Nat) (m : Nat) (a2 : Option Addr) (c2 : Nat) (w : World), x.ok → Kids w (· < w.heap.size) n a1 x.c → Kids w (· < w.heap.size) m a2 x.c →
    Calls Tryz.prog 11 #[tv x a1 c1, tv x a2 c2] w fun e w' => e = .returned (.bool true) ∧ Below w.heap.size w w' := by
  intro n
  induction n using Nat.strongRecOn with
  | ind n ih =>
  intro x a1 c1 n2 a2 c2 w hok hk1 hk2
  obtain ⟨_, _, hlen⟩ := hok
  unfold maxLen at hlen
  obtain ⟨K, rfl⟩ : ∃ K : Tree, K = x := ⟨_, rfl⟩
  obtain ⟨c, hc⟩ : ∃ c, c = K.c := ⟨_, rfl⟩
  show Calls Tryz.prog 11 #[.agg #[.int .i64 K.k, .string K.t, .slice a1 K.c.length c1], .agg #[.int .i64 K.k, .string K.t, .slice a2 K.c.length c2]] w _
  rw [← hc] at hk1 hk2 hlen ⊢
  clear hc
  generalize K.k = kk
  generalize K.t = tt
  have H1 := Lib.hid hk1
  have H2 := Lib.hid hk2
  clear hk1 hk2
  go_enter Tryz.func11, Tryz.ntmps11
  go_wp2_with fail
  obtain ⟨W0, hW0⟩ : ∃ W0, W0 = (w.alloc (treeBox kk tt (.slice a1 c.length c1))).alloc (treeBox kk tt (.slice a2 c.length c2)) := ⟨_, rfl⟩
  have HB0 : Hid (Below w.heap.size w W0) := by rw [hW0]; exact ((Below.refl _ _).alloc (Nat.le_refl _) _).alloc (by simp) _
  have HZ0 : Hid (W0.heap.size = w.heap.size + 2) := by rw [hW0]; show _ = _; simp
  have HC0 : Hid (W0.cell? ⟨w.heap.size, 2, none⟩ = some (.slice a1 c.length c1) ∧ W0.cell? ⟨w.heap.size + 1, 2, none⟩ = some (.slice a2 c.length c2)) := by
    rw [hW0]
    constructor <;> simp [treeBox, go_sem]
  go_loopw [30] (fun i wr => ∃ k : Nat, k ≤ c.length ∧ i = .int .i64 k ∧ Below W0.heap.size W0 wr)
    (fun i _ => c.length - (intOf i).toNat)
  case atStart => exact ⟨0, Nat.zero_le _, rfl, by rw [hW0]; exact Below.refl _ _⟩
  case round =>
    clear hW0
    obtain ⟨k, hk, rfl, hb⟩ := hrel
    have hz := HZ0.out
    have hzw := hb.size
    have f0 : wr.cell? ⟨w.heap.size, 2, none⟩ = some (.slice a1 c.length c1) := (hb.cell (p := ⟨_, _, none⟩) (by simp; omega)).trans HC0.out.1
    have f1 : wr.cell? ⟨w.heap.size + 1, 2, none⟩ = some (.slice a2 c.length c2) := (hb.cell (p := ⟨_, _, none⟩) (by simp; omega)).trans HC0.out.2
    have hbw : Hid (Below w.heap.size w wr) := HB0.out.trans (hb.mono (by omega))
    clear hz
    by_cases hlt : k < c.length
    · have hx : c[k]? = some c[k] := List.getElem?_eq_getElem hlt
      obtain ⟨y, hY⟩ : ∃ y, y = c[k] := ⟨_, rfl⟩
      rw [← hY] at hx
      clear hY
      obtain ⟨hok', m, b, o, sa, cap', hm, rfl, _, p0, p1, p2, hk'⟩ := (H1.out.to hbw.out).at hx
      obtain ⟨_, m2, b2, o2, sa2, cap2, _, rfl, _, q0, q1, q2, hk2⟩ := (H2.out.to hbw.out).at hx
      have hk0 : (0 : Int) ≤ (k : Int) := by omega
      have hk1 : (k : Int) < (c.length : Int) := by omega
      have HK1 := Lib.hid hk'
      have HK2 := Lib.hid hk2
      clear hx hk' hk2
      go_wp2_with fail
      go_still_tail 10, (by kernel_rfl)
      change wpList _ _ _ _ _ wr.drew
      go_wp2_with ((go_at_call 11; (with_reducible refine (ih m hm y sa cap' m2 sa2 cap2 _ hok' HK1.out.drew HK2.out.drew).mono ?_); rintro e w' ⟨rfl, hb1⟩))
      go_roundw
      case rel => exact ⟨k + 1, by omega, by go_num, hb.trans (Below.mono (below_drew' hb1) (by simpa using hzw))⟩
      case measure => simp [intOf]; omega
    · go_wp2_with fail
      go_ret
      exact ⟨rfl, hbw.out⟩

def oneBox (v : Value) : Obj := .cells #[v] 32

end Go.Proofs.YtbgahkicinkgfaaGreat
