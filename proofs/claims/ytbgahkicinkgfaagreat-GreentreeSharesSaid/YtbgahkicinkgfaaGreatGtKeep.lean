/-
  What the laws on green trees share: a text cut short; what the parser is asked to leave.
-/
import Derived.Test.YtbgahkicinkgfaaGreatGtExample
import Derived.Test.YtbgahkicinkgfaaGreatGtSame2
import Derived.Test.YtbgahkicinkgfaaGreatGtIn
namespace Go.Proofs.YtbgahkicinkgfaaGreat
open Go.RowKit

theorem held_to {w w' : World} {b : Nat} {o : Obj} (h : w.heap[b]? = some o) (hb : Below w.heap.size w w') : w'.heap[b]? = some o := keeps_below hb (Array.getElem?_eq_some_iff.1 h).1 h
theorem held_al {w : World} {b : Nat} {o : Obj} (h : w.heap[b]? = some o) (o' : Obj) : (w.alloc o').heap[b]? = some o := alloc_keeps o' h

/-- No longer than n bytes. -/
def cutB (n : Nat) (s : ByteArray) : ByteArray := if s.size ≤ n then s else s.extract 0 n
theorem cutB_size (n : Nat) (s : ByteArray) : (cutB n s).size ≤ n := by
  unfold cutB
  split
  · assumption
  · rw [ByteArray.size_extract]; omega

theorem short_any (s : ByteArray) (n : Nat) (w : World) (hs : s.size ≤ maxLen) (hn : n ≤ 1000) : Calls Tryz.prog 8 #[.string s, .int .i64 n] w fun e w' => e = .returned (.string (cutB n s)) ∧ w = w' := by
  have hs' : (s.size : Int) ≤ 9223372036854775807 := by unfold maxLen at hs; omega
  have g0 : (n : Int) ≤ 1000 := by omega
  by_cases h : s.size ≤ n
  · have HV : Hid (cutB n s = s) := by show _ = _; rw [cutB, if_pos h]
    have h1 : (s.size : Int) ≤ n := by omega
    have hm : min (s.size : Int) n = s.size := by omega
    go_enter Tryz.func8, Tryz.ntmps8
    go_wp2_with fail
    go_ret
    exact ⟨by rw [HV.out]; simp, rfl⟩
  · have HV : Hid (cutB n s = s.extract 0 n) := by show _ = _; rw [cutB, if_neg h]
    have h1 : (n : Int) < s.size := by omega
    have hm : min (s.size : Int) n = n := by omega
    go_enter Tryz.func8, Tryz.ntmps8
    go_wp2_with fail
    go_ret
    exact ⟨by rw [HV.out]; rfl, rfl⟩

/-- What the parser is asked to leave: a well made tree of bounded size and height, no error. -/
def ParsePost (w : World) (e : Ending) (w' : World) : Prop :=
  Below w.heap.size w w' ∧ ∃ (n : Nat) (x : Tree) (ra : Option Addr) (rc : Nat), e = .returned (.tuple #[tv x ra rc, .int .i64 0]) ∧ x.ok ∧ x.wf = true ∧ x.size ≤ 1300 ∧ x.height ≤ 200 ∧ Kids w' (· < w'.heap.size) n ra x.c
end Go.Proofs.YtbgahkicinkgfaaGreat
