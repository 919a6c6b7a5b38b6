/-
  What the parser's texts and the laws on trees share with those on green trees: blocks of two cells, a tree in a box, a text cut short.
-/
import Derived.Test.YtcpojagfnpajeaaGreatDoorRZGtLow
import Derived.StillTailTactics
import Derived.Deep.DeepCutAuto
namespace Go.Proofs.YtcpojagfnpajeaaGreatDoorR
open Go.RowKit

theorem owns_of_block {w w' : World} {B e size n : Nat} {c : Value} {xs : List Value} (h : w.ownsRow B e size c n xs) (hb : ∀ g, c.ownBlock = some g → w'.heap[g]? = w.heap[g]?) : w'.ownsRow B e size c n xs := by
  refine ⟨h.1, ?_⟩
  rcases h.2 with hn | ⟨g, cap, cur, rfl, hg, hgg, rest⟩
  · exact .inl hn
  · exact .inr ⟨g, cap, cur, rfl, hg, (hb g rfl).trans hgg, rest⟩

def treeBox (k : Int) (t : ByteArray) (v : Value) : Obj := .cells #[.int .i64 k, .string t, v] 25

/-- No longer than n bytes. -/
def cutB (n : Nat) (s : ByteArray) : ByteArray := if s.size ≤ n then s else s.extract 0 n
theorem cutB_size (n : Nat) (s : ByteArray) : (cutB n s).size ≤ n := by
  unfold cutB
  split
  · assumption
  · rw [ByteArray.size_extract]; omega

theorem short_any (s : ByteArray) (n : Nat) (w : World) (hs : s.size ≤ maxLen) (hn : n ≤ 1000) : Calls Tryz.prog 18 #[.string s, .int .i64 n] w fun e w' => e = .returned (.string (cutB n s)) ∧ w = w' := by
  have hs' : (s.size : Int) ≤ 9223372036854775807 := by unfold maxLen at hs; omega
  have g0 : (n : Int) ≤ 1000 := by omega
  by_cases h : s.size ≤ n
  · have HV : Hid (cutB n s = s) := by show _ = _; rw [cutB, if_pos h]
    have h1 : (s.size : Int) ≤ n := by omega
    have hm : min (s.size : Int) n = s.size := by omega
    go_enter Tryz.func18, Tryz.ntmps18
    go_wp2_with fail
    go_ret
    exact ⟨by rw [HV.out]; simp, rfl⟩
  · have HV : Hid (cutB n s = s.extract 0 n) := by show _ = _; rw [cutB, if_neg h]
    have h1 : (n : Int) < s.size := by omega
    have hm : min (s.size : Int) n = n := by omega
    go_enter Tryz.func18, Tryz.ntmps18
    go_wp2_with fail
    go_ret
    exact ⟨by rw [HV.out]; rfl, rfl⟩

end Go.Proofs.YtcpojagfnpajeaaGreatDoorR
