/-
  A bound on the texts of a list of edits that is read.
-/
import Derived.Test.YtdmmoknddkfnmaaBase
namespace Go.Proofs.Ytdmmoknddkfnmaa

/-- No new text is longer than a string that is read may be. -/
def Reach (l : List Ed) : Prop := ∀ x, x ∈ l → x.t.size ≤ 140737488351232

theorem tsum_reach {l : List Ed} (h : Reach l) : tsum l ≤ l.length * 140737488351232 := by
  induction l with
  | nil => simp [tsum]
  | cons x r ih =>
    have h1 := ih (fun y hy => h y (List.mem_cons_of_mem _ hy))
    have h2 := h x (List.mem_cons_self)
    simp only [tsum, List.length_cons, Nat.add_mul]
    omega

theorem take_reach {l : List Ed} (h : Reach l) (hl : l.length ≤ 50) (k : Nat) : tsum (l.take k) ≤ 7036874417561600 := by
  have h1 := tsum_reach (l := l.take k) (fun x hx => h x (List.mem_of_mem_take hx))
  have h2 : (l.take k).length ≤ 50 := Nat.le_trans (List.length_take_le' _ _) hl
  have h3 : (l.take k).length * 140737488351232 ≤ 50 * 140737488351232 := Nat.mul_le_mul_right _ h2
  omega

end Go.Proofs.Ytdmmoknddkfnmaa
