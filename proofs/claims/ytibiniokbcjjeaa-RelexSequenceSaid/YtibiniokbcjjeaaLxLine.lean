/-
  lexer.firstLine by its contract: strings.Cut at a line feed.
-/
import Derived.Test.YtibiniokbcjjeaaLxBase
import Derived.Test.YtibiniokbcjjeaaShelf
import Derived.Handy
namespace Go.Proofs.Ytibiniokbcjjeaa
open Go.RowKit

theorem index_line : ∀ l : List UInt8, (run nnI l < l.length ∧ Lib.indexByte l 10 = (run nnI l : Nat)) ∨ (run nnI l = l.length ∧ Lib.indexByte l 10 = -1) := by
  intro l
  induction l with
  | nil => exact .inr ⟨rfl, rfl⟩
  | cons c r ih =>
    by_cases h : c = 10
    · subst h
      refine .inl ⟨by rw [run_zero rfl]; simp, ?_⟩
      rw [run_zero rfl, Lib.indexByte]
      rfl
    · have hn : nnI (c.toNat : Int) = true := by
        unfold nnI
        rw [decide_eq_false]
        · rfl
        · intro h2; exact h (byte_eq (d := 10) (by rw [h2]; rfl))
      have hc : (c == 10) = false := by simpa using h
      rw [run_cons hn]
      rcases ih with ⟨h1, h2⟩ | ⟨h1, h2⟩
      · refine .inl ⟨by simp; omega, ?_⟩
        rw [Lib.indexByte, hc, h2]
        simp
      · refine .inr ⟨by simp; omega, ?_⟩
        rw [Lib.indexByte, hc, h2]
        rfl

/-- The first line of s. -/
def line (s : ByteArray) : ByteArray := bs ((L s).take (run nnI (L s)))

def Cuts (s : ByteArray) (w : World) (e : Ending) (w' : World) : Prop := ∃ r b, e = .returned (.tuple #[.string (line s), .string r, .bool b]) ∧ Below w.heap.size w w'

set_option maxHeartbeats 1000000 in
theorem cut_inner (s : ByteArray) (w : World) (hs : s.size ≤ 1000000) : Calls Try.prog 43 #[.string s, .string ⟨#[10]⟩] w (Cuts s w) := by
  have K := Lib.hid (Try.stringslite_Index_one s 10 w)
  rcases index_line (L s) with ⟨h1, h2⟩ | ⟨h1, h2⟩
  · rw [show s.data.toList = L s from rfl, h2] at K
    have HL : Hid (line s = s.extract 0 (run nnI (L s))) := by show _ = _; rw [take_is]; rfl
    rw [L_len] at h1
    generalize run nnI (L s) = k at *
    have b1 : (k : Int) < s.size := by omega
    have b2 : (s.size : Int) ≤ 1000000 := by omega
    clear h2
    go_enter Try.func43, Try.ntmps43
    go_wp2_with fail
    refine K.out.mono ?_
    rintro e w1 ⟨rfl, rfl⟩
    go_wp2_with fail
    go_quiet (fail)
    go_wp2_with fail
    go_ret3
    exact ⟨_, _, by rw [HL.out]; rfl, below_drewN' (Below.refl _ _) _⟩
  · rw [show s.data.toList = L s from rfl, h2] at K
    have HL : Hid (line s = s) := by show _ = _; unfold line; rw [h1, List.take_length, bs_L]
    clear h1 h2
    go_enter Try.func43, Try.ntmps43
    go_wp2_with fail
    refine K.out.mono ?_
    rintro e w1 ⟨rfl, rfl⟩
    go_wp2_with fail
    go_ret3
    exact ⟨_, _, by rw [HL.out]; rfl, Below.refl _ _⟩

theorem cut_any (s : ByteArray) (w : World) (hs : s.size ≤ 1000000) : Calls Try.prog 38 #[.string s, .string ⟨#[10]⟩] w (Cuts s w) := by
  have K := Lib.hid (cut_inner s w hs)
  go_enter Try.func38, Try.ntmps38
  go_wp2_with fail
  refine K.out.mono ?_
  rintro e w1 ⟨r, b, rfl, hb⟩
  go_wp2_with fail
  go_ret3
  exact ⟨_, _, rfl, hb⟩

theorem line_any (s : ByteArray) (w : World) (hs : s.size ≤ 1000000) : Calls Try.prog 26 #[.string s] w fun e w' => e = .returned (.string (line s)) ∧ Below w.heap.size w w' := by
  have K := Lib.hid (cut_any s w hs)
  go_enter Try.func26, Try.ntmps26
  go_wp2_with fail
  refine K.out.mono ?_
  rintro e w1 ⟨r, b, rfl, hb⟩
  go_wp2_with fail
  go_ret
  exact ⟨rfl, hb⟩
end Go.Proofs.Ytibiniokbcjjeaa
