/-
  Compose by its contract, its result read as a list; what it is good for.
-/
import Derived.Test.YtdmmoknddkfnmaaCanonPure
namespace Go.Proofs.Ytdmmoknddkfnmaa
open Go.RowKit

theorem final_good {s : ByteArray} {l1 l2 : List Ed} (h1 : errV s.size l1 = 0) (h2 : errV (applyS s l1).size l2 = 0) : Good s.data.toList (finalT s l1 l2) := by
  obtain ⟨_, _, a3, _⟩ := errV_zero h1
  obtain ⟨_, _, b3, _⟩ := errV_zero h2
  exact good_rew (good_rew (good_trace _) (sep_ord (p := 0) (by omega) (by omega) a3)) (sep_ord (p := 0) (by omega) (by omega) b3)

theorem comp_zero {s : ByteArray} {l1 l2 : List Ed} (h : compErr s l1 l2 = 0) : errV s.size l1 = 0 ∧ errV (applyS s l1).size l2 = 0 ∧ (compL s l1 l2).length ≤ 50 ∧ compR s l1 l2 = compL s l1 l2 := by
  have hR : compR s l1 l2 = compL s l1 l2 := by rw [compR, if_pos h]
  unfold compErr at h
  split at h
  · contradiction
  · split at h
    · contradiction
    · rename_i h1 h2
      split at h
      · cases h
      · exact ⟨by omega, by omega, by omega, hR⟩

theorem str_length (s : ByteArray) : s.data.toList.length = s.size := (Lib.size_eq s).symm

theorem comp_valid {s : ByteArray} {l1 l2 : List Ed} (h : compErr s l1 l2 = 0) : errV s.size (compL s l1 l2) = 0 ∧ applyS s (compL s l1 l2) = applyS (applyS s l1) l2 := by
  obtain ⟨h1, h2, h3, _⟩ := comp_zero h
  have hg := final_good h1 h2
  have e := str_length s
  refine ⟨?_, ?_⟩
  · have := canon_valid hg (by have := (errV_zero h1).1; omega) (final_le h2) (by rw [e]; exact h3)
    rw [e] at this
    exact this
  · have := canon_apply hg
    rw [e] at this
    rw [applyS, compL, this, final_v]
    rfl

theorem comp_none {s : ByteArray} {l1 l2 : List Ed} (h : compErr s l1 l2 ≠ 0) : compR s l1 l2 = [] := by rw [compR, if_neg h]

theorem comp_ok (s : ByteArray) (l1 l2 : List Ed) : ∀ x, x ∈ compR s l1 l2 → x.ok := by
  by_cases h : compErr s l1 l2 = 0
  · rw [(comp_zero h).2.2.2]
    exact valid_ok (by omega) (comp_valid h).1
  · rw [comp_none h]
    intro x hx
    simp at hx

theorem compose_v (s : ByteArray) (a1 : Option Addr) (c1 : Nat) (l1 : List Ed) (a2 : Option Addr) (c2 : Nat) (l2 : List Ed) (w : World) (hs : s.size ≤ maxLen) (hl1 : l1.length ≤ maxLen) (hl2 : l2.length ≤ maxLen) (h1 : Eds w w.heap.size a1 l1) (h2 : Eds w w.heap.size a2 l2) :
    Calls Try.prog 13 #[.string s, .slice a1 l1.length c1, .slice a2 l2.length c2] w fun e w' => ∃ b c, e = .returned (.tuple #[.slice b (compR s l1 l2).length c, .int .i64 (compErr s l1 l2)]) ∧ Hid (Eds w' w'.heap.size b (compR s l1 l2)) ∧ Below w.heap.size w w' := by
  refine (compose_any s a1 c1 l1 a2 c2 l2 w hs hl1 hl2 h1 h2).mono ?_
  rintro e w' ⟨v, rfl, ho, hb⟩
  obtain ⟨b, c, rfl, hE⟩ := ho.out.eds (comp_ok s l1 l2)
  exact ⟨b, c, rfl, hE, hb⟩

theorem compose_zero (s : ByteArray) (a1 : Option Addr) (c1 : Nat) (l1 : List Ed) (a2 : Option Addr) (c2 : Nat) (l2 : List Ed) (h : compErr s l1 l2 = 0) (hs : s.size ≤ maxLen) (hl1 : l1.length ≤ maxLen) (hl2 : l2.length ≤ maxLen) (w : World) (h1 : Eds w w.heap.size a1 l1) (h2 : Eds w w.heap.size a2 l2) :
    Calls Try.prog 13 #[.string s, .slice a1 l1.length c1, .slice a2 l2.length c2] w fun e w' => ∃ b c, e = .returned (.tuple #[.slice b (compL s l1 l2).length c, .int .i64 0]) ∧ Hid (Eds w' w'.heap.size b (compL s l1 l2)) ∧ Below w.heap.size w w' := by
  have := compose_v s a1 c1 l1 a2 c2 l2 w hs hl1 hl2 h1 h2
  rw [h, (comp_zero h).2.2.2] at this
  exact this

theorem compose_fails (s : ByteArray) (a1 : Option Addr) (c1 : Nat) (l1 : List Ed) (a2 : Option Addr) (c2 : Nat) (l2 : List Ed) (h : compErr s l1 l2 ≠ 0) (hs : s.size ≤ maxLen) (hl1 : l1.length ≤ maxLen) (hl2 : l2.length ≤ maxLen) (w : World) (h1 : Eds w w.heap.size a1 l1) (h2 : Eds w w.heap.size a2 l2) :
    Calls Try.prog 13 #[.string s, .slice a1 l1.length c1, .slice a2 l2.length c2] w fun e w' => ∃ b c, e = .returned (.tuple #[.slice b 0 c, .int .i64 (compErr s l1 l2)]) ∧ Below w.heap.size w w' := by
  refine (compose_v s a1 c1 l1 a2 c2 l2 w hs hl1 hl2 h1 h2).mono ?_
  rintro e w' ⟨b, c, rfl, _, hb⟩
  rw [comp_none h]
  exact ⟨b, c, rfl, hb⟩

theorem apply_v (s : ByteArray) (a : Option Addr) (cap : Nat) (l : List Ed) (he : errV s.size l = 0) (hs : s.size ≤ maxLen) (hl : l.length ≤ maxLen) (w : World) (h : Eds w w.heap.size a l) :
    Calls Try.prog 10 #[.string s, .slice a l.length cap] w fun e w' => e = .returned (.tuple #[.string (applyS s l), .int .i64 0]) ∧ Below w.heap.size w w' := apply_ok s a cap l w hs hl h he

theorem le_max {n : Nat} (h : n ≤ 2000) : n ≤ maxLen := by unfold maxLen; omega
end Go.Proofs.Ytdmmoknddkfnmaa
