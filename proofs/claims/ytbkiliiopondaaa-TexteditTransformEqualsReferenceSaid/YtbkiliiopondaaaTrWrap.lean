/-
  Transform by its contract, its results read as lists.
-/
import Derived.Test.YtbkiliiopondaaaTrPure
namespace Go.Proofs.Ytbkiliiopondaaa
open Go.RowKit

theorem transform_zero (s : ByteArray) (a1 : Option Addr) (c1 : Nat) (L : List Ed) (a2 : Option Addr) (c2 : Nat) (R : List Ed) (h : trErr s L R = 0) (hs : s.size ≤ maxLen) (hl1 : L.length ≤ maxLen) (hl2 : R.length ≤ maxLen) (w : World) (h1 : Eds w w.heap.size a1 L) (h2 : Eds w w.heap.size a2 R) :
    Calls Try.prog 17 #[.string s, .slice a1 L.length c1, .slice a2 R.length c2] w fun e w' => ∃ b c b' c', e = .returned (.tuple #[.slice b (leftR s L R).length c, .slice b' (rightR s L R).length c', .int .i64 0]) ∧ Hid (Eds w' w'.heap.size b (leftR s L R)) ∧ Hid (Eds w' w'.heap.size b' (rightR s L R)) ∧ Below w.heap.size w w' := by
  obtain ⟨v1, v2, _, _⟩ := tr_valid h
  obtain ⟨_, _, _, _, _, q1, q2⟩ := tr_zero h
  refine (transform_any s a1 c1 L a2 c2 R w hs hl1 hl2 h1 h2).mono ?_
  rintro e w' ⟨x, y, rfl, ho, ho2, hb⟩
  rw [q1] at ho
  rw [q2] at ho2
  obtain ⟨b, c, rfl, hE⟩ := ho.out.eds (valid_ok (by omega) v2)
  obtain ⟨b', c', rfl, hE'⟩ := ho2.out.eds (valid_ok (by omega) v1)
  exact ⟨b, c, b', c', by rw [h], hE, hE', hb⟩

theorem transform_fails (s : ByteArray) (a1 : Option Addr) (c1 : Nat) (L : List Ed) (a2 : Option Addr) (c2 : Nat) (R : List Ed) (h : trErr s L R ≠ 0) (hs : s.size ≤ maxLen) (hl1 : L.length ≤ maxLen) (hl2 : R.length ≤ maxLen) (w : World) (h1 : Eds w w.heap.size a1 L) (h2 : Eds w w.heap.size a2 R) :
    Calls Try.prog 17 #[.string s, .slice a1 L.length c1, .slice a2 R.length c2] w fun e w' => ∃ b c b' c', e = .returned (.tuple #[.slice b 0 c, .slice b' 0 c', .int .i64 (trErr s L R)]) ∧ Below w.heap.size w w' := by
  obtain ⟨q1, q2⟩ := tr_none h
  refine (transform_any s a1 c1 L a2 c2 R w hs hl1 hl2 h1 h2).mono ?_
  rintro e w' ⟨x, y, rfl, ho, ho2, hb⟩
  rw [q1] at ho
  rw [q2] at ho2
  obtain ⟨b, c, rfl⟩ := owns_form ho.out
  obtain ⟨b', c', rfl⟩ := owns_form ho2.out
  exact ⟨b, c, b', c', rfl, hb⟩
end Go.Proofs.Ytbkiliiopondaaa
