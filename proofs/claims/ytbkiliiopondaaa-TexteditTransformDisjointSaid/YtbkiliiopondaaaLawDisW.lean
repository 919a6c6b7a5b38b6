/-
  If every edit of left ends before the first edit of right starts, then merging both lists equals applying their concatenation: TexteditTransformDisjoint, for every source and every two lists of edits.
-/
import Derived.Test.YtbkiliiopondaaaLawDisA
import Derived.Test.YtbkiliiopondaaaLawDisB
namespace Go.Proofs.Ytbkiliiopondaaa.lawDis
open Go.RowKit

theorem addr_of {w : World} {B : Nat} {a : Option Addr} {l : List Ed} (h : Eds w B a l) (hp : 0 < l.length) : ∃ b o, a = some ⟨b, o, none⟩ := by
  obtain ⟨_, b, o, ha, _⟩ := h 0 _ (List.getElem?_eq_getElem hp)
  exact ⟨b, o, ha⟩

theorem cell_of {W : World} {B b o m : Nat} {l : List Ed} {z : Ed} (h : Eds W B (some ⟨b, o, none⟩) l) (hz : l[m]? = some z) : W.cell? ⟨b, o + m * 3, none⟩ = some (.int .i64 z.s) ∧ W.cell? ⟨b, o + m * 3 + 1, none⟩ = some (.int .i64 z.e) := by
  obtain ⟨_, b', o', hb, _, g0, g1, _⟩ := h m z hz
  simp only [Option.some.injEq, Addr.mk.injEq, and_true] at hb
  obtain ⟨rfl, rfl⟩ := hb
  exact ⟨g0, g1⟩

theorem strR_le (s : ByteArray) (l : List Ed) : (strR s l).size ≤ maxLen := by
  unfold strR
  split
  · rename_i h; exact le_max (applyS_le h)
  · exact Nat.zero_le _

theorem walk (s : ByteArray) (a1 : Option Addr) (c1 : Nat) (l1 : List Ed) (a2 : Option Addr) (c2 : Nat) (l2 : List Ed) (w : World) (hs : s.size ≤ maxLen) (hl1 : l1.length ≤ maxLen) (hl2 : l2.length ≤ maxLen) (h1 : Eds w w.heap.size a1 l1) (h2 : Eds w w.heap.size a2 l2) :
    Calls Try.prog 7 #[.string s, .slice a1 l1.length c1, .slice a2 l2.length c2] w fun e w' => e = .returned (.bool true) ∧ Below w.heap.size w w' := by
  by_cases he1 : errV s.size l1 = 0
  · by_cases he2 : errV s.size l2 = 0
    · by_cases hn1 : l1 = []
      · have := walk3 s a1 c1 l1 a2 c2 l2 w hn1 he1 he2 hs hl1 hl2 h1 h2
        rw [hn1]
        exact this
      · have hp1 := List.length_pos_iff.2 hn1
        by_cases hn2 : l2 = []
        · have := walk4 s a1 c1 l1 a2 c2 l2 w hp1 hn2 he1 he2 hs hl1 hl2 h1 h2
          rw [hn2]
          exact this
        · have hp2 := List.length_pos_iff.2 hn2
          obtain ⟨b1, o1, rfl⟩ := addr_of h1 hp1
          obtain ⟨b2, o2, rfl⟩ := addr_of h2 hp2
          obtain ⟨m, hm⟩ : ∃ m, l1.length = m + 1 := ⟨l1.length - 1, by omega⟩
          obtain ⟨m2, hm2⟩ : ∃ m, l2.length = m + 1 := ⟨l2.length - 1, by omega⟩
          have q1 := (errV_zero he1).2.1
          have q2 := (errV_zero he2).2.1
          obtain ⟨z, hz⟩ : ∃ z, l1[m]? = some z := ⟨_, List.getElem?_eq_getElem (by omega)⟩
          obtain ⟨x, hx⟩ : ∃ x, l2[0]? = some x := ⟨_, List.getElem?_eq_getElem (by omega)⟩
          have hlast : l1.getLast? = some z := by rw [List.getLast?_eq_getElem?, show l1.length - 1 = m from by omega]; exact hz
          obtain ⟨r, hr⟩ : ∃ r, l2 = x :: r := ⟨l2.drop 1, by have := drop_at hx; simpa using this⟩
          have K1 : Hid (∀ W, Eds W W.heap.size (some ⟨b1, o1, none⟩) l1 → Calls Try.prog 18 #[.string s, .slice (some ⟨b1, o1, none⟩) (m + 1) c1] W fun e w' => e = .returned (.int .i64 0) ∧ Below W.heap.size W w') := fun W hW => by
            have := valid_any s _ c1 l1 W hs hl1 hW
            rw [he1, hm] at this
            exact this
          have K2 : Hid (∀ W, Eds W W.heap.size (some ⟨b2, o2, none⟩) l2 → Calls Try.prog 18 #[.string s, .slice (some ⟨b2, o2, none⟩) (m2 + 1) c2] W fun e w' => e = .returned (.int .i64 0) ∧ Below W.heap.size W w') := fun W hW => by
            have := valid_any s _ c2 l2 W hs hl2 hW
            rw [he2, hm2] at this
            exact this
          have CZ : Hid (∀ W, Eds W W.heap.size (some ⟨b1, o1, none⟩) l1 → W.cell? ⟨b1, o1 + m * 3 + 1, none⟩ = some (.int .i64 z.e)) := fun W hW => (cell_of hW hz).2
          have CX : Hid (∀ W, Eds W W.heap.size (some ⟨b2, o2, none⟩) l2 → W.cell? ⟨b2, o2, none⟩ = some (.int .i64 x.s)) := fun W hW => by
            have := (cell_of hW hx).1
            simpa using this
          by_cases hge : x.s ≤ z.e
          · have := walk5 s b1 o1 c1 m l1 b2 o2 c2 m2 l2 z.e x.s w (by omega) hge K1 K2 CZ CX h1 h2
            rw [hm, hm2]
            exact this
          · have hA : (l1 ++ l2).length ≤ maxLen := by rw [List.length_append]; unfold maxLen; omega
            have KA : Hid (∀ W b c, Eds W W.heap.size b (l1 ++ l2) → Calls Try.prog 13 #[.string s, .slice b (l1 ++ l2).length c] W fun e w' => e = .returned (.tuple #[.string (strR s (l1 ++ l2)), .int .i64 (errV s.size (l1 ++ l2))]) ∧ Below W.heap.size W w') := fun W b c hW => apply_any s b c (l1 ++ l2) hs hA W hW
            have KT : Hid (∀ W, Eds W W.heap.size (some ⟨b1, o1, none⟩) l1 → Eds W W.heap.size (some ⟨b2, o2, none⟩) l2 → Calls Try.prog 17 #[.string s, .slice (some ⟨b1, o1, none⟩) (m + 1) c1, .slice (some ⟨b2, o2, none⟩) (m2 + 1) c2] W fun e w' => ∃ b n c b' c', e = .returned (.tuple #[.slice b n c, .slice b' (trR s l1 l2).length c', .int .i64 (trErr s l1 l2)]) ∧ Hid (Eds w' w'.heap.size b' (trR s l1 l2)) ∧ Below W.heap.size W w') := fun W hW hW2 => by
              have := transform_v s _ c1 l1 _ c2 l2 hs hl1 hl2 W hW hW2
              rw [hm, hm2] at this
              exact this
            have hcase : Hid (((errV s.size (l1 ++ l2)) != 0) = true ∨ (errV s.size (l1 ++ l2) = 0 ∧ (trErr s l1 l2 != 0) = true) ∨ (errV s.size (l1 ++ l2) = 0 ∧ trErr s l1 l2 = 0 ∧
                (∀ W, Eds W W.heap.size (some ⟨b1, o1, none⟩) l1 → Calls Try.prog 13 #[.string s, .slice (some ⟨b1, o1, none⟩) (m + 1) c1] W fun e w' => e = .returned (.tuple #[.string (applyS s l1), .int .i64 0]) ∧ Below W.heap.size W w') ∧
                (∀ W b c, Eds W W.heap.size b (trR s l1 l2) → Calls Try.prog 13 #[.string (applyS s l1), .slice b (trR s l1 l2).length c] W fun e w' => e = .returned (.tuple #[.string (strR s (l1 ++ l2)), .int .i64 0]) ∧ Below W.heap.size W w'))) := by
              by_cases hA0 : errV s.size (l1 ++ l2) = 0
              · by_cases hT0 : trErr s l1 l2 = 0
                · refine .inr (.inr ⟨hA0, hT0, fun W hW => ?_, fun W b c hW => ?_⟩)
                  · have := apply_v s _ c1 l1 he1 hs hl1 W hW
                    rw [hm] at this
                    exact this
                  · obtain ⟨_, _, _, y4, _, _, y7⟩ := tr_zero hT0
                    rw [y7] at hW ⊢
                    have := apply_v (applyS s l1) b c (rightR s l1 l2) (tr_valid hT0).1 (le_max (applyS_le he1)) (le_max (by omega)) W hW
                    rw [tr_dis hT0 hlast hr (by omega)] at this
                    rw [strR, if_pos hA0]
                    exact this
                · exact .inr (.inl ⟨hA0, by simpa using hT0⟩)
              · exact .inl (by simpa using hA0)
            have okA : Hid (∀ y, y ∈ l1 ++ l2 → y.ok) := fun y hy => by
              rcases List.mem_append.1 hy with q | q
              · exact valid_ok (by omega) he1 y q
              · exact valid_ok (by omega) he2 y q
            have := walk6 s b1 o1 c1 m l1 b2 o2 c2 m2 l2 z.e x.s w (by omega) (by omega) hm hm2 (by omega) (l1 ++ l2) rfl okA _ _ _ _ _ K1 K2 CZ CX h1 h2 KA KT hcase
            rw [hm, hm2]
            exact this
    · exact walk2 s a1 c1 l1 a2 c2 l2 w he1 he2 hs hl1 hl2 h1 h2
  · exact walk1 s a1 c1 l1 a2 c2 l2 w he1 hs hl1 h1
end Go.Proofs.Ytbkiliiopondaaa.lawDis
