import Derived.Test.YtbomilleckgalaaGreatTeFits
namespace Go.Proofs.YtbomilleckgalaaGreat.Te
open Go.RowKit

theorem sep_inside {n : Int} {l : List Ed} : ∀ {p : Int}, -1 ≤ p → sepFrom n p l = true → Inside n l := by
  induction l with
  | nil => intro p _ _ x hx; simp at hx
  | cons y r ih =>
    intro p hp h x hx
    unfold sepFrom at h
    split at h
    · simp at h
    · rename_i hc
      rcases List.mem_cons.1 hx with rfl | hx
      · omega
      · exact ih (p := y.e) (by omega) h x hx

theorem errV_bd (n : Int) (l : List Ed) : 0 ≤ errV n l ∧ errV n l ≤ 3 := by
  unfold errV
  repeat (first | omega | split)

set_option maxHeartbeats 400000 in
theorem valid_any (s : ByteArray) (a : Option Addr) (cap : Nat) (l : List Ed) (w : World) (hs : s.size ≤ maxLen) (hl : l.length ≤ maxLen) (h : Eds w w.heap.size a l) :
    Calls Tryz.prog 50 #[.string s, .slice a l.length cap] w fun e w' => e = .returned (.int .i64 (errV s.size l)) ∧ Below w.heap.size w w' := by
  unfold maxLen at hs hl
  by_cases h1 : (2000 : Int) < s.size
  · have he : errV s.size l = 2 := by unfold errV; rw [if_pos (Or.inl h1)]
    have HE := Lib.hid he
    clear he
    go_enter Tryz.func50, Tryz.ntmps50
    go_wp2_with fail
    go_ret
    exact ⟨by rw [HE.out]; rfl, Below.refl _ _⟩
  by_cases h2 : (50 : Int) < l.length
  · have he : errV s.size l = 2 := by unfold errV; rw [if_pos (Or.inr h2)]
    have HE := Lib.hid he
    clear he
    go_enter Tryz.func50, Tryz.ntmps50
    go_wp2_with fail
    go_ret
    exact ⟨by rw [HE.out]; rfl, Below.refl _ _⟩
  have hn : ¬ (2000 < (s.size : Int) ∨ (50 : Int) < l.length) := by omega
  cases hsep : sepFrom s.size (-1) l with
  | false =>
    have he : errV s.size l = 3 := by unfold errV; rw [if_neg hn, if_pos hsep]
    have HE := Lib.hid he
    clear he
    have hc := sep_any s.size a cap l w (by omega) h
    rw [hsep] at hc
    have HC := Lib.hid hc
    clear hc hsep
    go_enter Tryz.func50, Tryz.ntmps50
    go_wp2_with fail
    refine HC.out.mono ?_
    rintro e w' ⟨rfl, hb⟩
    go_wp2_with fail
    go_ret
    exact ⟨by rw [HE.out]; rfl, hb⟩
  | true =>
    have hin := sep_inside (by omega) hsep
    have hc := sep_any s.size a cap l w (by omega) h
    rw [hsep] at hc
    have HC := Lib.hid hc
    clear hc
    have hf := fun w' (hb : Below w.heap.size w w') => fits_any s.size a cap l w' (by omega) (by omega) (by omega) hin (fun i x hx => by
      obtain ⟨p, b, o, q1, q2, q3⟩ := (h.below hb) i x hx
      exact ⟨p, b, o, q1, Nat.lt_of_lt_of_le q2 hb.size, q3⟩)
    have he : errV s.size l = if fitsB s.size l = false then 2 else 0 := by unfold errV; rw [if_neg hn, if_neg (by simp [hsep])]
    have HE := Lib.hid he
    have HF := Lib.hid hf
    clear he hf hsep
    go_enter Tryz.func50, Tryz.ntmps50
    go_wp2_with fail
    refine HC.out.mono ?_
    rintro e w' ⟨rfl, hb⟩
    go_wp2_with fail
    refine (HF.out w' hb).mono ?_
    rintro e w2 ⟨rfl, hb2⟩
    have hb3 := hb.trans (hb2.mono hb.size)
    cases hfit : fitsB s.size l with
    | false =>
      go_wp2_with fail
      go_ret
      exact ⟨by rw [HE.out, hfit]; rfl, hb3⟩
    | true =>
      go_wp2_with fail
      go_ret
      exact ⟨by rw [HE.out, hfit]; rfl, hb3⟩
end Go.Proofs.YtbomilleckgalaaGreat.Te
