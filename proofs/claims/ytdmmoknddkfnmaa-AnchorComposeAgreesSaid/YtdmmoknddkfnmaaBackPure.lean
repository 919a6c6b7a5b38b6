/-
  Plain mathematics: an offset that no edit touches comes back by the inverse.
-/
import Derived.Test.YtdmmoknddkfnmaaKeepPure
import Derived.Test.YtdmmoknddkfnmaaInvPure
namespace Go.Proofs.Ytdmmoknddkfnmaa
open Go.RowKit

/-- No edit touches the offset. -/
def Free (l : List Ed) (o : Int) : Prop := ∀ x, x ∈ l → ¬ (x.s ≤ o ∧ o ≤ x.e)

theorem mp_back {s : ByteArray} {N : Int} {o : Int} {r : Bool} {l : List Ed} : ∀ {q d : Int}, -1 ≤ q → sepFrom s.size q l = true → N = s.size + d + tsum l - dsum l → Free l o →
    mp (mp o r l + d) r (invFrom s d l) = o + d := by
  induction l with
  | nil => intro q d _ _ _ _; rfl
  | cons x t ih =>
    intro q d hq h hN hf
    have hord := sep_ordB h
    obtain ⟨a, b, c⟩ := ordB_cons hord
    have h3 : x.e ≤ s.size ∧ sepFrom s.size x.e t = true := by
      unfold sepFrom at h
      split at h
      · cases h
      · exact ⟨by omega, h⟩
    have hN2 : N = s.size + (d + (x.t.size - (x.e - x.s))) + tsum t - dsum t := by simp only [tsum, dsum] at hN; omega
    have hi := ih (d := d + (x.t.size - (x.e - x.s))) (by omega) h3.2 hN2 (fun y hy => hf y (List.mem_cons_of_mem _ hy))
    have hx := hf x List.mem_cons_self
    have hext := extract_size s x.s x.e (by omega) b h3.1
    have hyo := sep_ordB (inv_sep (s := s) (d := d + (x.t.size - (x.e - x.s))) h3.2 hN2)
    have ye : x.s + d ≤ x.s + d + (x.t.size : Int) := by omega
    by_cases hlt : o < x.s
    · have hp := mp_before (r := r) (o := o) (p := x.e) (by omega) c
      have e1 : mp o r (x :: t) = o := by
        rcases mp_ways (o := o) (r := r) (t := t) b with ⟨w1, w2, w3⟩ | ⟨w1, w2, w3⟩ | ⟨w1, w2, w3⟩
        · omega
        · omega
        · rw [w3, hp]
      have hp2 := mp_before (r := r) (o := o + d) (p := x.e + (d + (x.t.size - (x.e - x.s)))) (by omega) hyo
      rw [e1, invFrom]
      rcases mp_ways (o := o + d) (r := r) (x := ⟨x.s + d, x.s + d + x.t.size, s.extract x.s.toNat x.e.toNat⟩) (t := invFrom s (d + (x.t.size - (x.e - x.s))) t) ye with ⟨w1, w2, w3⟩ | ⟨w1, w2, w3⟩ | ⟨w1, w2, w3⟩
      · simp only at w1; omega
      · simp only at w1; omega
      · rw [w3, hp2]
    · have e1 : mp o r (x :: t) = mp o r t + (x.t.size - (x.e - x.s)) := by
        rcases mp_ways (o := o) (r := r) (t := t) b with ⟨w1, w2, w3⟩ | ⟨w1, w2, w3⟩ | ⟨w1, w2, w3⟩
        · omega
        · exact w3
        · omega
      have hlow := mp_low (o := o) (r := r) c
      rw [e1, invFrom, show mp o r t + (x.t.size - (x.e - x.s)) + d = mp o r t + (d + (x.t.size - (x.e - x.s))) from by omega]
      rcases mp_ways (o := mp o r t + (d + (x.t.size - (x.e - x.s)))) (r := r) (x := ⟨x.s + d, x.s + d + x.t.size, s.extract x.s.toNat x.e.toNat⟩) (t := invFrom s (d + (x.t.size - (x.e - x.s))) t) ye with ⟨w1, w2, w3⟩ | ⟨w1, w2, w3⟩ | ⟨w1, w2, w3⟩
      · simp only at w2; omega
      · rw [w3, hi]; simp only [hext]; omega
      · simp only at w1; omega

theorem tsum_room {n : Int} {l : List Ed} (h0 : 0 ≤ n) (h : errV n l = 0) : tsum l ≤ 102000 := by
  obtain ⟨h1, h2, h3, h4⟩ := errV_zero h
  have h6 := (sep_inside (by omega) h3).dsum_le h1 h2 l.length
  rw [List.take_length] at h6
  have h8 := of_decide_eq_true h4
  omega

/-- What Map answers for valid edits, within the source. -/
theorem map_valid {s : ByteArray} {l : List Ed} {o : Int} {r : Bool} (he : errV s.size l = 0) (h0 : 0 ≤ o) (h1 : o ≤ s.size) :
    errM l o = 0 ∧ mapV l o r = mp o r l ∧ 0 ≤ mp o r l ∧ mp o r l ≤ 200000 := by
  have hA := errV_errA he
  have hM := errM_ok (o := o) hA (by omega)
  obtain ⟨_, h4⟩ := errA_zero hA
  have t1 := tsum_room (by omega) he
  have t2 := mp_high (o := o) (r := r) h4
  have t3 := mp_low (o := o) (r := r) h4
  have t4 := (errV_zero he).1
  exact ⟨hM, by rw [mapV_ok hM]; exact w_id (by omega), by omega, by omega⟩

/-- And the way back. -/
theorem map_back {s : ByteArray} {l : List Ed} {o : Int} {r : Bool} (he : errV s.size l = 0) (h0 : 0 ≤ o) (h1 : o ≤ s.size) (hf : Free l o) :
    errM (invL s l) (mp o r l) = 0 ∧ mapV (invL s l) (mp o r l) r = o := by
  have hA := errV_errA (inv_valid he)
  obtain ⟨_, _, b, _⟩ := map_valid (r := r) he h0 h1
  have hM := errM_ok (l := invL s l) (o := mp o r l) hA (by omega)
  have hb := mp_back (s := s) (o := o) (r := r) (q := -1) (d := 0) (N := s.size + 0 + tsum l - dsum l) (by omega) (errV_zero he).2.2.1 rfl hf
  rw [Int.add_zero, Int.add_zero] at hb
  refine ⟨hM, ?_⟩
  rw [mapV_ok hM, invL, hb]
  exact w_id (by have := (errV_zero he).1; omega)
end Go.Proofs.Ytdmmoknddkfnmaa
