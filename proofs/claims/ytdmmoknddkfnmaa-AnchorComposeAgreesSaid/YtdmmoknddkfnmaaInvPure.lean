/-
  Plain mathematics: the inverse of valid edits is valid, restores the source, and its inverse is the edits.
-/
import Derived.Test.YtdmmoknddkfnmaaOwn
import Derived.Test.YtdmmoknddkfnmaaValid
import Derived.Lib.Strings
namespace Go.Proofs.Ytdmmoknddkfnmaa

theorem inv_length {s : ByteArray} {l : List Ed} : ∀ {d : Int}, (invFrom s d l).length = l.length := by
  induction l with
  | nil => intro d; rfl
  | cons x r ih => intro d; simp [invFrom, ih]

theorem extract_size (s : ByteArray) (a b : Int) (h0 : 0 ≤ a) (h1 : a ≤ b) (h2 : b ≤ s.size) : ((s.extract a.toNat b.toNat).size : Int) = b - a := by
  rw [ByteArray.size_extract]; omega

theorem inv_sums {s : ByteArray} {l : List Ed} : ∀ {p d : Int}, 0 ≤ p → Ord s.size p l → (tsum (invFrom s d l) : Int) = dsum l ∧ dsum (invFrom s d l) = tsum l := by
  induction l with
  | nil => intro p d _ _; simp [invFrom, tsum, dsum]
  | cons x r ih =>
    intro p d h0 h
    obtain ⟨h1, h2, h3⟩ := h
    obtain ⟨i1, i2⟩ := ih (p := x.e) (d := d + (x.t.size - (x.e - x.s))) (by omega) h3
    have h4 := extract_size s x.s x.e (by omega) h2 h3.le
    simp only [invFrom, tsum, dsum]
    omega

theorem dsum_room {n : Int} {l : List Ed} : ∀ {p : Int}, Ord n p l → dsum l ≤ n - p := by
  induction l with
  | nil => intro p h; have := h.le; simp [dsum]; omega
  | cons x r ih => intro p h; have := ih h.2.2; have := h.1; simp only [dsum]; omega

theorem inv_sep {s : ByteArray} {n N : Int} {l : List Ed} : ∀ {q d : Int}, sepFrom n q l = true → N = n + d + tsum l - dsum l → sepFrom N (q + d) (invFrom s d l) = true := by
  induction l with
  | nil => intro q d _ _; rfl
  | cons x r ih =>
    intro q d h hN
    unfold sepFrom at h
    split at h
    · simp at h
    · rename_i hc
      have h1 := ih (q := x.e) (d := d + (x.t.size - (x.e - x.s))) h (by simp only [tsum, dsum] at hN; omega)
      have h2 : dsum r ≤ n - x.e := dsum_room (sep_ord (p := x.e) (by omega) (by omega) h)
      simp only [tsum, dsum] at hN
      simp only [invFrom, sepFrom]
      rw [if_neg (by omega)]
      have e : x.e + (d + (x.t.size - (x.e - x.s))) = x.s + d + x.t.size := by omega
      rw [e] at h1
      exact h1

theorem inv_apply {s : ByteArray} {l : List Ed} : ∀ {p d : Int} {pre : List UInt8}, 0 ≤ p → 0 ≤ p + d → (pre.length : Int) = p + d → Ord s.size p l →
    applyFrom (pre ++ applyFrom s.data.toList p l) (p + d) (invFrom s d l) = s.data.toList.drop p.toNat := by
  induction l with
  | nil =>
    intro p d pre h0 h1 hp _
    simp only [invFrom, applyFrom]
    rw [show (p + d).toNat = pre.length from by omega, List.drop_left]
  | cons x r ih =>
    intro p d pre h0 h1 hp h
    obtain ⟨o1, o2, o3⟩ := h
    have o4 := o3.le
    have hlen : s.data.toList.length = s.size := by rw [Array.length_toList]; rfl
    have hA : ((s.data.toList.drop p.toNat).take (x.s.toNat - p.toNat)).length = x.s.toNat - p.toNat := by rw [List.length_take, List.length_drop]; omega
    have hT : x.t.data.toList.length = x.t.size := by rw [Array.length_toList]; rfl
    have h2 := ih (p := x.e) (d := d + (x.t.size - (x.e - x.s))) (pre := pre ++ (s.data.toList.drop p.toNat).take (x.s.toNat - p.toNat) ++ x.t.data.toList) (by omega) (by omega) (by simp only [List.length_append, hA, hT]; omega) o3
    have e : x.e + (d + (x.t.size - (x.e - x.s))) = x.s + d + x.t.size := by omega
    rw [e] at h2
    simp only [invFrom, applyFrom]
    simp only [List.append_assoc] at h2
    rw [h2, show (p + d).toNat = pre.length from by omega, List.drop_left, show (x.s + d).toNat - pre.length = x.s.toNat - p.toNat from by omega]
    rw [List.take_append_of_le_length (by omega), List.take_of_length_le (Nat.le_of_eq hA), Lib.extract_data]
    have e2 : (s.data.toList.drop x.s.toNat).take (x.e.toNat - x.s.toNat) ++ s.data.toList.drop x.e.toNat = s.data.toList.drop x.s.toNat := by
      have := List.take_append_drop (x.e.toNat - x.s.toNat) (s.data.toList.drop x.s.toNat)
      rwa [List.drop_drop, show x.s.toNat + (x.e.toNat - x.s.toNat) = x.e.toNat from by omega] at this
    rw [e2]
    have := List.take_append_drop (x.s.toNat - p.toNat) (s.data.toList.drop p.toNat)
    rwa [List.drop_drop, show p.toNat + (x.s.toNat - p.toNat) = x.s.toNat from by omega] at this

theorem inv_inv {s o : ByteArray} {l : List Ed} : ∀ {p d : Int} {pre : List UInt8}, 0 ≤ p → 0 ≤ p + d → (pre.length : Int) = p + d → Ord s.size p l → o.data.toList = pre ++ applyFrom s.data.toList p l →
    invFrom o (-d) (invFrom s d l) = l := by
  induction l with
  | nil => intro p d pre _ _ _ _ _; rfl
  | cons x r ih =>
    intro p d pre h0 h1 hp h ho
    obtain ⟨o1, o2, o3⟩ := h
    have o4 := o3.le
    have hlen : s.data.toList.length = s.size := by rw [Array.length_toList]; rfl
    have hA : ((s.data.toList.drop p.toNat).take (x.s.toNat - p.toNat)).length = x.s.toNat - p.toNat := by rw [List.length_take, List.length_drop]; omega
    have hT : x.t.data.toList.length = x.t.size := by rw [Array.length_toList]; rfl
    have hex := extract_size s x.s x.e (by omega) o2 o4
    have h2 := ih (p := x.e) (d := d + (x.t.size - (x.e - x.s))) (pre := pre ++ (s.data.toList.drop p.toNat).take (x.s.toNat - p.toNat) ++ x.t.data.toList) (by omega) (by omega) (by simp only [List.length_append, hA, hT]; omega) o3 (by rw [ho, applyFrom]; simp)
    simp only [invFrom]
    have e1 : x.s + d + -d = x.s := by omega
    have e2 : x.s + ((s.extract x.s.toNat x.e.toNat).size : Int) = x.e := by rw [hex]; omega
    have e3 : (-d + (((s.extract x.s.toNat x.e.toNat).size : Int) - (x.s + d + x.t.size - (x.s + d)))) = -(d + (x.t.size - (x.e - x.s))) := by rw [hex]; omega
    have e4 : o.extract (x.s + d).toNat (x.s + d + x.t.size).toNat = x.t := by
      rw [Lib.extract_eq, ho, applyFrom]
      have q1 : (x.s + d).toNat = pre.length + (x.s.toNat - p.toNat) := by omega
      have q2 : (x.s + d + x.t.size).toNat - (x.s + d).toNat = x.t.size := by omega
      rw [q2, q1, ← List.drop_drop, List.drop_left, List.drop_append_of_le_length (by omega), List.drop_of_length_le (Nat.le_of_eq hA), List.nil_append, List.take_append_of_le_length (by omega), List.take_of_length_le (by omega)]
    rw [e1, e2, e3, e4, h2]

/-- The size of what Apply gives. -/
theorem apply_size {s : ByteArray} {l : List Ed} (h : errV s.size l = 0) : ((applyL s.data.toList l).length : Int) = s.size - dsum l + tsum l := by
  obtain ⟨h1, h2, h3, h4⟩ := errV_zero h
  have := apply_len (src := s.data.toList) (p := 0) (by omega) (by rw [← Lib.size_eq]; exact sep_ord (p := 0) (by omega) (by omega) h3)
  rw [← Lib.size_eq] at this
  unfold applyL
  omega

theorem errV_mk {n : Int} {l : List Ed} (h1 : n ≤ 2000) (h2 : l.length ≤ 50) (h3 : sepFrom n (-1) l = true) (h4 : (tsum l : Int) ≤ 2000 - n + dsum l) : errV n l = 0 := by
  unfold errV
  rw [if_neg (by omega), if_neg (by simp [h3]), if_neg (by unfold fitsB; simp; omega)]

theorem inv_valid {s : ByteArray} {l : List Ed} (h : errV s.size l = 0) : errV (applyL s.data.toList l).length (invL s l) = 0 := by
  obtain ⟨h1, h2, h3, h4⟩ := errV_zero h
  have h5 := apply_size h
  have hord : Ord s.size 0 l := sep_ord (p := 0) (by omega) (by omega) h3
  obtain ⟨h6, h7⟩ := inv_sums (d := 0) (Int.le_refl 0) hord
  have h8 := of_decide_eq_true h4
  refine errV_mk (by omega) (by rw [invL, inv_length]; exact h2) ?_ ?_
  · have := inv_sep (s := s) (n := s.size) (N := (applyL s.data.toList l).length) (q := -1) (d := 0) h3 (by omega)
    simpa [invL] using this
  · rw [invL, h6, h7]; omega

theorem inv_restores {s : ByteArray} {l : List Ed} (h : errV s.size l = 0) : applyL (applyL s.data.toList l) (invL s l) = s.data.toList := by
  obtain ⟨h1, h2, h3, h4⟩ := errV_zero h
  have := inv_apply (s := s) (l := l) (p := 0) (d := 0) (pre := []) (by omega) (by omega) (by simp) (sep_ord (p := 0) (by omega) (by omega) h3)
  simpa [applyL, invL] using this

theorem inv_again {s o : ByteArray} {l : List Ed} (h : errV s.size l = 0) (ho : o.data.toList = applyL s.data.toList l) : invL o (invL s l) = l := by
  obtain ⟨h1, h2, h3, h4⟩ := errV_zero h
  have := inv_inv (s := s) (o := o) (l := l) (p := 0) (d := 0) (pre := []) (by omega) (by omega) (by simp) (sep_ord (p := 0) (by omega) (by omega) h3) ho
  simpa [invL] using this

theorem mem_tsum {l : List Ed} {x : Ed} (h : x ∈ l) : x.t.size ≤ tsum l := by
  induction l with
  | nil => simp at h
  | cons y r ih =>
    rcases List.mem_cons.1 h with rfl | h
    · simp only [tsum]; omega
    · have := ih h; simp only [tsum]; omega

theorem valid_ok {n : Int} {l : List Ed} (h0 : 0 ≤ n) (h : errV n l = 0) : ∀ x, x ∈ l → x.ok := by
  intro x hx
  obtain ⟨h1, h2, h3, h4⟩ := errV_zero h
  have hin := sep_inside (by omega) h3
  have h6 := hin.dsum_le h1 h2 l.length
  rw [List.take_length] at h6
  have h8 := of_decide_eq_true h4
  have h9 := mem_tsum hx
  obtain ⟨i1, i2, i3⟩ := hin x hx
  refine ⟨by omega, by omega, by omega, by omega, ?_⟩
  unfold maxLen
  omega
end Go.Proofs.Ytdmmoknddkfnmaa
