/-
  Plain mathematics: composing with no edits; the canonical list is no longer than the edits.
-/
import Derived.Test.YtbkiliiopondaaaWrap
namespace Go.Proofs.Ytbkiliiopondaaa

theorem applyL_nil (l : List UInt8) : applyL l [] = l := by simp [applyL, applyFrom]
theorem applyS_nil (s : ByteArray) : applyS s [] = s := by rw [applyS, applyL_nil]
theorem rewL_nil (T : List Tb) : rewL T [] = T := by simp [rewL, rewFrom]
theorem errV_nil {n : Int} (h : n ≤ 2000) : errV n [] = 0 := errV_mk h (by simp) rfl (by simp [tsum, dsum]; try omega)
theorem errV_nil_big {n : Int} (h : 2000 < n) : errV n [] = 2 := by unfold errV; rw [if_pos (Or.inl h)]
theorem errV_big {n : Int} {l : List Ed} (h : 2000 < n) : errV n l = 2 := by unfold errV; rw [if_pos (Or.inl h)]

/-- A stretch of the old string, traced. -/
theorem canon_seg {src : List UInt8} {n : Int} {B : List Tb} : ∀ {k m : Nat}, m + (k + 1) ≤ src.length → ∀ (p : Int) (g : List UInt8),
    canonFrom n p g (((traceL src).drop m).take (k + 1) ++ B) = addC p m g ++ canonFrom n ((m + (k + 1) : Nat) : Int) [] B := by
  intro k
  induction k with
  | zero =>
    intro m h p g
    have hx : src[m]? = some src[m] := List.getElem?_eq_getElem (by omega)
    have hT : (traceL src)[m]? = some ⟨src[m], m⟩ := by
      have := trace_get (src := src) (x := ⟨src[m], m⟩) (by simp) (by simp)
      simpa using this
    have hd : (traceL src).drop m = ⟨src[m], m⟩ :: (traceL src).drop (m + 1) := drop_at hT
    rw [hd]
    simp only [Nat.zero_add, List.take_succ_cons, List.take_zero, List.cons_append, List.nil_append, canonFrom]
    rw [if_neg (by show ¬ ((m : Int) = -1); omega)]
    rfl
  | succ k ih =>
    intro m h p g
    have hx : src[m]? = some src[m] := List.getElem?_eq_getElem (by omega)
    have hT : (traceL src)[m]? = some ⟨src[m], m⟩ := by
      have := trace_get (src := src) (x := ⟨src[m], m⟩) (by simp) (by simp)
      simpa using this
    have hd : (traceL src).drop m = ⟨src[m], m⟩ :: (traceL src).drop (m + 1) := drop_at hT
    rw [hd]
    simp only [List.take_succ_cons, List.cons_append, canonFrom]
    rw [if_neg (by show ¬ ((m : Int) = -1); omega)]
    have h1 := ih (m := m + 1) (by omega) ((m : Int) + 1) []
    rw [h1]
    have h2 : addC ((m : Int) + 1) ((m + 1 : Nat) : Int) [] = [] := by unfold addC; rw [if_pos ⟨by omega, rfl⟩]
    rw [h2, List.nil_append, show m + 1 + (k + 1) = m + (k + 1 + 1) from by omega]

theorem canon_ins {n : Int} {B : List Tb} {h : List UInt8} : ∀ {p : Int} {g : List UInt8}, canonFrom n p g (insG h ++ B) = canonFrom n p (g ++ h) B := by
  induction h with
  | nil => intro p g; simp [insG]
  | cons c r ih =>
    intro p g
    have e : insG (c :: r) ++ B = ⟨c, -1⟩ :: (insG r ++ B) := rfl
    rw [e, canonFrom, if_pos rfl, ih]
    simp

theorem insT_G (t : ByteArray) : insT t = insG t.data.toList := rfl

theorem canon_pending {src : List UInt8} {l : List Ed} : ∀ {m p : Int} {g : List UInt8}, 0 ≤ m → m ≤ src.length → sepFrom src.length m l = true →
    (canonFrom src.length p g (rewFrom (traceL src) m l)).length ≤ l.length + 1 := by
  have hlen : (traceL src).length = src.length := trace_length
  induction l with
  | nil =>
    intro m p g h0 h1 _
    simp only [rewFrom]
    by_cases hm : m.toNat < src.length
    · obtain ⟨k, hk⟩ : ∃ k, src.length = m.toNat + (k + 1) := ⟨src.length - m.toNat - 1, by omega⟩
      have e : (traceL src).drop m.toNat = ((traceL src).drop m.toNat).take (k + 1) ++ [] := by
        rw [List.append_nil, List.take_of_length_le (by rw [List.length_drop]; omega)]
      rw [e, canon_seg (by omega), List.length_append]
      have h2 := addC_le p m.toNat g
      have h3 : canonFrom src.length ((m.toNat + (k + 1) : Nat) : Int) [] [] = [] := by
        rw [canonFrom, addC, if_pos ⟨by omega, rfl⟩]
      rw [h3]
      simp only [List.length_nil]
      omega
    · rw [List.drop_eq_nil_of_le (by omega), canonFrom]
      have := addC_le p src.length g
      simp only [List.length_nil]
      omega
  | cons x r ih =>
    intro m p g h0 h1 h
    unfold sepFrom at h
    split at h
    · simp at h
    · have h2 := ih (m := x.e) (p := x.s) (g := x.t.data.toList) (by omega) (by omega) h
      simp only [rewFrom]
      obtain ⟨k, hk⟩ : ∃ k, x.s.toNat - m.toNat = k + 1 := ⟨x.s.toNat - m.toNat - 1, by omega⟩
      rw [hk, canon_seg (by omega), insT_G, canon_ins, List.nil_append, List.length_append]
      have h3 := addC_le p m.toNat g
      have e : ((m.toNat + (k + 1) : Nat) : Int) = x.s := by omega
      rw [e]
      simp only [List.length_cons]
      omega

/-- THE CANONICAL LIST IS NO LONGER THAN THE EDITS. -/
theorem canon_count {src : List UInt8} {l : List Ed} (h : sepFrom src.length (-1) l = true) : (canonL src.length (rewL (traceL src) l)).length ≤ l.length := by
  have hlen : (traceL src).length = src.length := trace_length
  have h00 : addC 0 ((0 : Nat) : Int) [] = [] := by unfold addC; rw [if_pos ⟨by omega, rfl⟩]
  unfold canonL rewL
  cases l with
  | nil =>
    simp only [rewFrom]
    by_cases hm : 0 < src.length
    · obtain ⟨k, hk⟩ : ∃ k, src.length = 0 + (k + 1) := ⟨src.length - 1, by omega⟩
      have e : (traceL src).drop (0 : Int).toNat = ((traceL src).drop 0).take (k + 1) ++ [] := by
        rw [List.append_nil, List.take_of_length_le (by rw [List.length_drop]; omega)]; rfl
      rw [e, canon_seg (by omega), h00, List.nil_append, canonFrom, addC, if_pos ⟨by omega, rfl⟩]
      simp
    · rw [List.drop_eq_nil_of_le (by omega), canonFrom, addC, if_pos ⟨by omega, rfl⟩]
      simp
  | cons x r =>
    unfold sepFrom at h
    split at h
    · simp at h
    · have h2 := canon_pending (src := src) (l := r) (m := x.e) (p := x.s) (g := x.t.data.toList) (by omega) (by omega) h
      simp only [rewFrom]
      by_cases hx : x.s.toNat = 0
      · rw [show x.s.toNat - (0 : Int).toNat = 0 from by omega, List.take_zero, List.nil_append, insT_G, canon_ins, List.nil_append]
        have e : x.s = 0 := by omega
        rw [e] at h2
        simp only [List.length_cons]
        exact h2
      · obtain ⟨k, hk⟩ : ∃ k, x.s.toNat - (0 : Int).toNat = k + 1 := ⟨x.s.toNat - 1, by omega⟩
        rw [hk]
        have hs := canon_seg (src := src) (n := src.length) (B := insT x.t ++ rewFrom (traceL src) x.e r) (k := k) (m := 0) (by omega) 0 []
        have e : ((traceL src).drop (0 : Int).toNat).take (k + 1) = ((traceL src).drop 0).take (k + 1) := rfl
        rw [e, hs, h00, List.nil_append, insT_G, canon_ins, List.nil_append]
        have e : ((0 + (k + 1) : Nat) : Int) = x.s := by omega
        rw [e]
        simp only [List.length_cons]
        exact h2

theorem id_final (s : ByteArray) (l : List Ed) : finalT s [] l = rewL (traceL s.data.toList) l ∧ finalT s l [] = rewL (traceL s.data.toList) l := by
  simp [finalT, rewL_nil]

theorem id_zero {s : ByteArray} {l : List Ed} (h : errV s.size l = 0) : compErr s [] l = 0 ∧ compErr s l [] = 0 ∧ compL s [] l = compL s l [] ∧ applyS s (compL s [] l) = applyS s l := by
  obtain ⟨h1, h2, h3, h4⟩ := errV_zero h
  have e := str_length s
  have hc : (canonL s.size (rewL (traceL s.data.toList) l)).length ≤ 50 := by
    have := canon_count (src := s.data.toList) (l := l) (by rw [e]; exact h3)
    rw [e] at this
    omega
  have c1 : compErr s [] l = 0 := by
    rw [compErr, if_neg (by rw [errV_nil h1]; simp), applyS_nil, if_neg (by rw [h]; simp), compL, (id_final s l).1, if_neg (by omega)]
  have c2 : compErr s l [] = 0 := by
    have := applyS_le h
    rw [compErr, if_neg (by rw [h]; simp), if_neg (by rw [errV_nil (by omega)]; simp), compL, (id_final s l).2, if_neg (by omega)]
  refine ⟨c1, c2, by rw [compL, compL, (id_final s l).1, (id_final s l).2], ?_⟩
  rw [(comp_valid c1).2, applyS_nil]

theorem id_err {s : ByteArray} {l : List Ed} (h : errV s.size l ≠ 0) : compErr s [] l ≠ 0 ∧ compErr s l [] = errV s.size l := by
  refine ⟨?_, by rw [compErr, if_pos h]⟩
  by_cases hb : (2000 : Int) < s.size
  · rw [compErr, if_pos (by rw [errV_nil_big hb]; simp), errV_nil_big hb]; simp
  · rw [compErr, if_neg (by rw [errV_nil (by omega)]; simp), applyS_nil, if_pos h]; exact h
end Go.Proofs.Ytbkiliiopondaaa
