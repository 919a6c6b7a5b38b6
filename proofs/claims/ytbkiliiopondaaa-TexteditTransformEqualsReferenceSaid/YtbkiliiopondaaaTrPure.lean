/-
  Plain mathematics: both transformed lists lead to the merged string.
-/
import Derived.Test.YtbkiliiopondaaaFlat
namespace Go.Proofs.Ytbkiliiopondaaa

theorem good_ext {R t : List UInt8} {T : List Tb} (h : Good R T) : Good (R ++ t) T :=
  ⟨h.1, fun x hx ho => by
    obtain ⟨a, b⟩ := h.2 x hx ho
    refine ⟨a, ?_⟩
    rw [List.getElem?_append_left (List.getElem?_eq_some_iff.1 b).1]
    exact b⟩

theorem good_ins {R : List UInt8} {T : List Tb} (h : Good R T) (t : ByteArray) : Good R (T ++ insT t) := by
  refine ⟨by rw [kept_append, kept_ins, List.append_nil]; exact h.1, fun x hx ho => ?_⟩
  rcases List.mem_append.1 hx with q | q
  · exact h.2 x q ho
  · simp only [insT, List.mem_map] at q
    obtain ⟨c, _, rfl⟩ := q
    simp at ho

theorem trace_sorted {l : List UInt8} : ∀ {i : Int}, (traceFrom i l).Pairwise (fun a b => a.o < b.o) := by
  induction l with
  | nil => intro i; exact List.Pairwise.nil
  | cons b r ih =>
    intro i
    refine List.pairwise_cons.2 ⟨fun y hy => ?_, ih⟩
    obtain ⟨k, hk⟩ := List.mem_iff_getElem?.1 hy
    have := (trace_at hk).1
    show i < y.o
    omega

theorem good_push {R : List UInt8} {T : List Tb} (h : Good R T) (t : List UInt8) : Good (R ++ t) (T ++ traceFrom R.length t) := by
  refine ⟨?_, fun x hx ho => ?_⟩
  · rw [kept_append]
    refine List.pairwise_append.2 ⟨h.1, trace_sorted.sublist List.filter_sublist, fun x hx y hy => ?_⟩
    obtain ⟨hx1, hx2⟩ := List.mem_filter.1 hx
    obtain ⟨_, b⟩ := h.2 x hx1 (by simpa using hx2)
    have h1 := (List.getElem?_eq_some_iff.1 b).1
    obtain ⟨k, hk⟩ := List.mem_iff_getElem?.1 (List.mem_filter.1 hy).1
    have := (trace_at hk).1
    omega
  · rcases List.mem_append.1 hx with q | q
    · exact (good_ext h).2 x q ho
    · obtain ⟨k, hk⟩ := List.mem_iff_getElem?.1 q
      obtain ⟨h1, h2⟩ := trace_at hk
      refine ⟨by omega, ?_⟩
      rw [List.getElem?_append_right (by omega), show x.o.toNat - R.length = k from by omega]
      exact h2

/-- The merged string at an offset. -/
def mo (src : List UInt8) (L R : List Ed) (k : Nat) : List UInt8 := (insF L k).data.toList ++ ((insF R k).data.toList ++ (if (delF L k || delF R k) = true then [] else byteAt src k))

theorem trace_one (i : Int) (c : UInt8) : [(⟨c, i⟩ : Tb)] = traceFrom i [c] := rfl

theorem mrg_all {src : List UInt8} {L R : List Ed} (k : Nat) (hk : k ≤ src.length + 1) :
    (mrg src L R k).fl.map Tb.v = flat (mo src L R) 0 k ∧ (mrg src L R k).fr.map Tb.v = flat (mo src L R) 0 k ∧
    (Good (flat (off src L) 0 k) (mrg src L R k).fl ∧ (mrg src L R k).ll = (flat (off src L) 0 k).length) ∧
    (Good (flat (off src R) 0 k) (mrg src L R k).fr ∧ (mrg src L R k).rl = (flat (off src R) 0 k).length) := by
  induction k with
  | zero =>
    have h0 : Good [] ([] : List Tb) := ⟨List.Pairwise.nil, fun x hx => by simp at hx⟩
    exact ⟨rfl, rfl, ⟨h0, rfl⟩, h0, rfl⟩
  | succ k ih =>
    obtain ⟨a1, a2, ⟨a3, a4⟩, a5, a6⟩ := ih (by omega)
    rw [flat_succ, flat_succ, flat_succ, Nat.zero_add]
    simp only [mrg]
    generalize mrg src L R k = st at *
    generalize flat (mo src L R) 0 k = M at *
    generalize flat (off src L) 0 k = A at *
    generalize flat (off src R) 0 k = B at *
    have hb : ∀ t : ByteArray, t.data.toList.length = t.size := fun t => by rw [Array.length_toList]; rfl
    -- behind both insertions
    have b1 : ((st.insL (insF L k)).insR (insF R k)).fl.map Tb.v = M ++ ((insF L k).data.toList ++ (insF R k).data.toList) := by
      simp only [MS.insL, MS.insR, List.map_append, a1, trace_v, insT_v, List.append_assoc]
    have b2 : ((st.insL (insF L k)).insR (insF R k)).fr.map Tb.v = M ++ ((insF L k).data.toList ++ (insF R k).data.toList) := by
      simp only [MS.insL, MS.insR, List.map_append, a2, trace_v, insT_v, List.append_assoc]
    have b3 : Good (A ++ (insF L k).data.toList) ((st.insL (insF L k)).insR (insF R k)).fl := by
      simp only [MS.insL, MS.insR]
      rw [a4]
      exact good_ins (good_push a3 _) _
    have b4 : ((st.insL (insF L k)).insR (insF R k)).ll = (A ++ (insF L k).data.toList).length := by
      simp only [MS.insL, MS.insR, a4, List.length_append, hb]; omega
    have b5 : Good (B ++ (insF R k).data.toList) ((st.insL (insF L k)).insR (insF R k)).fr := by
      simp only [MS.insL, MS.insR]
      rw [a6]
      exact good_push (good_ins a5 _) _
    have b6 : ((st.insL (insF L k)).insR (insF R k)).rl = (B ++ (insF R k).data.toList).length := by
      simp only [MS.insL, MS.insR, a6, List.length_append, hb]; omega
    simp only [off, mo, ← List.append_assoc]
    rw [List.append_assoc M]
    generalize (st.insL (insF L k)).insR (insF R k) = st2 at *
    generalize A ++ (insF L k).data.toList = A2 at *
    generalize B ++ (insF R k).data.toList = B2 at *
    generalize M ++ ((insF L k).data.toList ++ (insF R k).data.toList) = M2 at *
    clear a1 a2 a3 a4 a5 a6
    by_cases hlt : k < src.length
    · have hbyte : byteAt src k = [src[k]] := by rw [byteAt, List.getElem?_eq_getElem hlt]; rfl
      have hv : MS.visAt src L R k st2 = MS.vis src[k] (delF L k) (delF R k) st2 := by rw [MS.visAt, List.getElem?_eq_getElem hlt]
      rw [hv, hbyte]
      generalize src[k] = c
      cases delF L k <;> cases delF R k
      · simp only [MS.vis, Bool.or_false, Bool.false_eq_true, if_false, List.map_append, b1, b2, b4, b6, trace_one, trace_v]
        exact ⟨trivial, trivial, ⟨good_push b3 _, by simp⟩, good_push b5 _, by simp⟩
      · simp only [MS.vis, Bool.or_true, Bool.false_eq_true, if_false, if_true, List.append_nil, b1, b2, b4, b6]
        exact ⟨trivial, trivial, ⟨good_ext b3, by simp⟩, b5, trivial⟩
      · simp only [MS.vis, Bool.or_false, Bool.false_eq_true, if_false, if_true, List.append_nil, b1, b2, b4, b6]
        exact ⟨trivial, trivial, ⟨b3, trivial⟩, good_ext b5, by simp⟩
      · simp only [MS.vis, Bool.or_true, if_true, List.append_nil, b1, b2, b4, b6]
        exact ⟨trivial, trivial, ⟨b3, trivial⟩, b5, trivial⟩
    · have hbyte : byteAt src k = [] := by rw [byteAt, List.getElem?_eq_none (by omega)]; rfl
      have hv : MS.visAt src L R k st2 = st2 := by rw [MS.visAt, List.getElem?_eq_none (by omega)]
      rw [hv, hbyte]
      simp only [ite_self, List.append_nil]
      exact ⟨b1, b2, ⟨b3, b4⟩, b5, b6⟩

/-- What Transform is good for. -/
theorem tr_zero {s : ByteArray} {L R : List Ed} (h : trErr s L R = 0) : errV s.size L = 0 ∧ errV s.size R = 0 ∧ (leftR s L R).length ≤ 50 ∧ (rightR s L R).length ≤ 50 ∧ (mrgS s L R).fl.length ≤ 2000 ∧ trL s L R = leftR s L R ∧ trR s L R = rightR s L R := by
  have h1 : trL s L R = leftR s L R := by rw [trL, if_pos h]
  have h2 : trR s L R = rightR s L R := by rw [trR, if_pos h]
  unfold trErr at h
  split at h
  · contradiction
  · split at h
    · contradiction
    · split at h
      · cases h
      · split at h
        · cases h
        · exact ⟨by omega, by omega, by omega, by omega, by omega, h1, h2⟩

theorem tr_valid {s : ByteArray} {L R : List Ed} (h : trErr s L R = 0) :
    errV (applyS s L).size (rightR s L R) = 0 ∧ errV (applyS s R).size (leftR s L R) = 0 ∧
    applyL (applyL s.data.toList L) (rightR s L R) = flat (mo s.data.toList L R) 0 (s.size + 1) ∧ applyL (applyL s.data.toList R) (leftR s L R) = flat (mo s.data.toList L R) 0 (s.size + 1) := by
  obtain ⟨h1, h2, h3, h4, h5, _, _⟩ := tr_zero h
  have e := str_length s
  obtain ⟨m1, m2, ⟨m3, m4⟩, m5, m6⟩ := mrg_all (src := s.data.toList) (L := L) (R := R) (s.size + 1) (by omega)
  have f1 := flat_all (src := s.data.toList) (l := L) (by rw [e]; exact (errV_zero h1).2.2.1)
  have f2 := flat_all (src := s.data.toList) (l := R) (by rw [e]; exact (errV_zero h2).2.2.1)
  rw [e] at f1 f2
  rw [f1] at m3 m4
  rw [f2] at m5 m6
  have hsame := mrg_same s.data.toList L R (s.size + 1)
  have hA := applyS_le h1
  have hB := applyS_le h2
  have eA : (applyL s.data.toList L).length = (applyS s L).size := (applyS_size s L).symm
  have eB : (applyL s.data.toList R).length = (applyS s R).size := (applyS_size s R).symm
  have q1 : rightR s L R = canonL (applyL s.data.toList L).length (mrg s.data.toList L R (s.size + 1)).fl := by rw [rightR, mrgS, m4]
  have q2 : leftR s L R = canonL (applyL s.data.toList R).length (mrg s.data.toList L R (s.size + 1)).fr := by rw [leftR, mrgS, m6]
  unfold mrgS at h5
  refine ⟨?_, ?_, ?_, ?_⟩
  · have := canon_valid m3 (by omega) h5 (by rw [← q1]; exact h4)
    rw [← q1, eA] at this
    exact this
  · have := canon_valid m5 (by omega) (by omega) (by rw [← q2]; exact h3)
    rw [← q2, eB] at this
    exact this
  · rw [q1, canon_apply m3, m1]
  · rw [q2, canon_apply m5, m2]

theorem tr_conv {s : ByteArray} {L R : List Ed} (h : trErr s L R = 0) : applyS (applyS s L) (rightR s L R) = applyS (applyS s R) (leftR s L R) := by
  obtain ⟨_, _, h1, h2⟩ := tr_valid h
  unfold applyS
  simp only
  rw [h1, h2]

theorem tr_none {s : ByteArray} {L R : List Ed} (h : trErr s L R ≠ 0) : trL s L R = [] ∧ trR s L R = [] := by
  rw [trL, trR, if_neg h, if_neg h]; exact ⟨rfl, rfl⟩
end Go.Proofs.Ytbkiliiopondaaa
