/-
  textedit.Transform by its contract.
-/
import Derived.Test.YtbkiliiopondaaaMerge
namespace Go.Proofs.Ytbkiliiopondaaa
open Go.RowKit

theorem mrg_same (src : List UInt8) (L R : List Ed) (k : Nat) : (mrg src L R k).fl.length = (mrg src L R k).fr.length := by
  induction k with
  | zero => rfl
  | succ k ih =>
    have h1 : ∀ (st : MS) t, st.fl.length = st.fr.length → (st.insL t).fl.length = (st.insL t).fr.length := by
      intro st t h
      have hs : t.data.toList.length = t.size := by rw [Array.length_toList]; rfl
      simp only [MS.insL, List.length_append, trace_length, insT_length, hs, h]
    have h2 : ∀ (st : MS) t, st.fl.length = st.fr.length → (st.insR t).fl.length = (st.insR t).fr.length := by
      intro st t h
      have hs : t.data.toList.length = t.size := by rw [Array.length_toList]; rfl
      simp only [MS.insR, List.length_append, trace_length, insT_length, hs, h]
    have h3 : ∀ (st : MS) c ld rd, st.fl.length = st.fr.length → (st.vis c ld rd).fl.length = (st.vis c ld rd).fr.length := by
      intro st c ld rd h
      cases ld <;> cases rd <;> simp [MS.vis, h]
    have h4 := h2 _ (insF R k) (h1 _ (insF L k) ih)
    simp only [mrg, MS.visAt]
    split
    · exact h3 _ _ _ _ h4
    · exact h4

theorem orig_up {n m : Int} {l : List Tb} (h : Orig n l) (hm : n ≤ m) : Orig m l := fun x hx => by have := h x hx; omega
theorem orig_app {n : Int} {a b : List Tb} (h : Orig n a) (h' : Orig n b) : Orig n (a ++ b) := fun x hx => by
  rcases List.mem_append.1 hx with q | q
  · exact h x q
  · exact h' x q
theorem orig_ins {n : Int} (hn : 0 ≤ n) (t : ByteArray) : Orig n (insT t) := by
  intro x hx
  simp only [insT, List.mem_map] at hx
  obtain ⟨c, _, rfl⟩ := hx
  exact ⟨by simp, by simp; omega⟩
theorem orig_from {i : Int} (hi : 0 ≤ i) (t : ByteArray) : Orig (i + t.size) (traceFrom i t.data.toList) := by
  intro x hx
  obtain ⟨k, hk⟩ := List.mem_iff_getElem?.1 hx
  obtain ⟨h1, h2⟩ := trace_at hk
  have h3 := (List.getElem?_eq_some_iff.1 h2).1
  rw [Array.length_toList] at h3
  have h4 : t.data.size = t.size := rfl
  omega
theorem orig_one {n i : Int} {c : UInt8} (h0 : 0 ≤ i) (h : i ≤ n) : Orig n [⟨c, i⟩] := by
  intro x hx
  simp at hx
  subst hx
  exact ⟨by simp; omega, h⟩

/-- The origins of a state. -/
def MS.Or (st : MS) : Prop := 0 ≤ st.ll ∧ 0 ≤ st.rl ∧ Orig st.ll st.fl ∧ Orig st.rl st.fr

theorem mrg_or (src : List UInt8) (L R : List Ed) (k : Nat) : (mrg src L R k).Or := by
  induction k with
  | zero => exact ⟨by simp [mrg], by simp [mrg], fun x hx => by simp [mrg] at hx, fun x hx => by simp [mrg] at hx⟩
  | succ k ih =>
    have h1 : ∀ (st : MS) (t : ByteArray), st.Or → (st.insL t).Or := by
      rintro st t ⟨a, b, c, d⟩
      exact ⟨by simp only [MS.insL]; omega, b, orig_app (orig_up c (by simp only [MS.insL]; omega)) (orig_from a t), orig_app d (orig_ins b t)⟩
    have h2 : ∀ (st : MS) (t : ByteArray), st.Or → (st.insR t).Or := by
      rintro st t ⟨a, b, c, d⟩
      exact ⟨a, by simp only [MS.insR]; omega, orig_app c (orig_ins a t), orig_app (orig_up d (by simp only [MS.insR]; omega)) (orig_from b t)⟩
    have h3 : ∀ (st : MS) c ld rd, st.Or → (st.vis c ld rd).Or := by
      rintro st c ld rd ⟨a, b, e, d⟩
      cases ld <;> cases rd
      · exact ⟨by simp [MS.vis]; omega, by simp [MS.vis]; omega, orig_app (orig_up e (by simp [MS.vis]; omega)) (orig_one a (by simp [MS.vis]; omega)), orig_app (orig_up d (by simp [MS.vis]; omega)) (orig_one b (by simp [MS.vis]; omega))⟩
      · exact ⟨by simp [MS.vis]; omega, by simp [MS.vis]; omega, orig_up e (by simp [MS.vis]; omega), orig_up d (by simp [MS.vis])⟩
      · exact ⟨by simp [MS.vis]; omega, by simp [MS.vis]; omega, orig_up e (by simp [MS.vis]), orig_up d (by simp [MS.vis]; omega)⟩
      · exact ⟨by simp [MS.vis]; omega, by simp [MS.vis]; omega, orig_up e (by simp [MS.vis]), orig_up d (by simp [MS.vis])⟩
    have h4 := h2 _ (insF R k) (h1 _ (insF L k) ih)
    simp only [mrg, MS.visAt]
    split
    · exact h3 _ _ _ _ h4
    · exact h4

def mrgS (s : ByteArray) (L R : List Ed) : MS := mrg s.data.toList L R (s.size + 1)
def leftR (s : ByteArray) (L R : List Ed) : List Ed := canonL (mrgS s L R).rl (mrgS s L R).fr
def rightR (s : ByteArray) (L R : List Ed) : List Ed := canonL (mrgS s L R).ll (mrgS s L R).fl
def trErr (s : ByteArray) (L R : List Ed) : Int :=
  if errV s.size L ≠ 0 then errV s.size L else if errV s.size R ≠ 0 then errV s.size R else if (2000 : Int) < (mrgS s L R).fl.length then 2
  else if (50 : Int) < (leftR s L R).length ∨ (50 : Int) < (rightR s L R).length then 2 else 0
def trL (s : ByteArray) (L R : List Ed) : List Ed := if trErr s L R = 0 then leftR s L R else []
def trR (s : ByteArray) (L R : List Ed) : List Ed := if trErr s L R = 0 then rightR s L R else []

theorem valid_tsum {n : Int} {l : List Ed} (h0 : 0 ≤ n) (h : errV n l = 0) : tsum l ≤ 200000 := by
  obtain ⟨h1, h2, h3, h4⟩ := errV_zero h
  have hin := sep_inside (by omega) h3
  have h6 := hin.dsum_le h1 h2 l.length
  rw [List.take_length] at h6
  have h8 := of_decide_eq_true h4
  omega

set_option maxHeartbeats 1000000 in
set_option maxRecDepth 100000 in
theorem transform_any (s : ByteArray) (a1 : Option Addr) (c1 : Nat) (L : List Ed) (a2 : Option Addr) (c2 : Nat) (R : List Ed) (w : World) (hs : s.size ≤ maxLen) (hl1 : L.length ≤ maxLen) (hl2 : R.length ≤ maxLen) (h1 : Eds w w.heap.size a1 L) (h2 : Eds w w.heap.size a2 R) :
    Calls Try.prog 17 #[.string s, .slice a1 L.length c1, .slice a2 R.length c2] w fun e w' => ∃ v1 v2, e = .returned (.tuple #[v1, v2, .int .i64 (trErr s L R)]) ∧ Hid (Owns w' w.heap.size v1 (trL s L R)) ∧ Hid (Owns w' w.heap.size v2 (trR s L R)) ∧ Below w.heap.size w w' := by
  have hv1 := valid_any s a1 c1 L w hs hl1 h1
  have hv2 := fun w' (hb : Below w.heap.size w w') => valid_any s a2 c2 R w' hs hl2 ((h2.below hb).up hb.size)
  by_cases he1 : errV s.size L = 0
  · by_cases he2 : errV s.size R = 0
    · have hE : trErr s L R = if (2000 : Int) < (mrgS s L R).fl.length then 2 else if (50 : Int) < (leftR s L R).length ∨ (50 : Int) < (rightR s L R).length then 2 else 0 := by rw [trErr, if_neg (by simp [he1]), if_neg (by simp [he2])]
      obtain ⟨hn1, hl15, hsep1, _⟩ := errV_zero he1
      obtain ⟨_, hl25, hsep2, _⟩ := errV_zero he2
      have hm := fun w' (hb : Below w.heap.size w w') => merge_any s a1 c1 L a2 c2 R w' (by omega) hl15 hl25 (sep_inside (by omega) hsep1) (sep_inside (by omega) hsep2) (valid_tsum (by omega) he1) (valid_tsum (by omega) he2) ((h1.below hb).up hb.size) ((h2.below hb).up hb.size)
      have hor := mrg_or s.data.toList L R (s.size + 1)
      have hsame := mrg_same s.data.toList L R (s.size + 1)
      have hbd := mrg_bd s.data.toList L R 200000 (valid_tsum (by omega) he1) (valid_tsum (by omega) he2) (s.size + 1)
      have hkM : (s.size + 1) * (2 * 200000 + 1) ≤ 810000000 := by
        have := Nat.mul_le_mul_right (2 * 200000 + 1) (show s.size + 1 ≤ 2001 by omega)
        omega
      have hbd2 := hbd.mono hkM
      have HE := Lib.hid hE
      have HV1 : Hid (Calls Try.prog 18 #[.string s, .slice a1 L.length c1] w fun e w' => e = .returned (.int .i64 0) ∧ Below w.heap.size w w') := he1 ▸ hv1
      have HV2 : Hid (∀ w', Below w.heap.size w w' → Calls Try.prog 18 #[.string s, .slice a2 R.length c2] w' fun e w'' => e = .returned (.int .i64 0) ∧ Below w'.heap.size w' w'') := he2 ▸ hv2
      have HM := Lib.hid hm
      have HOR := Lib.hid hor
      have HSA := Lib.hid hsame
      have HBD := Lib.hid hbd2
      clear hE hm hor hsame hbd hbd2 hkM hv1 hv2 he1 he2 hsep1 hsep2 hs hl1 hl2 h1 h2
      go_enter Try.func17, Try.ntmps17
      go_wp2_with fail
      refine HV1.out.mono ?_
      rintro e w1 ⟨rfl, hb1⟩
      go_wp2_with fail
      refine (HV2.out w1 hb1).mono ?_
      rintro e w2 ⟨rfl, hb2⟩
      have hb12 := hb1.trans (hb2.mono hb1.size)
      clear HV1 HV2 hb1 hb2
      go_wp2_with fail
      refine (HM.out w2 hb12).mono ?_
      rintro e w3 ⟨v1, v2, rfl, ho1, ho2, hb3⟩
      have hb13 := hb12.trans (hb3.mono hb12.size)
      have hz12 := hb12.size
      have hz13 := hb13.size
      obtain ⟨x1, y1, rfl, _, _, ht1⟩ := ho1.out.tbs
      obtain ⟨x2, y2, rfl, _, _, ht2⟩ := ho2.out.tbs
      have HT1 := Lib.hid ht1
      have HT2 := Lib.hid ht2
      clear HM ht1 ht2 ho1 ho2 hb3 hb12
      rw [show mrg s.data.toList L R (s.size + 1) = mrgS s L R from rfl] at *
      obtain ⟨M, hM⟩ : ∃ M, M = mrgS s L R := ⟨_, rfl⟩
      have hlR : leftR s L R = canonL M.rl M.fr := by rw [leftR, hM]
      have hrR : rightR s L R = canonL M.ll M.fl := by rw [rightR, hM]
      have HE1 : Hid (trErr s L R = if (2000 : Int) < M.fl.length then 2 else if (50 : Int) < (leftR s L R).length ∨ (50 : Int) < (rightR s L R).length then 2 else 0) := by rw [hM]; exact HE.out
      clear HE
      rw [← hM] at HOR HSA HBD HT1 HT2
      rw [← hM]
      have HLR := Lib.hid hlR
      have HRR := Lib.hid hrR
      clear hlR hrR hM
      by_cases hbig : (2000 : Int) < M.fl.length
      · have HE2 := Lib.hid (HE1.out.trans (if_pos hbig))
        clear HE1
        go_wp2_with fail
        go_ret3
        exact ⟨_, _, by rw [HE2.out]; rfl, by rw [trL, if_neg (by rw [HE2.out]; decide)]; exact none_owns _ _, by rw [trR, if_neg (by rw [HE2.out]; decide)]; exact none_owns _ _, hb13.alloc hz13 _⟩
      · have HE2 := Lib.hid (HE1.out.trans (if_neg hbig))
        clear HE1
        obtain ⟨_, _, b3, b4, b5, b6⟩ := HBD.out
        have hM1 := heap_alloc_new w3 (.cells #[.slice x1 M.fl.length y1, .slice x2 M.fr.length y2, .int .i64 M.ll, .int .i64 M.rl] 61)
        have HM1 := Lib.hid hM1
        have hfl : M.fl.length ≤ 2000 := by omega
        have hfr : M.fr.length ≤ 2000 := by have := HSA.out; omega
        clear hM1 HSA HBD
        have hA : Below w3.heap.size w3 (w3.alloc (.cells #[.slice x1 M.fl.length y1, .slice x2 M.fr.length y2, .int .i64 M.ll, .int .i64 M.rl] 61)) := (Below.refl _ _).alloc (Nat.le_refl _) _
        have HA := Lib.hid hA
        clear hA
        go_wp2_with fail
        refine (canon_any M.rl x2 y2 M.fr _ (by omega) (fun x hx => by have := HOR.out.2.2.2 x hx; omega) ((HT2.out.below HA.out).up HA.out.size)).mono ?_
        rintro e w4 ⟨v1, rfl, hov1, hb4⟩
        have hcell := (hb4.block w3.heap.size (by simp)).trans HM1.out
        obtain ⟨c0, c1', c2', c3', _⟩ := mg_cells hcell
        have hb34 := HA.out.trans (hb4.mono (by simp))
        have hb14 := hb13.trans (hb34.mono hz13)
        have hz34 := hb34.size
        rw [← HLR.out] at hov1
        have hov2 : Hid (Owns w4 w.heap.size v1 (leftR s L R)) := owns_base hov1.out (by simp; omega)
        have hT3 : Hid (Tbs w4 w4.heap.size x1 M.fl) := (HT1.out.below hb34).up hz34
        clear hcell HM1 HA hb4 hov1 HT1 HT2 hb34
        go_wp2_with fail
        refine (canon_any M.ll x1 y1 M.fl w4 (by omega) (fun x hx => by have := HOR.out.2.2.1 x hx; omega) hT3.out).mono ?_
        rintro e w5 ⟨v2, rfl, hov3, hb5⟩
        rw [← HRR.out] at hov3
        have hz14 := hb14.size
        have hov4 : Hid (Owns w5 w.heap.size v2 (rightR s L R)) := owns_base hov3.out (by omega)
        have hov5 : Hid (Owns w5 w.heap.size v1 (leftR s L R)) := hov2.out.below hb5
        have hb15 := hb14.trans (hb5.mono hz14)
        obtain ⟨q1, q2, rfl⟩ := owns_form hov4.out
        obtain ⟨q3, q4, rfl⟩ := owns_form hov5.out
        clear hov2 hov3 hT3 hb5 c0 c1' c2' c3' HLR HRR HOR
        generalize hLL : (leftR s L R).length = LL at *
        generalize hRL : (rightR s L R).length = RL at *
        clear hLL hRL
        by_cases h50 : (50 : Int) < LL
        · have HE3 := Lib.hid (HE2.out.trans (if_pos (Or.inl h50)))
          clear HE2
          go_wp2_with fail
          go_ret3
          exact ⟨_, _, by rw [HE3.out]; rfl, by rw [trL, if_neg (by rw [HE3.out]; decide)]; exact none_owns _ _, by rw [trR, if_neg (by rw [HE3.out]; decide)]; exact none_owns _ _, hb15⟩
        · by_cases h51 : (50 : Int) < RL
          · have HE3 := Lib.hid (HE2.out.trans (if_pos (Or.inr h51)))
            clear HE2
            go_wp2_with fail
            go_ret3
            exact ⟨_, _, by rw [HE3.out]; rfl, by rw [trL, if_neg (by rw [HE3.out]; decide)]; exact none_owns _ _, by rw [trR, if_neg (by rw [HE3.out]; decide)]; exact none_owns _ _, hb15⟩
          · have HE3 := Lib.hid (HE2.out.trans (if_neg (by omega)))
            clear HE2
            go_wp2_with fail
            go_ret3
            exact ⟨_, _, by rw [HE3.out]; rfl, by rw [trL, if_pos HE3.out]; exact hov5, by rw [trR, if_pos HE3.out]; exact hov4, hb15⟩
    · have hE : trErr s L R = errV s.size R := by rw [trErr, if_neg (by simp [he1]), if_pos he2]
      have hR1 : trL s L R = [] := by rw [trL, if_neg (by rw [hE]; exact he2)]
      have hR2 : trR s L R = [] := by rw [trR, if_neg (by rw [hE]; exact he2)]
      have HE := Lib.hid hE
      have HR1 := Lib.hid hR1
      have HR2 := Lib.hid hR2
      have HV1 : Hid (Calls Try.prog 18 #[.string s, .slice a1 L.length c1] w fun e w' => e = .returned (.int .i64 0) ∧ Below w.heap.size w w') := he1 ▸ hv1
      generalize errV s.size R = v at *
      have hvv : (v != 0) = true := by simpa using he2
      have HV2 := Lib.hid hv2
      clear hv1 hv2 he1 he2 hE hR1 hR2 hs hl1 hl2
      go_enter Try.func17, Try.ntmps17
      go_wp2_with fail
      refine HV1.out.mono ?_
      rintro e w1 ⟨rfl, hb1⟩
      go_wp2_with fail
      refine (HV2.out w1 hb1).mono ?_
      rintro e w2 ⟨rfl, hb2⟩
      have hb12 := hb1.trans (hb2.mono hb1.size)
      clear HV1 HV2
      go_wp2_with fail
      go_ret3
      exact ⟨_, _, by rw [HE.out]; rfl, by rw [HR1.out]; exact none_owns _ _, by rw [HR2.out]; exact none_owns _ _, hb12⟩
  · have hE : trErr s L R = errV s.size L := by rw [trErr, if_pos he1]
    have hR1 : trL s L R = [] := by rw [trL, if_neg (by rw [hE]; exact he1)]
    have hR2 : trR s L R = [] := by rw [trR, if_neg (by rw [hE]; exact he1)]
    have HE := Lib.hid hE
    have HR1 := Lib.hid hR1
    have HR2 := Lib.hid hR2
    generalize errV s.size L = v at *
    have hvv : (v != 0) = true := by simpa using he1
    have HV1 := Lib.hid hv1
    clear hv1 hv2 he1 hE hR1 hR2 hs hl1 hl2
    go_enter Try.func17, Try.ntmps17
    go_wp2_with fail
    refine HV1.out.mono ?_
    rintro e w1 ⟨rfl, hb1⟩
    clear HV1
    go_wp2_with fail
    go_ret3
    exact ⟨_, _, by rw [HE.out]; rfl, by rw [HR1.out]; exact none_owns _ _, by rw [HR2.out]; exact none_owns _ _, hb1⟩
end Go.Proofs.Ytbkiliiopondaaa
