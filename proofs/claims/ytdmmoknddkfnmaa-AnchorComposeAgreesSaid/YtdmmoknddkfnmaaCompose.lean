/-
  textedit.Compose by its contract.
-/
import Derived.Test.YtdmmoknddkfnmaaRewrite
import Derived.Test.YtdmmoknddkfnmaaApply
import Derived.Test.YtdmmoknddkfnmaaCanonW
namespace Go.Proofs.Ytdmmoknddkfnmaa
open Go.RowKit

/-- What Apply gives. -/
def applyS (s : ByteArray) (l : List Ed) : ByteArray := ⟨(applyL s.data.toList l).toArray⟩

theorem applyS_data (s : ByteArray) (l : List Ed) : (applyS s l).data.toList = applyL s.data.toList l := rfl
theorem applyS_size (s : ByteArray) (l : List Ed) : (applyS s l).size = (applyL s.data.toList l).length := by rw [Lib.size_eq, applyS_data]
theorem applyS_le {s : ByteArray} {l : List Ed} (h : errV s.size l = 0) : (applyS s l).size ≤ 2000 := by rw [applyS_size]; exact apply_le (by rw [← Lib.size_eq]; exact h)

theorem insT_v (t : ByteArray) : (insT t).map Tb.v = t.data.toList := by simp [insT, Function.comp_def]
theorem rew_v {text : List Tb} {l : List Ed} : ∀ {p : Int}, (rewFrom text p l).map Tb.v = applyFrom (text.map Tb.v) p l := by
  induction l with
  | nil => intro p; simp [rewFrom, applyFrom]
  | cons x r ih => intro p; simp [rewFrom, applyFrom, ih, insT_v]
theorem trace_v {l : List UInt8} : ∀ {i : Int}, (traceFrom i l).map Tb.v = l := by
  induction l with
  | nil => intro i; rfl
  | cons x r ih => intro i; simp [traceFrom, ih]
theorem rew_length (text : List Tb) (l : List Ed) : (rewL text l).length = (applyL (text.map Tb.v) l).length := by
  rw [applyL, ← rew_v, List.length_map]; rfl

/-- Every origin lies in this range. -/
def Orig (n : Int) (l : List Tb) : Prop := ∀ x, x ∈ l → -1 ≤ x.o ∧ x.o ≤ n

theorem orig_trace (l : List UInt8) : Orig l.length (traceL l) := by
  intro x hx
  obtain ⟨k, hk⟩ := List.mem_iff_getElem?.1 hx
  obtain ⟨h1, h2⟩ := trace_at hk
  have := (List.getElem?_eq_some_iff.1 h2).1
  omega

theorem orig_rew {n : Int} {text : List Tb} (h : Orig n text) (hn : 0 ≤ n) {l : List Ed} : ∀ {p : Int}, Orig n (rewFrom text p l) := by
  induction l with
  | nil => intro p x hx; exact h x (List.mem_of_mem_drop hx)
  | cons y r ih =>
    intro p x hx
    simp only [rewFrom, List.mem_append] at hx
    rcases hx with hx | hx | hx
    · exact h x (List.mem_of_mem_drop (List.mem_of_mem_take hx))
    · simp only [insT, List.mem_map] at hx
      obtain ⟨c, _, rfl⟩ := hx
      exact ⟨by simp, by simp; omega⟩
    · exact ih x hx

def finalT (s : ByteArray) (l1 l2 : List Ed) : List Tb := rewL (rewL (traceL s.data.toList) l1) l2
def compL (s : ByteArray) (l1 l2 : List Ed) : List Ed := canonL s.size (finalT s l1 l2)
def compErr (s : ByteArray) (l1 l2 : List Ed) : Int :=
  if errV s.size l1 ≠ 0 then errV s.size l1 else if errV (applyS s l1).size l2 ≠ 0 then errV (applyS s l1).size l2 else if (50 : Int) < (compL s l1 l2).length then 2 else 0
def compR (s : ByteArray) (l1 l2 : List Ed) : List Ed := if compErr s l1 l2 = 0 then compL s l1 l2 else []

theorem mid_v (s : ByteArray) (l1 : List Ed) : (rewL (traceL s.data.toList) l1).map Tb.v = applyL s.data.toList l1 := by
  rw [rewL, rew_v, traceL, trace_v]; rfl
theorem mid_length (s : ByteArray) (l1 : List Ed) : (rewL (traceL s.data.toList) l1).length = (applyS s l1).size := by
  rw [applyS_size, ← mid_v, List.length_map]
theorem final_v (s : ByteArray) (l1 l2 : List Ed) : (finalT s l1 l2).map Tb.v = applyL (applyS s l1).data.toList l2 := by
  rw [finalT, rewL, rew_v, mid_v]; rfl
theorem final_le {s : ByteArray} {l1 l2 : List Ed} (h : errV (applyS s l1).size l2 = 0) : (finalT s l1 l2).length ≤ 2000 := by
  have := congrArg List.length (final_v s l1 l2)
  rw [List.length_map] at this
  rw [this]
  exact apply_le (by rw [← Lib.size_eq]; exact h)

theorem none_owns (w : World) (B : Nat) : Owns w B (.slice none 0 0) [] := World.ownsRow_nil _ _ _ _

theorem owns_form {w : World} {B e size n : Nat} {v : Value} {xs : List Value} (h : w.ownsRow B e size v n xs) : ∃ a c, v = .slice a n c := by
  rcases h.2 with ⟨hv, h0⟩ | ⟨b, cap, cur, hv, _⟩
  · exact ⟨_, _, by rw [hv, h0]⟩
  · exact ⟨_, _, hv⟩

theorem owns_base {w : World} {B B' e size n : Nat} {v : Value} {xs : List Value} (h : w.ownsRow B e size v n xs) (hB : B' ≤ B) : w.ownsRow B' e size v n xs :=
  ⟨h.1, h.2.imp id fun ⟨g, c, u, q1, q2, q3⟩ => ⟨g, c, u, q1, by omega, q3⟩⟩

set_option maxHeartbeats 1000000 in
set_option maxRecDepth 100000 in
theorem compose_any (s : ByteArray) (a1 : Option Addr) (c1 : Nat) (l1 : List Ed) (a2 : Option Addr) (c2 : Nat) (l2 : List Ed) (w : World) (hs : s.size ≤ maxLen) (hl1 : l1.length ≤ maxLen) (hl2 : l2.length ≤ maxLen) (h1 : Eds w w.heap.size a1 l1) (h2 : Eds w w.heap.size a2 l2) :
    Calls Try.prog 13 #[.string s, .slice a1 l1.length c1, .slice a2 l2.length c2] w fun e w' => ∃ v, e = .returned (.tuple #[v, .int .i64 (compErr s l1 l2)]) ∧ Hid (Owns w' w.heap.size v (compR s l1 l2)) ∧ Below w.heap.size w w' := by
  by_cases he1 : errV s.size l1 = 0
  · have hc1 := apply_ok s a1 c1 l1 w hs hl1 h1 he1
    have hsz := applyS_le he1
    have hv := fun w' (hb : Below w.heap.size w w') => valid_any (applyS s l1) a2 c2 l2 w' (by unfold maxLen; omega) hl2 ((h2.below hb).up hb.size)
    by_cases he2 : errV (applyS s l1).size l2 = 0
    · have hE : compErr s l1 l2 = if (50 : Int) < (compL s l1 l2).length then 2 else 0 := by rw [compErr, if_neg (by simp [he1]), if_neg (by simp [he2])]
      obtain ⟨hn1, hl15, hsep1, _⟩ := errV_zero he1
      obtain ⟨hn2, hl25, hsep2, _⟩ := errV_zero he2
      have ho1 : Hid (Ord (traceL s.data.toList).length 0 l1) := by
        show Ord _ _ _
        rw [traceL, trace_length, ← Lib.size_eq]
        exact sep_ord (by omega) (by omega) hsep1
      have ho2 : Hid (Ord (rewL (traceL s.data.toList) l1).length 0 l2) := by
        show Ord _ _ _
        rw [mid_length]
        exact sep_ord (by omega) (by omega) hsep2
      have hm1 := mid_length s l1
      have hf1 := final_le he2
      have hor : Hid (Orig s.size (finalT s l1 l2)) := orig_rew (orig_rew (by rw [Lib.size_eq]; exact orig_trace _) (by omega)) (by omega)
      have HC1 := Lib.hid hc1
      have HV := Lib.hid hv
      have HE2 := Lib.hid he2
      have HE := Lib.hid hE
      have hml : (rewL (traceL s.data.toList) l1).length ≤ 100000 := by omega
      clear hc1 hv he1 he2 hE hsep1 hsep2 hm1 hs hl1 hl2
      go_enter Try.func13, Try.ntmps13
      go_wp2_with fail
      refine HC1.out.mono ?_
      rintro e w1 ⟨rfl, hb1⟩
      rw [show (⟨(applyL s.data.toList l1).toArray⟩ : ByteArray) = applyS s l1 from rfl]
      go_wp2_with fail
      refine (HV.out w1 hb1).mono ?_
      rintro e w2 ⟨rfl, hb2⟩
      have hb12 := hb1.trans (hb2.mono hb1.size)
      have hz2 := hb12.size
      have hz1 := hb1.size
      have HV0 : Hid (errV (applyS s l1).size l2 = 0) := HE2.out
      rw [HV0.out]
      clear HV HV0 HC1
      go_wp2_with fail
      refine (trace_any s w2 (by omega)).mono ?_
      rintro e w3 ⟨tv, rfl, ht3, hb3⟩
      have hb13 := hb12.trans (hb3.mono hz2)
      have hz3 := hb13.size
      have hz23 := hb3.size
      go_wp2_with fail
      refine (rewrite_any w2.heap.size tv _ a1 c1 l1 w3 ht3 ((h1.below hb13).up hz3) ho1 hl15 hml).mono ?_
      rintro e w4 ⟨tv2, rfl, ht4, hb4⟩
      have hb14 := hb13.trans (hb4.mono hz3)
      have hz4 := hb14.size
      have hz34 := hb4.size
      clear ht3
      go_wp2_with fail
      refine (rewrite_any w3.heap.size tv2 _ a2 c2 l2 w4 ht4 ((h2.below hb14).up hz4) ho2 hl25 (Nat.le_trans hf1 (by omega))).mono ?_
      rintro e w5 ⟨tv3, rfl, ht5, hb5⟩
      have hb15 := hb14.trans (hb5.mono hz4)
      have hz5 := hb15.size
      obtain ⟨a3, c3, rfl, _, _, hts⟩ := ht5.out.tbs
      have HTS := Lib.hid hts
      clear ht4 ht5 hts
      go_wp2_with fail
      rw [show rewL (rewL (traceL s.data.toList) l1) l2 = finalT s l1 l2 from rfl]
      refine (canon_any s.size a3 c3 (finalT s l1 l2) w5 (Nat.le_trans hf1 (by omega)) (fun x hx => by have := hor.out x hx; omega) HTS.out).mono ?_
      rintro e w6 ⟨v, rfl, hown, hb6⟩
      rw [show canonL s.size (finalT s l1 l2) = compL s l1 l2 from rfl] at hown
      have hown2 : Hid (Owns w6 w.heap.size v (compL s l1 l2)) := owns_base hown.out hz5
      have hb16 := hb15.trans (hb6.mono hz5)
      obtain ⟨av, cv, rfl⟩ := owns_form hown.out
      clear hown HTS
      generalize hL : (compL s l1 l2).length = L at *
      have HL := Lib.hid hL
      clear hL
      by_cases h50 : (50 : Int) < L
      · have HE3 := Lib.hid (HE.out.trans (if_pos h50))
        clear HE
        go_wp2_with fail
        go_ret2
        exact ⟨_, by rw [HE3.out]; rfl, by rw [compR, if_neg (by rw [HE3.out]; decide)]; exact none_owns _ _, hb16⟩
      · have HE3 := Lib.hid (HE.out.trans (if_neg h50))
        clear HE
        go_wp2_with fail
        go_ret2
        exact ⟨_, by rw [HE3.out]; rfl, by rw [compR, if_pos HE3.out]; exact hown2, hb16⟩
    · have hE : compErr s l1 l2 = errV (applyS s l1).size l2 := by rw [compErr, if_neg (by simp [he1]), if_pos he2]
      have hR : compR s l1 l2 = [] := by rw [compR, if_neg (by rw [hE]; exact he2)]
      have HE := Lib.hid hE
      have HR := Lib.hid hR
      generalize errV (applyS s l1).size l2 = v at *
      have hv1 : (v != 0) = true := by simpa using he2
      have HC1 := Lib.hid hc1
      have HV := Lib.hid hv
      clear hc1 hv he1 he2 hE hR hs hl1 hl2
      go_enter Try.func13, Try.ntmps13
      go_wp2_with fail
      refine HC1.out.mono ?_
      rintro e w1 ⟨rfl, hb1⟩
      rw [show (⟨(applyL s.data.toList l1).toArray⟩ : ByteArray) = applyS s l1 from rfl]
      go_wp2_with fail
      refine (HV.out w1 hb1).mono ?_
      rintro e w2 ⟨rfl, hb2⟩
      have hb12 := hb1.trans (hb2.mono hb1.size)
      clear HV HC1
      go_wp2_with fail
      go_ret2
      exact ⟨_, by rw [HE.out]; rfl, by rw [HR.out]; exact none_owns _ _, hb12⟩
  · have hE : compErr s l1 l2 = errV s.size l1 := by rw [compErr, if_pos he1]
    have hR : compR s l1 l2 = [] := by rw [compR, if_neg (by rw [hE]; exact he1)]
    have hc1 := apply_bad s a1 c1 l1 w hs hl1 h1 he1
    have HE := Lib.hid hE
    have HR := Lib.hid hR
    generalize errV s.size l1 = v at *
    have hv1 : (v != 0) = true := by simpa using he1
    have HC1 := Lib.hid hc1
    clear hc1 he1 hE hR hs hl1 hl2
    go_enter Try.func13, Try.ntmps13
    go_wp2_with fail
    refine HC1.out.mono ?_
    rintro e w1 ⟨rfl, hb1⟩
    clear HC1
    go_wp2_with fail
    go_ret2
    exact ⟨_, by rw [HE.out]; rfl, by rw [HR.out]; exact none_owns _ _, hb1⟩
end Go.Proofs.Ytdmmoknddkfnmaa
