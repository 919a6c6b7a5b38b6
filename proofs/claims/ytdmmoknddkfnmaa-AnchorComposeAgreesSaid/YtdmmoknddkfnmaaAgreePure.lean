/-
  Plain mathematics: for a byte that both lists retain, the composed list leads where both lists lead in turn.
-/
import Derived.Test.YtdmmoknddkfnmaaBackPure
import Derived.Test.YtdmmoknddkfnmaaWrapC
namespace Go.Proofs.Ytdmmoknddkfnmaa
open Go.RowKit


/-- Where the rewritten text holds the retained entry. -/
theorem mp_tb {src : List Tb} {o : Nat} (ho : o < src.length) {l : List Ed} : ∀ {p q : Int}, 0 ≤ p → p ≤ q + 1 → p ≤ o → sepFrom src.length q l = true → delAt l o = false →
    p ≤ mp o true l ∧ (rewFrom src p l)[(mp o true l - p).toNat]? = src[o]? := by
  induction l with
  | nil =>
    intro p q h0 _ h1 _ _
    refine ⟨by simpa [mp] using h1, ?_⟩
    simp only [mp, rewFrom, List.getElem?_drop]
    rw [show p.toNat + ((o : Int) - p).toNat = o from by omega]
  | cons x t ih =>
    intro p q h0 hpq h1 hs hd
    have hord := sep_ordB hs
    obtain ⟨a, b, c⟩ := ordB_cons hord
    obtain ⟨d1, d2⟩ := delAt_cons hd
    have hs' : x.e ≤ src.length ∧ sepFrom src.length x.e t = true := by
      unfold sepFrom at hs
      split at hs
      · cases hs
      · exact ⟨by omega, hs⟩
    obtain ⟨hxn, hs'⟩ := hs'
    have htk : ((src.drop p.toNat).take (x.s.toNat - p.toNat)).length = x.s.toNat - p.toNat := by
      rw [List.length_take, List.length_drop]; omega
    have htz := insT_length x.t
    rcases mp_ways (o := (o : Int)) (r := true) (t := t) b with ⟨w1, w2, w3⟩ | ⟨w1, w2, w3⟩ | ⟨w1, w2, w3⟩
    · omega
    · obtain ⟨i1, i2⟩ := ih (p := x.e) (q := x.e) (by omega) (by omega) (by omega) hs' d2
      rw [w3]
      refine ⟨by omega, ?_⟩
      rw [rewFrom, List.getElem?_append_right (by rw [htk]; omega), List.getElem?_append_right (by rw [htk, htz]; omega), htk, htz]
      rw [← i2]
      congr 1
      omega
    · have hlt : (o : Int) < x.s := by
        rcases prec_false w2 with q | ⟨_, _, q⟩
        · omega
        · cases q
      have hb := mp_before (r := true) (o := (o : Int)) (p := x.e) (by omega) c
      rw [w3, hb]
      refine ⟨h1, ?_⟩
      rw [rewFrom, List.getElem?_append_left (by rw [htk]; omega), List.getElem?_take, if_pos (by omega), List.getElem?_drop]
      rw [show p.toNat + ((o : Int) - p).toNat = o from by omega]

theorem del_before {n : Int} {l : List Ed} {o : Int} : ∀ {q : Int}, o ≤ q → sepFrom n q l = true → delAt l o = false := by
  induction l with
  | nil => intro q _ _; rfl
  | cons x t ih =>
    intro q h hs
    unfold sepFrom at hs
    split at hs
    · cases hs
    · unfold delAt
      rw [if_neg (by omega)]
      exact ih (q := x.e) (by omega) hs

theorem del_append {a b : List Ed} {o : Int} (h1 : delAt a o = false) (h2 : delAt b o = false) : delAt (a ++ b) o = false := by
  induction a with
  | nil => exact h2
  | cons x t ih =>
    obtain ⟨d1, d2⟩ := delAt_cons h1
    show delAt (x :: (t ++ b)) o = false
    unfold delAt
    rw [if_neg d1]
    exact ih d2

/-- The canonical list does not delete what the text holds. -/
theorem canon_keeps {n : Int} {T : List Tb} {o : Int} (ho : 0 ≤ o) : ∀ {p : Int} {g : List UInt8}, p ≤ n → (kept T).Pairwise (fun a b => a.o < b.o) → (∀ x, x ∈ T → x.o ≠ -1 → p ≤ x.o ∧ x.o < n) → (∃ x, x ∈ T ∧ x.o = o) →
    delAt (canonFrom n p g T) o = false := by
  induction T with
  | nil => intro p g _ _ _ ⟨x, hx, _⟩; cases hx
  | cons x r ih =>
    intro p g h2 hk hp hex
    unfold canonFrom
    by_cases hx : x.o = -1
    · rw [if_pos hx]
      refine ih h2 (hk.sublist (kept_sub (List.sublist_cons_self x r))) (fun y hy => hp y (List.mem_cons_of_mem _ hy)) ?_
      obtain ⟨y, hy, hyo⟩ := hex
      rcases List.mem_cons.1 hy with rfl | hy
      · omega
      · exact ⟨y, hy, hyo⟩
    · rw [if_neg hx]
      have q2 := hp x (List.mem_cons_self) hx
      have hk' := hk
      rw [kept, List.filter_cons, if_pos (by simpa using hx)] at hk'
      obtain ⟨k1, k2⟩ := List.pairwise_cons.1 hk'
      have hnext : ∀ y, y ∈ r → y.o ≠ -1 → x.o + 1 ≤ y.o ∧ y.o < n := by
        intro y hy hyo
        have a := k1 y (List.mem_filter.2 ⟨hy, by simpa using hyo⟩)
        have b := hp y (List.mem_cons_of_mem _ hy) hyo
        omega
      have hadd : ∀ s e g, o < s ∨ e ≤ o → delAt (addC s e g) o = false := by
        intro s e g h
        unfold addC
        split
        · rfl
        · unfold delAt
          rw [if_neg (by simp only; omega)]
          rfl
      obtain ⟨y, hy, hyo⟩ := hex
      rcases List.mem_cons.1 hy with rfl | hy
      · refine del_append (hadd _ _ _ (by omega)) ?_
        exact del_before (n := n) (q := y.o) (by omega) (canon_sep (by omega) (by omega) k2 hnext)
      · have := hnext y hy (by omega)
        exact del_append (hadd _ _ _ (by omega)) (ih (by omega) k2 hnext ⟨y, hy, hyo⟩)

theorem kept_unique {T : List Tb} : ∀ {i j : Nat} {a b : Tb}, (kept T).Pairwise (fun a b => a.o < b.o) → T[i]? = some a → T[j]? = some b → a.o = b.o → a.o ≠ -1 → i = j := by
  induction T with
  | nil => intro i j a b _ h; simp at h
  | cons x r ih =>
    intro i j a b hk ha hb hab h1
    have hlt : x.o ≠ -1 → ∀ y, y ∈ r → y.o ≠ -1 → x.o < y.o := by
      intro hx y hy hyo
      rw [kept, List.filter_cons, if_pos (by simpa using hx)] at hk
      exact (List.pairwise_cons.1 hk).1 y (List.mem_filter.2 ⟨hy, by simpa using hyo⟩)
    cases i with
    | zero =>
      simp at ha
      subst ha
      cases j with
      | zero => rfl
      | succ j =>
        simp at hb
        have := hlt h1 b (List.mem_of_getElem? hb) (by omega)
        omega
    | succ i =>
      simp at ha
      cases j with
      | zero =>
        simp at hb
        subst hb
        have := hlt (by omega) a (List.mem_of_getElem? ha) h1
        omega
      | succ j =>
        simp at hb
        rw [ih (hk.sublist (kept_sub (List.sublist_cons_self x r))) ha hb hab h1]

theorem agree {s : ByteArray} {l1 l2 : List Ed} {o : Nat} (h : compErr s l1 l2 = 0) (ho : o < s.size) (hd1 : delAt l1 o = false) (hd2 : delAt l2 (mp o true l1) = false) :
    0 ≤ mp o true l1 ∧ mp o true l1 ≤ 2000 ∧ 0 ≤ mp (mp o true l1) true l2 ∧ mp (mp o true l1) true l2 ≤ 2000 ∧ mp o true (compL s l1 l2) = mp (mp o true l1) true l2 := by
  obtain ⟨h1, h2, h3, _⟩ := comp_zero h
  have hv := (comp_valid h).1
  have e := str_length s
  have hlen : (traceL s.data.toList).length = s.size := by rw [traceL, trace_length, e]
  obtain ⟨x, hx⟩ : ∃ x, (traceL s.data.toList)[o]? = some x := ⟨_, List.getElem?_eq_getElem (by omega)⟩
  have hxo : x.o = o := by have := (trace_at hx).1; omega
  have m1 := mp_tb (src := traceL s.data.toList) (o := o) (by omega) (p := 0) (q := -1) (by omega) (by omega) (by omega) (by rw [hlen]; exact (errV_zero h1).2.2.1) hd1
  rw [Int.sub_zero] at m1
  have g1 : (rewL (traceL s.data.toList) l1)[(mp o true l1).toNat]? = some x := m1.2.trans hx
  have hm1 : (mp o true l1).toNat < (rewL (traceL s.data.toList) l1).length := (List.getElem?_eq_some_iff.1 g1).1
  have hml := mid_length s l1
  have hnat : ((mp o true l1).toNat : Int) = mp o true l1 := by omega
  have m2 := mp_tb (src := rewL (traceL s.data.toList) l1) (o := (mp o true l1).toNat) hm1 (l := l2) (p := 0) (q := -1) (by omega) (by omega) (by omega) (by rw [hml]; exact (errV_zero h2).2.2.1) (by rw [hnat]; exact hd2)
  rw [Int.sub_zero, hnat] at m2
  have g2 : (finalT s l1 l2)[(mp (mp o true l1) true l2).toNat]? = some x := m2.2.trans g1
  have hg := final_good h1 h2
  have hb : ∀ y, y ∈ finalT s l1 l2 → y.o ≠ -1 → (0 : Int) ≤ y.o ∧ y.o < s.size := fun y hy hyo => by
    obtain ⟨a, b⟩ := hg.2 y hy hyo
    have := (List.getElem?_eq_some_iff.1 b).1
    omega
  have hdc : delAt (compL s l1 l2) o = false := canon_keeps (o := (o : Int)) (by omega) (p := 0) (g := []) (by omega) hg.1 hb ⟨x, List.mem_of_getElem? g2, hxo⟩
  have m3 := mp_tb (src := traceL s.data.toList) (o := o) (by omega) (l := compL s l1 l2) (p := 0) (q := -1) (by omega) (by omega) (by omega) (by rw [hlen]; exact (errV_zero hv).2.2.1) hdc
  rw [Int.sub_zero] at m3
  have hct : rewL (traceL s.data.toList) (compL s l1 l2) = finalT s l1 l2 := by
    have := canon_text hg
    rw [e] at this
    exact this
  have g3 : (finalT s l1 l2)[(mp o true (compL s l1 l2)).toNat]? = some x := by
    rw [← hct]; exact m3.2.trans hx
  have hu := kept_unique hg.1 g3 g2 rfl (by omega)
  have hf := final_le h2
  have hf2 := (List.getElem?_eq_some_iff.1 g2).1
  have ha := applyS_le h1
  exact ⟨m1.1, by omega, m2.1, by omega, by have := m3.1; omega⟩
end Go.Proofs.Ytdmmoknddkfnmaa
