/-
  Plain mathematics: applying edits byte by byte gives the rewritten text.
-/
import Derived.Test.YtbkiliiopondaaaRefAt
import Derived.Test.YtbkiliiopondaaaCanonPure
namespace Go.Proofs.Ytbkiliiopondaaa

/-- From the i-th offset on: t: the bytes that are left. -/
def att (l : List Ed) : Int → List Tb → List Tb
  | i, [] => insT (insAt l i)
  | i, x :: t => insT (insAt l i) ++ ((if delAt l i then [] else [x]) ++ att l (i + 1) t)

theorem ins_yes {x : Ed} {r : List Ed} {i : Int} (h : x.s = i) : insAt (x :: r) i = x.t := by rw [insAt, if_pos h]
theorem ins_no {x : Ed} {r : List Ed} {i : Int} (h : ¬ x.s = i) : insAt (x :: r) i = insAt r i := by rw [insAt, if_neg h]
theorem del_yes {x : Ed} {r : List Ed} {i : Int} (h : x.s ≤ i ∧ i < x.e) : delAt (x :: r) i = true := by rw [delAt, if_pos h]
theorem del_no {x : Ed} {r : List Ed} {i : Int} (h : ¬ (x.s ≤ i ∧ i < x.e)) : delAt (x :: r) i = delAt r i := by rw [delAt, if_neg h]

theorem insT_nil : insT ⟨#[]⟩ = [] := rfl

/-- Edits that start behind i neither insert nor delete at i. -/
theorem none_at {n q i : Int} {l : List Ed} (h : sepFrom n q l = true) (hi : i ≤ q) : insAt l i = ⟨#[]⟩ ∧ delAt l i = false := by
  induction l generalizing q with
  | nil => exact ⟨rfl, rfl⟩
  | cons x r ih =>
    rw [sepFrom] at h
    split at h
    · cases h
    · rename_i hc
      have := ih h (by omega)
      exact ⟨by rw [ins_no (by omega)]; exact this.1, by rw [del_no (by omega)]; exact this.2⟩

theorem att_past {x : Ed} {r : List Ed} {t : List Tb} : ∀ {i : Int}, x.s < i → x.e ≤ i → att (x :: r) i t = att r i t := by
  induction t with
  | nil => intro i h1 h2; rw [att, att, ins_no (by omega)]
  | cons y t ih => intro i h1 h2; rw [att, att, ins_no (by omega), del_no (by omega), ih (by omega) (by omega)]

theorem att_none {t : List Tb} : ∀ {i : Int}, att [] i t = t := by
  induction t with
  | nil => intro i; rfl
  | cons y t ih => intro i; rw [att, ih]; simp [insAt, delAt, insT_nil]

/-- Inside the deleted bytes of x. -/
theorem att_in {n : Int} {x : Ed} {r : List Ed} {text : List Tb} (hr : sepFrom n x.e r = true) (hn : x.e ≤ text.length) : ∀ (d : Nat) {i : Int}, 0 ≤ i → x.s < i → i ≤ x.e → (x.e - i).toNat = d →
    att (x :: r) i (text.drop i.toNat) = att r x.e (text.drop x.e.toNat) := by
  intro d
  induction d with
  | zero => intro i h0 h1 h2 h3; obtain rfl : i = x.e := by omega
            exact att_past h1 (by omega)
  | succ d ih =>
    intro i h0 h1 h2 h3
    have hlt : i.toNat < text.length := by omega
    rw [List.drop_eq_getElem_cons hlt, att, ins_no (by omega), del_yes (by omega), (none_at hr (by omega)).1, insT_nil, if_pos rfl]
    have := ih (i := i + 1) (by omega) (by omega) (by omega) (by omega)
    rw [show (i + 1).toNat = i.toNat + 1 from by omega] at this
    simpa using this

theorem att_start {n : Int} {x : Ed} {r : List Ed} {text : List Tb} (hr : sepFrom n x.e r = true) (h0 : 0 ≤ x.s) (h1 : x.s ≤ x.e) (hn : x.e ≤ text.length) :
    att (x :: r) x.s (text.drop x.s.toNat) = insT x.t ++ att r x.e (text.drop x.e.toNat) := by
  by_cases hse : x.s < x.e
  · have hlt : x.s.toNat < text.length := by omega
    rw [List.drop_eq_getElem_cons hlt, att, ins_yes rfl, del_yes (by omega), if_pos rfl]
    have := att_in hr hn (x.e - (x.s + 1)).toNat (i := x.s + 1) (by omega) (by omega) (by omega) rfl
    rw [show (x.s + 1).toNat = x.s.toNat + 1 from by omega] at this
    rw [this]; simp
  · have he : x.s = x.e := by omega
    obtain ⟨n1, n2⟩ := none_at hr (i := x.s) (by omega)
    rw [← he]
    generalize text.drop x.s.toNat = t at *
    cases t with
    | nil => rw [att, att, ins_yes rfl, n1, insT_nil, List.append_nil]
    | cons y t =>
      rw [att, att, ins_yes rfl, del_no (by omega), n1, n2, insT_nil, att_past (by omega) (by omega)]
      simp

theorem att_rew {n : Int} {text : List Tb} (hn : n = text.length) {l : List Ed} : ∀ {p q : Int}, 0 ≤ p → p ≤ q + 1 → sepFrom n q l = true → att l p (text.drop p.toNat) = rewFrom text p l := by
  induction l with
  | nil => intro p q _ _ _; rw [att_none, rewFrom]
  | cons x r ih =>
    intro p q h0 h1 h
    rw [sepFrom] at h
    split at h
    · cases h
    · rename_i hc
      rw [rewFrom, ← ih (p := x.e) (q := x.e) (by omega) (by omega) h, ← att_start (n := n) h (by omega) (by omega) (by omega)]
      have key : ∀ (d : Nat) {p : Int}, 0 ≤ p → p ≤ x.s → (x.s - p).toNat = d → att (x :: r) p (text.drop p.toNat) = (text.drop p.toNat).take (x.s.toNat - p.toNat) ++ att (x :: r) x.s (text.drop x.s.toNat) := by
        intro d
        induction d with
        | zero => intro p h0 h1 h2; obtain rfl : p = x.s := by omega
                  simp
        | succ d ih2 =>
          intro p h0 h1 h2
          have hlt : p.toNat < text.length := by omega
          obtain ⟨n1, n2⟩ := none_at h (i := p) (by omega)
          have := ih2 (p := p + 1) (by omega) (by omega) (by omega)
          rw [show (p + 1).toNat = p.toNat + 1 from by omega] at this
          rw [List.drop_eq_getElem_cons hlt, att, ins_no (by omega), del_no (by omega), n1, n2, this, show x.s.toNat - p.toNat = (x.s.toNat - (p.toNat + 1)) + 1 from by omega, List.take_succ_cons, insT_nil]
          simp
      exact key _ h0 (by omega) rfl

theorem att_all {n : Int} {text : List Tb} (hn : n = text.length) {l : List Ed} (h : sepFrom n (-1) l = true) : att l 0 text = rewL text l := by
  have := att_rew (p := 0) hn (Int.le_refl _) (by omega) h
  rw [rewL]
  simpa using this
end Go.Proofs.Ytbkiliiopondaaa
