/-
  Plain mathematics: what Apply gives, and how long it is.
-/
import Derived.Test.YtbomilleckgalaaGreatTeBase
namespace Go.Proofs.YtbomilleckgalaaGreat.Te

def applyFrom (src : List UInt8) : Int → List Ed → List UInt8
  | p, [] => src.drop p.toNat
  | p, x :: r => (src.drop p.toNat).take (x.s.toNat - p.toNat) ++ (x.t.data.toList ++ applyFrom src x.e r)

def applyL (src : List UInt8) (l : List Ed) : List UInt8 := applyFrom src 0 l

def Ord (n : Int) : Int → List Ed → Prop
  | p, [] => p ≤ n
  | p, x :: r => p ≤ x.s ∧ x.s ≤ x.e ∧ Ord n x.e r

theorem Ord.le {n : Int} {l : List Ed} : ∀ {p : Int}, Ord n p l → p ≤ n := by
  induction l with
  | nil => intro p h; exact h
  | cons x r ih => intro p h; have := ih h.2.2; have := h.1; have := h.2.1; omega

theorem sep_ord {n : Int} {l : List Ed} : ∀ {p q : Int}, p ≤ q + 1 → p ≤ n → sepFrom n q l = true → Ord n p l := by
  induction l with
  | nil => intro p q _ h _; exact h
  | cons y r ih =>
    intro p q hpq hpn h
    unfold sepFrom at h
    split at h
    · simp at h
    · exact ⟨by omega, by omega, ih (by omega) (by omega) h⟩

theorem Ord.drop {n : Int} {l : List Ed} : ∀ {p : Int} {k : Nat} {x : Ed}, Ord n p l → l[k]? = some x → p ≤ x.s ∧ x.s ≤ x.e ∧ x.e ≤ n ∧ Ord n x.e (l.drop (k + 1)) := by
  induction l with
  | nil => intro p k x _ h; simp at h
  | cons y r ih =>
    intro p k x h hx
    cases k with
    | zero =>
      simp at hx
      subst hx
      exact ⟨h.1, h.2.1, h.2.2.le, by simpa using h.2.2⟩
    | succ k =>
      simp at hx
      obtain ⟨a, b, c, d⟩ := ih h.2.2 hx
      have := h.1
      have := h.2.1
      exact ⟨by omega, b, c, by simpa using d⟩

theorem apply_len {src : List UInt8} {l : List Ed} : ∀ {p : Int}, 0 ≤ p → Ord src.length p l → ((applyFrom src p l).length : Int) = src.length - p - dsum l + tsum l := by
  induction l with
  | nil => intro p h0 h; have := h.le; simp [applyFrom, dsum, tsum]; omega
  | cons x r ih =>
    intro p h0 h
    obtain ⟨h1, h2, h3⟩ := h
    have h4 := ih (p := x.e) (by omega) h3
    have h5 := h3.le
    simp only [applyFrom, dsum, tsum, List.length_append, List.length_take, List.length_drop, Array.length_toList]
    have h6 : x.t.data.size = x.t.size := rfl
    rw [h6]
    omega

theorem errV_zero {n : Int} {l : List Ed} (h : errV n l = 0) : n ≤ 2000 ∧ l.length ≤ 50 ∧ sepFrom n (-1) l = true ∧ fitsB n l = true := by
  unfold errV at h
  repeat' (split at h)
  all_goals first | omega | skip
  refine ⟨by omega, by omega, by simp_all, by simp_all⟩

theorem apply_le {src : List UInt8} {l : List Ed} (h : errV src.length l = 0) : (applyL src l).length ≤ 2000 := by
  obtain ⟨h1, h2, h3, h4⟩ := errV_zero h
  have := apply_len (p := 0) (by omega) (sep_ord (p := 0) (by omega) (by omega) h3)
  unfold fitsB at h4
  have h5 := of_decide_eq_true h4
  unfold applyL
  omega

theorem drop_at {α : Type} {l : List α} {k : Nat} {x : α} (h : l[k]? = some x) : l.drop k = x :: l.drop (k + 1) := by
  obtain ⟨hk, rfl⟩ := List.getElem?_eq_some_iff.1 h
  exact List.drop_eq_getElem_cons hk

theorem ord_step {n q : Int} {l : List Ed} {k : Nat} {x : Ed} (hx : l[k]? = some x) (h : Ord n q (l.drop k)) : q ≤ x.s ∧ x.s ≤ x.e ∧ x.e ≤ n ∧ Ord n x.e (l.drop (k + 1)) := by
  rw [drop_at hx] at h
  exact ⟨h.1, h.2.1, h.2.2.le, h.2.2⟩

theorem acc_step {src acc out : List UInt8} {q : Int} {l : List Ed} {k : Nat} {x : Ed} (hx : l[k]? = some x) (h : out = acc ++ applyFrom src q (l.drop k)) :
    out = (acc ++ (src.drop q.toNat).take (x.s.toNat - q.toNat) ++ x.t.data.toList) ++ applyFrom src x.e (l.drop (k + 1)) := by
  rw [h, drop_at hx, applyFrom]
  simp

theorem acc_bd {src acc out : List UInt8} {q : Int} {l : List Ed} {k : Nat} {x : Ed} (hx : l[k]? = some x) (h : out = acc ++ applyFrom src q (l.drop k)) :
    acc.length + ((src.drop q.toNat).take (x.s.toNat - q.toNat)).length + x.t.size ≤ out.length := by
  have h1 := acc_step hx h
  have h2 : x.t.data.toList.length = x.t.size := by rw [Array.length_toList]; rfl
  rw [h1, List.length_append, List.length_append, List.length_append, h2]
  omega

theorem acc_last {src acc out : List UInt8} {q : Int} {l : List Ed} {k : Nat} (hk : l.length ≤ k) (h : out = acc ++ applyFrom src q (l.drop k)) : out = acc ++ src.drop q.toNat := by
  rw [h, List.drop_eq_nil_of_le hk, applyFrom]
end Go.Proofs.YtbomilleckgalaaGreat.Te
