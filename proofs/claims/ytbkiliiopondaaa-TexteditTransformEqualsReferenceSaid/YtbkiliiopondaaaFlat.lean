/-
  Plain mathematics: what Apply gives, offset by offset.
-/
import Derived.Test.YtbkiliiopondaaaTransform
import Derived.Test.YtbkiliiopondaaaWrap
namespace Go.Proofs.Ytbkiliiopondaaa

/-- The byte at an offset, if it is there. -/
def byteAt (src : List UInt8) (k : Nat) : List UInt8 := (src[k]?).toList

def off (src : List UInt8) (l : List Ed) (k : Nat) : List UInt8 := (insF l k).data.toList ++ (if delF l k then [] else byteAt src k)

/-- .. from offset k on, m offsets. -/
def flat (f : Nat → List UInt8) : Nat → Nat → List UInt8
  | _, 0 => []
  | k, m + 1 => f k ++ flat f (k + 1) m

theorem flat_add (f : Nat → List UInt8) (a b : Nat) : ∀ k, flat f k (a + b) = flat f k a ++ flat f (k + a) b := by
  induction a with
  | zero => intro k; simp [flat]
  | succ a ih =>
    intro k
    rw [show a + 1 + b = (a + b) + 1 from by omega, flat, ih, flat, List.append_assoc, show k + 1 + a = k + (a + 1) from by omega]

theorem flat_succ (f : Nat → List UInt8) (k m : Nat) : flat f k (m + 1) = flat f k m ++ f (k + m) := by
  rw [flat_add]; simp [flat]

theorem flat_congr {f g : Nat → List UInt8} {m : Nat} : ∀ {k : Nat}, (∀ j, k ≤ j → j < k + m → f j = g j) → flat f k m = flat g k m := by
  induction m with
  | zero => intro k _; rfl
  | succ m ih => intro k h; rw [flat, flat, h k (Nat.le_refl _) (by omega), ih (fun j h1 h2 => h j (by omega) (by omega))]

theorem flat_bytes {src : List UInt8} {m : Nat} : ∀ {k : Nat}, flat (byteAt src) k m = (src.drop k).take m := by
  induction m with
  | zero => intro k; simp [flat]
  | succ m ih =>
    intro k
    rw [flat, ih]
    by_cases hk : k < src.length
    · rw [byteAt, List.getElem?_eq_getElem hk, List.drop_eq_getElem_cons hk, List.take_succ_cons]
      rfl
    · rw [byteAt, List.getElem?_eq_none (by omega), List.drop_eq_nil_of_le (by omega), List.drop_eq_nil_of_le (by omega)]
      simp

theorem flat_none {f : Nat → List UInt8} {m : Nat} : ∀ {k : Nat}, (∀ j, k ≤ j → j < k + m → f j = []) → flat f k m = [] := by
  induction m with
  | zero => intro k _; rfl
  | succ m ih => intro k h; rw [flat, h k (Nat.le_refl _) (by omega), ih (fun j h1 h2 => h j (by omega) (by omega))]; rfl

def insStep (f : Nat → ByteArray) (x : Ed) : Nat → ByteArray := fun j => if j = x.s.toNat then x.t else f j
def delStep (f : Nat → Bool) (x : Ed) : Nat → Bool := fun (j : Nat) => if x.s ≤ (j : Int) ∧ (j : Int) < x.e then true else f j

theorem ins_miss {l : List Ed} : ∀ {f : Nat → ByteArray} {j : Nat}, (∀ y, y ∈ l → j ≠ y.s.toNat) → l.foldl insStep f j = f j := by
  induction l with
  | nil => intro f j _; rfl
  | cons y r ih =>
    intro f j h
    rw [List.foldl_cons, ih (fun z hz => h z (List.mem_cons_of_mem _ hz)), insStep, if_neg (h y (List.mem_cons_self))]

theorem ins_hit {l : List Ed} : ∀ {f g : Nat → ByteArray} {j : Nat}, (∃ y, y ∈ l ∧ j = y.s.toNat) → l.foldl insStep f j = l.foldl insStep g j := by
  induction l with
  | nil => intro f g j ⟨y, hy, _⟩; simp at hy
  | cons y r ih =>
    intro f g j h
    rw [List.foldl_cons, List.foldl_cons]
    by_cases hr : ∃ z, z ∈ r ∧ j = z.s.toNat
    · exact ih hr
    · have hm : ∀ z, z ∈ r → j ≠ z.s.toNat := fun z hz he => hr ⟨z, hz, he⟩
      rw [ins_miss hm, ins_miss hm]
      obtain ⟨z, hz, he⟩ := h
      rcases List.mem_cons.1 hz with rfl | hz
      · rw [insStep, insStep, if_pos he, if_pos he]
      · exact absurd he (hm z hz)

theorem insF_fold (l : List Ed) : insF l = l.foldl insStep (fun _ => ⟨#[]⟩) := rfl
theorem delF_fold (l : List Ed) : delF l = l.foldl delStep (fun _ => false) := rfl

theorem insF_none {l : List Ed} {j : Nat} (h : ∀ y, y ∈ l → j ≠ y.s.toNat) : insF l j = ⟨#[]⟩ := by rw [insF_fold, ins_miss h]

theorem insF_here {x : Ed} {r : List Ed} (h : ∀ y, y ∈ r → x.s.toNat ≠ y.s.toNat) : insF (x :: r) x.s.toNat = x.t := by
  rw [insF_fold, List.foldl_cons, ins_miss h, insStep, if_pos rfl]

theorem insF_else {x : Ed} {r : List Ed} {j : Nat} (hj : j ≠ x.s.toNat) : insF (x :: r) j = insF r j := by
  rw [insF_fold, insF_fold, List.foldl_cons]
  by_cases hr : ∃ z, z ∈ r ∧ j = z.s.toNat
  · exact ins_hit hr
  · have hm : ∀ z, z ∈ r → j ≠ z.s.toNat := fun z hz he => hr ⟨z, hz, he⟩
    rw [ins_miss hm, ins_miss hm, insStep, if_neg hj]

theorem del_fold {l : List Ed} : ∀ {f : Nat → Bool} {j : Nat}, l.foldl delStep f j = (f j || l.foldl delStep (fun _ => false) j) := by
  induction l with
  | nil => intro f j; simp
  | cons y r ih =>
    intro f j
    rw [List.foldl_cons, List.foldl_cons, ih (f := delStep f y), ih (f := delStep (fun _ => false) y)]
    unfold delStep
    split <;> simp

theorem delF_cons (x : Ed) (r : List Ed) (j : Nat) : delF (x :: r) j = (decide (x.s ≤ (j : Int) ∧ (j : Int) < x.e) || delF r j) := by
  rw [delF_fold, delF_fold, List.foldl_cons, del_fold]
  unfold delStep
  congr 1

theorem delF_none {l : List Ed} {j : Nat} (h : ∀ y, y ∈ l → (j : Int) < y.s) : delF l j = false := by
  induction l with
  | nil => rfl
  | cons y r ih =>
    rw [delF_cons, ih (fun z hz => h z (List.mem_cons_of_mem _ hz)), decide_eq_false (by have := h y (List.mem_cons_self); omega)]
    rfl

theorem sep_gt {n : Int} {l : List Ed} : ∀ {q : Int}, sepFrom n q l = true → ∀ y, y ∈ l → q < y.s := by
  induction l with
  | nil => intro q _ y hy; simp at hy
  | cons x r ih =>
    intro q h y hy
    unfold sepFrom at h
    split at h
    · simp at h
    · rcases List.mem_cons.1 hy with rfl | hy
      · omega
      · have := ih h y hy; omega

theorem sep_le {n : Int} {l : List Ed} {q q' : Int} (hq : q' ≤ q) (h : sepFrom n q l = true) : sepFrom n q' l = true := by
  cases l with
  | nil => rfl
  | cons x r =>
    unfold sepFrom at h ⊢
    split at h
    · simp at h
    · rw [if_neg (by omega)]; exact h

theorem flat_apply {src : List UInt8} {l : List Ed} : ∀ {p : Nat}, p ≤ src.length → sepFrom src.length ((p : Int) - 1) l = true →
    flat (off src l) p (src.length + 1 - p) = applyFrom src p l := by
  induction l with
  | nil =>
    intro p hp _
    have e : flat (off src []) p (src.length + 1 - p) = flat (byteAt src) p (src.length + 1 - p) := by
      refine flat_congr fun j _ _ => ?_
      simp [off, insF, delF]
    rw [e, flat_bytes, applyFrom, List.take_of_length_le (by rw [List.length_drop]; omega)]
    simp
  | cons x r ih =>
    intro p hp h
    have h' := h
    unfold sepFrom at h
    split at h
    · simp at h
    · rename_i hc
      have hgt := sep_gt h
      have hlt : ∀ j : Nat, (j : Int) ≤ x.e → ∀ y, y ∈ r → j ≠ y.s.toNat := fun j hj y hy => by have := hgt y hy; omega
      have hdl : ∀ j : Nat, (j : Int) ≤ x.e → delF r j = false := fun j hj => delF_none fun y hy => by have := hgt y hy; omega
      have i1 := ih (p := x.e.toNat) (by omega) (sep_le (q := x.e) (by omega) h)
      -- the bytes before the edit
      have e1 : flat (off src (x :: r)) p (x.s.toNat - p) = (src.drop p).take (x.s.toNat - p) := by
        rw [← flat_bytes]
        refine flat_congr fun j h1 h2 => ?_
        rw [off, insF_else (by omega), insF_none (hlt j (by omega)), delF_cons, hdl j (by omega), decide_eq_false (by omega)]
        simp
      -- the edit
      have e2 : flat (off src (x :: r)) x.s.toNat (src.length + 1 - x.s.toNat) = x.t.data.toList ++ flat (off src r) x.e.toNat (src.length + 1 - x.e.toNat) := by
        by_cases hse : x.s = x.e
        · rw [← hse]
          rw [show src.length + 1 - x.s.toNat = (src.length - x.s.toNat) + 1 from by omega, flat, flat]
          have q1 : off src (x :: r) x.s.toNat = x.t.data.toList ++ off src r x.s.toNat := by
            rw [off, off, insF_here (hlt _ (by omega)), insF_none (hlt _ (by omega)), delF_cons, hdl _ (by omega), decide_eq_false (by omega)]
            simp
          have q2 : flat (off src (x :: r)) (x.s.toNat + 1) (src.length - x.s.toNat) = flat (off src r) (x.s.toNat + 1) (src.length - x.s.toNat) := by
            refine flat_congr fun j h1 h2 => ?_
            rw [off, off, insF_else (by omega), delF_cons, decide_eq_false (by omega)]
            simp
          rw [q1, q2, List.append_assoc]
        · rw [show src.length + 1 - x.s.toNat = 1 + ((x.e.toNat - x.s.toNat - 1) + (src.length + 1 - x.e.toNat)) from by omega, flat_add, flat_add]
          have q1 : flat (off src (x :: r)) x.s.toNat 1 = x.t.data.toList := by
            rw [flat, flat, off, insF_here (hlt _ (by omega)), delF_cons, decide_eq_true (by omega)]
            simp
          have q2 : flat (off src (x :: r)) (x.s.toNat + 1) (x.e.toNat - x.s.toNat - 1) = [] := by
            refine flat_none fun j h1 h2 => ?_
            rw [off, insF_else (by omega), insF_none (hlt j (by omega)), delF_cons, decide_eq_true (by omega)]
            simp
          have q3 : flat (off src (x :: r)) (x.s.toNat + 1 + (x.e.toNat - x.s.toNat - 1)) (src.length + 1 - x.e.toNat) = flat (off src r) x.e.toNat (src.length + 1 - x.e.toNat) := by
            rw [show x.s.toNat + 1 + (x.e.toNat - x.s.toNat - 1) = x.e.toNat from by omega]
            refine flat_congr fun j h1 h2 => ?_
            rw [off, off, insF_else (by omega), delF_cons, decide_eq_false (by omega)]
            simp
          rw [q1, q2, q3, List.nil_append]
      have e3 : flat (off src (x :: r)) p (src.length + 1 - p) = flat (off src (x :: r)) p (x.s.toNat - p) ++ flat (off src (x :: r)) x.s.toNat (src.length + 1 - x.s.toNat) := by
        rw [show src.length + 1 - p = (x.s.toNat - p) + (src.length + 1 - x.s.toNat) from by omega, flat_add, show p + (x.s.toNat - p) = x.s.toNat from by omega]
      rw [e3, e1, e2, i1, applyFrom]
      simp only [Int.toNat_natCast]
      rw [show ((x.e.toNat : Nat) : Int) = x.e from by omega]

theorem flat_all {src : List UInt8} {l : List Ed} (h : sepFrom src.length (-1) l = true) : flat (off src l) 0 (src.length + 1) = applyL src l := by
  have := flat_apply (src := src) (l := l) (p := 0) (by omega) (by simpa using h)
  simpa [applyL] using this
end Go.Proofs.Ytbkiliiopondaaa
