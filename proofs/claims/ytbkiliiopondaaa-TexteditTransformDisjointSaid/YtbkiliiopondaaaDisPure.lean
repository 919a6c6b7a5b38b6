/-
  Plain mathematics: edits of which every one of the left ends before the first of the right starts.
-/
import Derived.Test.YtbkiliiopondaaaTrWrap
namespace Go.Proofs.Ytbkiliiopondaaa

theorem sep_app {n : Int} {R : List Ed} {b : Int} : ∀ {L : List Ed} {q : Int}, sepFrom n q L = true → (∀ x, x ∈ L → x.e ≤ b) → q ≤ b → sepFrom n b R = true → sepFrom n q (L ++ R) = true := by
  intro L
  induction L with
  | nil => intro q _ _ hq h; exact sep_le hq h
  | cons x r ih =>
    intro q h hb hq hR
    unfold sepFrom at h
    split at h
    · simp at h
    · rename_i hc
      rw [List.cons_append, sepFrom, if_neg hc]
      exact ih h (fun y hy => hb y (List.mem_cons_of_mem _ hy)) (hb x (List.mem_cons_self)) hR

theorem sep_last {n : Int} {L : List Ed} : ∀ {q : Int} {z : Ed}, sepFrom n q L = true → L.getLast? = some z → ∀ x, x ∈ L → x.s ≤ x.e ∧ x.e ≤ z.e := by
  induction L with
  | nil => intro q z _ h; simp at h
  | cons y r ih =>
    intro q z h hz x hx
    unfold sepFrom at h
    split at h
    · simp at h
    · rename_i hc
      cases r with
      | nil =>
        simp at hz hx
        subst hz hx
        omega
      | cons u v =>
        rw [List.getLast?_cons_cons] at hz
        rcases List.mem_cons.1 hx with rfl | hx
        · have h1 := ih h hz u (List.mem_cons_self)
          have h2 := sep_gt h u (List.mem_cons_self)
          omega
        · exact ih h hz x hx

theorem insF_app {L R : List Ed} {j : Nat} (h : ∀ y, y ∈ L → ∀ z, z ∈ R → y.s.toNat ≠ z.s.toNat) : (insF (L ++ R) j).data.toList = (insF L j).data.toList ++ (insF R j).data.toList := by
  by_cases hr : ∃ z, z ∈ R ∧ j = z.s.toNat
  · have h1 : insF L j = ⟨#[]⟩ := insF_none fun y hy he => by
      obtain ⟨z, hz, hj⟩ := hr
      exact h y hy z hz (he.symm.trans hj)
    rw [h1, insF_fold, List.foldl_append, insF_fold, ins_hit (g := fun _ => ⟨#[]⟩) hr]
    simp
  · have hm : ∀ z, z ∈ R → j ≠ z.s.toNat := fun z hz he => hr ⟨z, hz, he⟩
    rw [insF_none hm, insF_fold, List.foldl_append, ins_miss hm, insF_fold]
    simp

theorem delF_app (L R : List Ed) (j : Nat) : delF (L ++ R) j = (delF L j || delF R j) := by
  rw [delF_fold, List.foldl_append, del_fold, delF_fold, delF_fold]

theorem dis_apply {src : List UInt8} {L R : List Ed} {z x : Ed} {r : List Ed} (h1 : sepFrom src.length (-1) L = true) (h2 : sepFrom src.length (-1) R = true) (hz : L.getLast? = some z) (hR : R = x :: r) (hlt : z.e < x.s) :
    flat (mo src L R) 0 (src.length + 1) = applyL src (L ++ R) := by
  have hl := sep_last h1 hz
  have hgt : ∀ y, y ∈ R → x.s ≤ y.s := by
    intro y hy
    subst hR
    unfold sepFrom at h2
    split at h2
    · simp at h2
    · rcases List.mem_cons.1 hy with rfl | hy
      · exact Int.le_refl _
      · have := sep_gt h2 y hy; omega
  have hL0 := sep_gt h1
  have hs : sepFrom src.length (-1) (L ++ R) = true := by
    have hzm : z ∈ L := List.mem_of_getLast? hz
    have hz0 := hL0 z hzm
    have hzz := hl z hzm
    refine sep_app (b := z.e) h1 (fun y hy => (hl y hy).2) (by omega) ?_
    subst hR
    unfold sepFrom at h2 ⊢
    split at h2
    · simp at h2
    · rw [if_neg (by omega)]; exact h2
  rw [← flat_all hs]
  refine flat_congr fun j _ _ => ?_
  rw [mo, off, insF_app (fun y hy w hw => by
    have a := hl y hy
    have b := hgt w hw
    have c := hL0 y hy
    omega), delF_app, List.append_assoc]

theorem tr_dis {s : ByteArray} {L R : List Ed} {z x : Ed} {r : List Ed} (h : trErr s L R = 0) (hz : L.getLast? = some z) (hR : R = x :: r) (hlt : z.e < x.s) : applyS (applyS s L) (rightR s L R) = applyS s (L ++ R) := by
  obtain ⟨h1, h2, _⟩ := tr_zero h
  obtain ⟨_, _, h3, _⟩ := tr_valid h
  have e := str_length s
  have := dis_apply (src := s.data.toList) (L := L) (R := R) (by rw [e]; exact (errV_zero h1).2.2.1) (by rw [e]; exact (errV_zero h2).2.2.1) hz hR hlt
  rw [e] at this
  unfold applyS
  simp only
  rw [h3, this]
end Go.Proofs.Ytbkiliiopondaaa
