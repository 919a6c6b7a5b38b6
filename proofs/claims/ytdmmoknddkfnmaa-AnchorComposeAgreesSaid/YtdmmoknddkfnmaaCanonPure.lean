/-
  Plain mathematics: the canonical list of a traced text gives that text, and is valid.
-/
import Derived.Test.YtdmmoknddkfnmaaCompose
import Derived.Test.YtdmmoknddkfnmaaInvPure
namespace Go.Proofs.Ytdmmoknddkfnmaa

def kept (T : List Tb) : List Tb := T.filter (fun x => decide (x.o ≠ -1))

/-- The origins rise, and each origin is where the old string holds that byte. -/
def Good (src : List UInt8) (T : List Tb) : Prop := (kept T).Pairwise (fun a b => a.o < b.o) ∧ ∀ x, x ∈ T → x.o ≠ -1 → 0 ≤ x.o ∧ src[x.o.toNat]? = some x.v

theorem kept_append (a b : List Tb) : kept (a ++ b) = kept a ++ kept b := by simp [kept]
theorem kept_ins (t : ByteArray) : kept (insT t) = [] := by
  rw [kept, List.filter_eq_nil_iff]
  intro x hx
  simp only [insT, List.mem_map] at hx
  obtain ⟨c, _, rfl⟩ := hx
  simp
theorem kept_sub {a b : List Tb} (h : a.Sublist b) : (kept a).Sublist (kept b) := h.filter _

theorem Good.tail {src : List UInt8} {x : Tb} {r : List Tb} (h : Good src (x :: r)) : Good src r :=
  ⟨h.1.sublist (kept_sub (List.sublist_cons_self x r)), fun y hy => h.2 y (List.mem_cons_of_mem _ hy)⟩

theorem Good.next {src : List UInt8} {x : Tb} {r : List Tb} (h : Good src (x :: r)) (hx : x.o ≠ -1) : ∀ y, y ∈ r → y.o ≠ -1 → x.o + 1 ≤ y.o := by
  intro y hy hyo
  have h1 := h.1
  rw [kept, List.filter_cons, if_pos (by simpa using hx)] at h1
  have h2 := (List.pairwise_cons.1 h1).1 y (List.mem_filter.2 ⟨hy, by simpa using hyo⟩)
  omega

theorem good_trace (l : List UInt8) : Good l (traceL l) := by
  have h : ∀ (l : List UInt8) (i : Int), (traceFrom i l).Pairwise (fun a b => a.o < b.o) := by
    intro l
    induction l with
    | nil => intro i; exact List.Pairwise.nil
    | cons b r ih =>
      intro i
      refine List.pairwise_cons.2 ⟨fun y hy => ?_, ih (i + 1)⟩
      obtain ⟨k, hk⟩ := List.mem_iff_getElem?.1 hy
      have := (trace_at hk).1
      show i < y.o
      omega
  refine ⟨(h l 0).sublist List.filter_sublist, fun x hx _ => ?_⟩
  obtain ⟨k, hk⟩ := List.mem_iff_getElem?.1 hx
  obtain ⟨h1, h2⟩ := trace_at hk
  exact ⟨by omega, by rw [h1, show (0 + (k : Int)).toNat = k from by omega]; exact h2⟩

theorem rew_kept {text : List Tb} {n : Int} {l : List Ed} : ∀ {p : Int}, 0 ≤ p → Ord n p l → (kept (rewFrom text p l)).Sublist (kept (text.drop p.toNat)) := by
  induction l with
  | nil => intro p _ _; exact List.Sublist.refl _
  | cons x r ih =>
    intro p h0 h
    obtain ⟨h1, h2, h3⟩ := h
    have h4 := ih (p := x.e) (by omega) h3
    simp only [rewFrom]
    rw [kept_append, kept_append, kept_ins, List.nil_append]
    have e : text.drop p.toNat = (text.drop p.toNat).take (x.s.toNat - p.toNat) ++ text.drop x.s.toNat := by
      have := List.take_append_drop (x.s.toNat - p.toNat) (text.drop p.toNat)
      rw [List.drop_drop, show p.toNat + (x.s.toNat - p.toNat) = x.s.toNat from by omega] at this
      exact this.symm
    have e2 : text.drop x.e.toNat = (text.drop x.s.toNat).drop (x.e.toNat - x.s.toNat) := by
      rw [List.drop_drop, show x.s.toNat + (x.e.toNat - x.s.toNat) = x.e.toNat from by omega]
    have h5 : (kept (text.drop x.e.toNat)).Sublist (kept (text.drop x.s.toNat)) := by
      rw [e2]; exact kept_sub (List.drop_sublist _ _)
    rw [e, kept_append]
    have e3 : ((text.drop p.toNat).take (x.s.toNat - p.toNat) ++ text.drop x.s.toNat).take (x.s.toNat - p.toNat) = (text.drop p.toNat).take (x.s.toNat - p.toNat) := by rw [← e]
    rw [e3]
    exact (List.Sublist.refl _).append (h4.trans h5)

theorem rew_mem {text : List Tb} {l : List Ed} : ∀ {p : Int} {x : Tb}, x ∈ rewFrom text p l → x.o ≠ -1 → x ∈ text := by
  induction l with
  | nil => intro p x hx _; exact List.mem_of_mem_drop hx
  | cons y r ih =>
    intro p x hx ho
    simp only [rewFrom, List.mem_append] at hx
    rcases hx with hx | hx | hx
    · exact List.mem_of_mem_drop (List.mem_of_mem_take hx)
    · simp only [insT, List.mem_map] at hx
      obtain ⟨c, _, rfl⟩ := hx
      simp at ho
    · exact ih hx ho

theorem good_rew {src : List UInt8} {text : List Tb} {n : Int} {l : List Ed} (h : Good src text) (hord : Ord n 0 l) : Good src (rewL text l) :=
  ⟨h.1.sublist ((rew_kept (p := 0) (by omega) hord).trans (kept_sub (List.drop_sublist _ _))), fun x hx ho => h.2 x (rew_mem hx ho) ho⟩

def insG (g : List UInt8) : List Tb := g.map (⟨·, -1⟩)
theorem insG_ins (g : List UInt8) : insT ⟨g.toArray⟩ = insG g := by simp [insT, insG]

theorem trace_get {src : List UInt8} {x : Tb} (h0 : 0 ≤ x.o) (h : src[x.o.toNat]? = some x.v) : (traceL src)[x.o.toNat]? = some x := by
  have hl : x.o.toNat < (traceL src).length := by rw [traceL, trace_length]; exact (List.getElem?_eq_some_iff.1 h).1
  have hx : (traceL src)[x.o.toNat]? = some (traceL src)[x.o.toNat] := List.getElem?_eq_getElem hl
  obtain ⟨q1, q2⟩ := trace_at hx
  rw [hx]
  have q3 := h.symm.trans q2
  simp only [Option.some.injEq] at q3 ⊢
  cases hc : (traceL src)[x.o.toNat] with
  | mk v o =>
    rw [hc] at q1 q3
    simp only at q1 q3
    cases x with
    | mk v' o' => simp only at q1 q3 h0; rw [q3, q1]; congr 1; omega

theorem drop_take_succ {α : Type} {l : List α} {m k : Nat} {x : α} (hm : m ≤ k) (h : l[k]? = some x) : (l.drop m).take (k + 1 - m) = (l.drop m).take (k - m) ++ [x] := by
  have h1 : (l.drop m)[k - m]? = some x := by rw [List.getElem?_drop, show m + (k - m) = k from by omega]; exact h
  rw [show k + 1 - m = (k - m) + 1 from by omega, List.take_add_one, h1]; rfl

/-- THE CANONICAL LIST GIVES THE TEXT. -/
theorem canon_rew {src : List UInt8} {T : List Tb} : ∀ {m p : Int} {g : List UInt8}, 0 ≤ m → m ≤ p → p ≤ src.length → Good src T → (∀ x, x ∈ T → x.o ≠ -1 → p ≤ x.o) →
    rewFrom (traceL src) m (canonFrom src.length p g T) = ((traceL src).drop m.toNat).take (p.toNat - m.toNat) ++ (insG g ++ T) := by
  have hlen : (traceL src).length = src.length := trace_length
  induction T with
  | nil =>
    intro m p g h0 h1 h2 _ _
    unfold canonFrom addC
    split
    · rename_i hc
      obtain ⟨rfl, rfl⟩ := hc
      simp only [rewFrom, insG, List.map_nil, List.append_nil, Int.toNat_natCast]
      rw [List.take_of_length_le (by rw [List.length_drop]; omega)]
    · simp only [rewFrom, insG_ins, Int.toNat_natCast]
      rw [List.drop_eq_nil_of_le (by omega : (traceL src).length ≤ src.length)]
  | cons x r ih =>
    intro m p g h0 h1 h2 hg hp
    unfold canonFrom
    by_cases hx : x.o = -1
    · rw [if_pos hx, ih h0 h1 h2 hg.tail (fun y hy => hp y (List.mem_cons_of_mem _ hy))]
      have e : insG (g ++ [x.v]) ++ r = insG g ++ x :: r := by
        cases x with
        | mk v o => simp only at hx; subst hx; simp [insG]
      rw [e]
    · rw [if_neg hx]
      obtain ⟨q0, q1⟩ := hg.2 x (List.mem_cons_self) hx
      have q2 := hp x (List.mem_cons_self) hx
      have q3 : x.o.toNat < src.length := (List.getElem?_eq_some_iff.1 q1).1
      have q4 := trace_get q0 q1
      have q5 := hg.next hx
      unfold addC
      split
      · rename_i hc
        obtain ⟨rfl, rfl⟩ := hc
        rw [List.nil_append, ih (m := m) (p := x.o + 1) (g := []) h0 (by omega) (by omega) hg.tail q5]
        rw [show (x.o + 1).toNat - m.toNat = x.o.toNat + 1 - m.toNat from by omega, drop_take_succ (by omega) q4]
        simp [insG]
      · simp only [List.cons_append, List.nil_append, rewFrom, insG_ins]
        rw [ih (m := x.o) (p := x.o + 1) (g := []) q0 (by omega) (by omega) hg.tail q5]
        rw [show (x.o + 1).toNat - x.o.toNat = x.o.toNat + 1 - x.o.toNat from by omega, drop_take_succ (Nat.le_refl _) q4]
        simp [insG]

theorem canon_sep {n : Int} {T : List Tb} : ∀ {q p : Int} {g : List UInt8}, q < p → p ≤ n → (kept T).Pairwise (fun a b => a.o < b.o) → (∀ x, x ∈ T → x.o ≠ -1 → p ≤ x.o ∧ x.o < n) → sepFrom n q (canonFrom n p g T) = true := by
  induction T with
  | nil =>
    intro q p g h1 h2 _ _
    unfold canonFrom addC
    split
    · rfl
    · simp only [sepFrom]; rw [if_neg (by omega)]
  | cons x r ih =>
    intro q p g h1 h2 hk hp
    unfold canonFrom
    by_cases hx : x.o = -1
    · rw [if_pos hx]
      exact ih h1 h2 (hk.sublist (kept_sub (List.sublist_cons_self x r))) (fun y hy => hp y (List.mem_cons_of_mem _ hy))
    · rw [if_neg hx]
      have q2 := hp x (List.mem_cons_self) hx
      have hk' := hk
      rw [kept, List.filter_cons, if_pos (by simpa using hx)] at hk'
      obtain ⟨k1, k2⟩ := List.pairwise_cons.1 hk'
      have hnext : ∀ y, y ∈ r → y.o ≠ -1 → x.o + 1 ≤ y.o ∧ y.o < n := by
        intro y hy hyo
        have a := k1 y (List.mem_filter.2 ⟨hy, by simpa using hyo⟩)
        have b := hp y (List.mem_cons_of_mem _ hy) hyo
        omega
      have h3 : ∀ q', q' < x.o + 1 → sepFrom n q' (canonFrom n (x.o + 1) [] r) = true := fun q' hq' => ih hq' (by omega) k2 hnext
      unfold addC
      split
      · rw [List.nil_append]; exact h3 q (by omega)
      · simp only [List.cons_append, List.nil_append, sepFrom]
        rw [if_neg (by omega)]
        exact h3 x.o (by omega)

theorem canon_text {src : List UInt8} {T : List Tb} (h : Good src T) : rewL (traceL src) (canonL src.length T) = T := by
  rw [rewL, canonL, canon_rew (Int.le_refl 0) (Int.le_refl 0) (by omega) h (fun x hx ho => (h.2 x hx ho).1)]
  simp [insG]

theorem canon_apply {src : List UInt8} {T : List Tb} (h : Good src T) : applyL src (canonL src.length T) = T.map Tb.v := by
  have h1 := congrArg (List.map Tb.v) (canon_text h)
  rw [rewL, rew_v, traceL, trace_v] at h1
  exact h1

theorem canon_valid {src : List UInt8} {T : List Tb} (h : Good src T) (h1 : src.length ≤ 2000) (h2 : T.length ≤ 2000) (h3 : (canonL src.length T).length ≤ 50) : errV src.length (canonL src.length T) = 0 := by
  have hs : sepFrom src.length (-1) (canonL src.length T) = true := canon_sep (by omega) (by omega) h.1 (fun x hx ho => by
    obtain ⟨a, b⟩ := h.2 x hx ho
    have := (List.getElem?_eq_some_iff.1 b).1
    omega)
  have h4 := apply_len (src := src) (p := 0) (Int.le_refl 0) (sep_ord (p := 0) (by omega) (by omega) hs)
  have h5 : (applyFrom src 0 (canonL src.length T)).length = T.length := by
    have := congrArg List.length (canon_apply h)
    rw [List.length_map] at this
    exact this
  exact errV_mk (by omega) h3 hs (by omega)
end Go.Proofs.Ytdmmoknddkfnmaa
