/-
  What is gathered of a node, step by step; bounds (no program but for the words on memory).
  The node that is being built, in memory: what keeps it, a child more.
  finishErrors: the errors' texts are set in place and reported; its contract.
-/
import Derived.Test.YtcpojagfnpajeaaGreatDoorRZAsLeaf
import Derived.Test.YtcpojagfnpajeaaGreatDoorRZPsParen
import Derived.Test.YtcpojagfnpajeaaGreatDoorRZGtSlim
import Derived.Test.YtcpojagfnpajeaaGreatDoorRZPsAct
namespace Go.Proofs.YtcpojagfnpajeaaGreatDoorR.Ps
open Go.RowKit

/-- A part is passed. -/
def stepA (k : Int) (a : Acc) (x : Tree) : Acc :=
  if x.k < 100 then (let q := bldT x a.o; cov q.1.s q.1.e { a with c := a.c ++ [q.1], o := q.2.1, d := a.d ++ q.2.2 }) else tokA k x.k (Lx.L x.t) a
theorem bldL_fold (k : Int) (l : List Tree) (a : Acc) : bldL k l a = l.foldl (stepA k) a := by
  induction l generalizing a with
  | nil => rfl
  | cons x r ih => simp only [bldL, List.foldl_cons]; rw [ih]; rfl
def accAt (k : Int) (o : Nat) (c : List Tree) (i : Nat) : Acc := (c.take i).foldl (stepA k) (acc0 o)
theorem accAt_zero (k : Int) (o : Nat) (c : List Tree) : accAt k o c 0 = acc0 o := rfl
theorem accAt_succ {k : Int} {o : Nat} {c : List Tree} {i : Nat} {x : Tree} (h : c[i]? = some x) : accAt k o c (i + 1) = stepA k (accAt k o c i) x := by
  unfold accAt
  rw [List.take_add_one, h, List.foldl_append]
  rfl
theorem accAt_all (k : Int) (o : Nat) (c : List Tree) : accAt k o c c.length = bldL k c (acc0 o) := by unfold accAt; rw [List.take_length, bldL_fold]
theorem bldT_eq (x : Tree) (o : Nat) : bldT x o = (ndOf x.k (accAt x.k o x.c x.c.length), (accAt x.k o x.c x.c.length).o, (accAt x.k o x.c x.c.length).d) := by
  rw [accAt_all]
  cases x
  simp only [bldT, Tree.k, Tree.c]

/-- Bounds of what is gathered between the offsets o and m, of n children. -/
structure AOk (a : Acc) (lo hi n : Nat) : Prop where
  v : I64 a.v
  t : a.t.length ≤ 2000
  s : lo ≤ a.s ∧ a.s ≤ a.e ∧ a.e ≤ hi
  ns : -1 ≤ a.ns ∧ a.ns ≤ hi
  c : a.c.length ≤ n
  o : lo ≤ a.o ∧ a.o = hi

theorem AOk.zero (o : Nat) : AOk (acc0 o) o o 0 := ⟨⟨by simp [acc0], by simp [acc0]⟩, by simp [acc0], by simp [acc0], by simp [acc0], by simp [acc0], by simp [acc0]⟩
theorem orV_ok (v n : Int) : I64 (orV v n) := by
  unfold orV bits I64
  have h : ∀ z : Int, -9223372036854775808 ≤ IntKind.i64.wrap z ∧ IntKind.i64.wrap z ≤ 9223372036854775807 := by
    intro z
    simp only [IntKind.wrap, IntKind.bits, IntKind.signed, Bool.true_and]
    constructor <;> (split <;> rename_i hc <;> simp at hc <;> omega)
  exact h _
theorem intV_ok (l : List UInt8) : I64 (intV l).1 := by
  unfold intV I64
  split
  · rename_i v h
    have := Lib.atoiAll_bounds h
    split <;> (dsimp only; omega)
  · dsimp only; omega
theorem setF_ok {k tk : Int} {t : List UInt8} {o : Nat} {a : Acc} {lo hi n : Nat} (h : AOk a lo hi n) (ht : t.length ≤ 2000) (ho : o ≤ hi) : AOk (setF k tk t o a) lo hi n := by
  obtain ⟨h1, h2, h3, h5, h6, h7⟩ := h
  have := (unq_lt t).2.2
  unfold setF
  split
  · exact ⟨h1, h2, h3, h5, h6, h7⟩
  · split
    · exact ⟨intV_ok t, h2, h3, h5, h6, h7⟩
    · split
      · exact ⟨h1, by dsimp only; omega, h3, h5, h6, h7⟩
      · split
        · exact ⟨h1, ht, h3, h5, h6, h7⟩
        · split
          · split
            · exact ⟨h1, ht, h3, by dsimp only; omega, h6, h7⟩
            · exact ⟨h1, h2, h3, h5, h6, h7⟩
          · split
            · exact ⟨orV_ok _ _, h2, h3, h5, h6, h7⟩
            · split
              · exact ⟨orV_ok _ _, h2, h3, h5, h6, h7⟩
              · exact ⟨h1, h2, h3, h5, h6, h7⟩
theorem cov_ok {s e : Int} {a : Acc} {lo hi n : Nat} (h : AOk a lo hi n) (hs : lo ≤ s) (hse : s ≤ e) (he : e ≤ hi) (ha : a.s ≤ e) : AOk (cov s e a) lo hi n := by
  obtain ⟨h1, h2, h3, h5, h6, h7⟩ := h
  refine ⟨h1, h2, ?_, h5, h6, h7⟩
  unfold cov
  dsimp only
  split
  · exact ⟨hs, hse, he⟩
  · exact ⟨h3.1, ha, he⟩
theorem setF_o (k tk : Int) (t : List UInt8) (o : Nat) (a : Acc) : (setF k tk t o a).o = a.o ∧ (setF k tk t o a).d = a.d ∧ (setF k tk t o a).c = a.c ∧ (setF k tk t o a).em = a.em := by
  unfold setF
  (repeat' split) <;> exact ⟨rfl, rfl, rfl, rfl⟩
theorem tokA_o (k tk : Int) (t : List UInt8) (a : Acc) : (tokA k tk t a).o = a.o + t.length ∧ (tokA k tk t a).d = a.d ++ tokD tk t a.o ∧ (tokA k tk t a).c = a.c := by
  unfold tokA
  dsimp only
  split
  · obtain ⟨h1, h2, h3, _⟩ := setF_o k tk t a.o (cov (a.o : Int) ((a.o + t.length : Nat) : Int) { a with o := a.o + t.length, d := a.d ++ tokD tk t a.o })
    exact ⟨h1, h2, h3⟩
  · exact ⟨rfl, rfl, rfl⟩
theorem AOk.up {a : Acc} {lo hi n n' : Nat} (h : AOk a lo hi n) (hn : n ≤ n') : AOk a lo hi n' := ⟨h.v, h.t, h.s, h.ns, Nat.le_trans h.c hn, h.o⟩
theorem tokA_ok {k tk : Int} {t : List UInt8} {a : Acc} {lo hi n : Nat} (h : AOk a lo hi n) (ht : t.length ≤ 2000) : AOk (tokA k tk t a) lo (hi + t.length) n := by
  obtain ⟨h1, h2, h3, h5, h6, h7⟩ := h
  have hb : AOk { a with o := a.o + t.length, d := a.d ++ tokD tk t a.o } lo (hi + t.length) n := ⟨h1, h2, by dsimp only; omega, by dsimp only; omega, h6, by dsimp only; omega⟩
  unfold tokA
  dsimp only
  split
  · exact setF_ok (cov_ok hb (by omega) (by omega) (by omega) (by dsimp only; omega)) ht (by omega)
  · exact hb
theorem tokD_len (k : Int) (t : List UInt8) (o : Nat) : (tokD k t o).length ≤ 1 + t.length := by
  have := (unq_lt t).2.1
  unfold tokD
  (repeat' split) <;> (simp; try omega)

/-- A node within bounds. -/
structure NOk (q : Nd) (lo hi n : Nat) : Prop where
  v : I64 q.v
  t : q.t.length ≤ 2000
  s : lo ≤ q.s ∧ q.s ≤ q.e ∧ q.e ≤ hi
  ns : -1 ≤ q.ns ∧ q.ns ≤ hi
  c : q.c.length ≤ n
theorem NOk.ok {q : Nd} {lo hi n : Nat} (h : NOk q lo hi n) (h1 : I64 q.k) (hh : hi ≤ 100000) (hn : n ≤ 1000000) : q.ok := by
  obtain ⟨h2, h3, h4, h6, h7⟩ := h
  exact ⟨h1, h2, by unfold maxLen; omega, ⟨by omega, by omega⟩, ⟨by omega, by omega⟩, ⟨by omega, by omega⟩, by unfold maxLen; omega⟩

theorem NOk.up {q : Nd} {lo hi n lo' hi' n' : Nat} (h : NOk q lo hi n) (h1 : lo' ≤ lo) (h2 : hi ≤ hi') (h3 : n ≤ n') : NOk q lo' hi' n' := ⟨h.v, h.t, by have := h.s; omega, by have := h.ns; omega, Nat.le_trans h.c h3⟩

theorem srcs_step {c : List Tree} {k : Nat} {y : Tree} (h : c[k]? = some y) : (srcs (c.take (k + 1))).length = (srcs (c.take k)).length + (srcT y).length := by
  rw [List.take_add_one, h, srcs_append, List.length_append]
  simp [srcs]
theorem sizes_step {c : List Tree} {k : Nat} {y : Tree} (h : c[k]? = some y) : sizes (c.take (k + 1)) = sizes (c.take k) + y.size := by
  rw [List.take_add_one, h, sizes_append]
  simp [sizes]
theorem srcs_upto (c : List Tree) (k : Nat) : (srcs (c.take k)).length ≤ (srcs c).length := by
  have h := congrArg List.length (srcs_append (c.take k) (c.drop k))
  rw [List.take_append_drop, List.length_append] at h
  omega
theorem sizes_upto (c : List Tree) (k : Nat) : sizes (c.take k) ≤ sizes c := by
  have h := sizes_append (c.take k) (c.drop k)
  rw [List.take_append_drop] at h
  omega
theorem size_pos (x : Tree) : 1 ≤ x.size := by cases x; simp [Tree.size]
theorem size_eq (x : Tree) : x.size = 1 + sizes x.c := by cases x; rfl
theorem tree_height (x : Tree) : x.height = 1 + heights x.c := by cases x; rfl
theorem height_of {c : List Tree} {y : Tree} (h : y ∈ c) : y.height ≤ heights c := by
  induction c with
  | nil => cases h
  | cons x r ih =>
    simp only [heights]
    rcases List.mem_cons.1 h with rfl | h
    · omega
    · have := ih h; omega
theorem srcT_inner' {y : Tree} (h : y.k < 100) : srcT y = srcs y.c := by rw [srcT_eq, if_pos h]; rfl
theorem srcT_tok' {y : Tree} (h : ¬ y.k < 100) : (Lx.L y.t).length ≤ (srcT y).length := by rw [srcT_eq, if_neg h, List.length_append]; omega
theorem okPs_mem {c : List Tree} (h : okPs c = true) {y : Tree} (hy : y ∈ c) (hk : y.k < 100) : okP y = true := by
  induction c with
  | nil => cases hy
  | cons x r ih =>
    simp only [okPs, Bool.and_eq_true, Bool.or_eq_true, decide_eq_true_eq] at h
    rcases List.mem_cons.1 hy with rfl | hy
    · rcases h.1 with h1 | h1
      · omega
      · exact h1
    · exact ih h.2 hy
theorem okP_eq (x : Tree) : okP x = ((x.k != 60 || hasIn x.c) && okPs x.c) := by cases x; rfl

/-- What is known of a tree that is built at o. -/
structure BT (x : Tree) (o : Nat) : Prop where
  nok : NOk (bldT x o).1 o (bldT x o).2.1 x.size
  o1 : o ≤ (bldT x o).2.1
  o2 : (bldT x o).2.1 ≤ o + (srcs x.c).length
  d : (bldT x o).2.2.length ≤ x.size + (srcs x.c).length

/-- .. and of what is gathered of its first i parts. -/
structure BA (k : Int) (c : List Tree) (o i N : Nat) : Prop where
  a : AOk (accAt k o c i) o (accAt k o c i).o i
  o2 : (accAt k o c i).o ≤ o + (srcs (c.take i)).length
  d : (accAt k o c i).d.length ≤ sizes (c.take i) + (srcs (c.take i)).length
  cs : ∀ q ∈ (accAt k o c i).c, NOk q o (accAt k o c i).o N
  ne : hasIn (c.take i) = true → (accAt k o c i).c ≠ []

theorem tokA_c (k tk : Int) (t : List UInt8) (a : Acc) : (tokA k tk t a).c = a.c := (tokA_o k tk t a).2.2

theorem ba_all (n : Nat) (ih : ∀ y o, y.height ≤ n → okP y = true → o + (srcs y.c).length ≤ 2000 → BT y o) (k : Int) (c : List Tree) (o N : Nat) (hh : heights c ≤ n) (hok : okPs c = true) (ho : o + (srcs c).length ≤ 2000) (hN : sizes c ≤ N) :
    ∀ i, i ≤ c.length → BA k c o i N
  | 0, _ => ⟨AOk.zero o, by rw [accAt_zero]; simp [acc0], by rw [accAt_zero]; simp [acc0], (by rw [accAt_zero]; simp [acc0]), (by simp [hasIn])⟩
  | i + 1, hi => by
    obtain ⟨h1, h2, h3, h4, h5⟩ := ba_all n ih k c o N hh hok ho hN i (by omega)
    have hx : c[i]? = some c[i] := List.getElem?_eq_getElem (by omega)
    generalize c[i] = y at hx
    have hm := List.mem_of_getElem? hx
    have hs := srcs_step hx
    have hz := sizes_step hx
    have hsu := srcs_upto c (i + 1)
    have hzu := sizes_upto c (i + 1)
    have hhy := height_of hm
    have hT : hasIn (c.take (i + 1)) = (hasIn (c.take i) || decide (y.k < 100)) := by rw [List.take_add_one, hx, hasIn_append]; simp [hasIn]
    by_cases hy : y.k < 100
    · rw [srcT_inner' hy] at hs
      have hb := ih y (accAt k o c i).o (by omega) (okPs_mem hok hm hy) (by omega)
      obtain ⟨b1, b2, b3, b4⟩ := hb
      have e : accAt k o c (i + 1) = (let q := bldT y (accAt k o c i).o; cov q.1.s q.1.e { accAt k o c i with c := (accAt k o c i).c ++ [q.1], o := q.2.1, d := (accAt k o c i).d ++ q.2.2 }) := by rw [accAt_succ hx]; unfold stepA; rw [if_pos hy]
      dsimp only at e
      have ha : AOk { accAt k o c i with c := (accAt k o c i).c ++ [(bldT y (accAt k o c i).o).1], o := (bldT y (accAt k o c i).o).2.1, d := (accAt k o c i).d ++ (bldT y (accAt k o c i).o).2.2 } o (bldT y (accAt k o c i).o).2.1 (i + 1) := by
        obtain ⟨q1, q2, q3, q5, q6, q7⟩ := h1
        exact ⟨q1, q2, by dsimp only; omega, by dsimp only; omega, by simp; exact q6, by dsimp only; omega⟩
      have hc := cov_ok ha (s := (bldT y (accAt k o c i).o).1.s) (e := (bldT y (accAt k o c i).o).1.e) (by have := b1.s; have := h1.o; omega) b1.s.2.1 b1.s.2.2 (by have := b1.s; have := h1.s; have := h1.o; dsimp only; omega)
      have eo : (accAt k o c (i + 1)).o = (bldT y (accAt k o c i).o).2.1 := by rw [e]; rfl
      refine ⟨by rw [eo, e]; exact hc, by rw [eo]; omega, ?_, ?_, fun _ => ?_⟩
      · rw [show (accAt k o c (i + 1)).d = (accAt k o c i).d ++ (bldT y (accAt k o c i).o).2.2 from by rw [e]; rfl, List.length_append]; omega
      · rw [eo, show (accAt k o c (i + 1)).c = (accAt k o c i).c ++ [(bldT y (accAt k o c i).o).1] from by rw [e]; rfl]
        intro q hq
        rcases List.mem_append.1 hq with hq | hq
        · exact (h4 q hq).up (Nat.le_refl _) b2 (Nat.le_refl _)
        · simp at hq; subst hq; exact b1.up (by have := h1.o; omega) (Nat.le_refl _) (by omega)
      · rw [show (accAt k o c (i + 1)).c = (accAt k o c i).c ++ [(bldT y (accAt k o c i).o).1] from by rw [e]; rfl]; simp
    · have ht := srcT_tok' hy
      have e : accAt k o c (i + 1) = tokA k y.k (Lx.L y.t) (accAt k o c i) := by rw [accAt_succ hx]; unfold stepA; rw [if_neg hy]
      obtain ⟨t1, t2, t3⟩ := tokA_o k y.k (Lx.L y.t) (accAt k o c i)
      have ha := tokA_ok (k := k) (tk := y.k) (t := Lx.L y.t) h1 (by omega)
      refine ⟨?_, by rw [e, t1]; omega, ?_, ?_, ?_⟩
      · rw [e, t1]; exact ha.up (by omega)
      · rw [e, t2, List.length_append]
        have := tokD_len y.k (Lx.L y.t) (accAt k o c i).o
        have := size_pos y
        omega
      · rw [e, t3, t1]
        exact fun q hq => (h4 q hq).up (Nat.le_refl _) (by omega) (Nat.le_refl _)
      · rw [e, t3, hT]
        intro q
        exact h5 (by simpa [hy] using q)

theorem bt_all : ∀ (n : Nat) (x : Tree) (o : Nat), x.height ≤ n → okP x = true → o + (srcs x.c).length ≤ 2000 → BT x o
  | 0, x, _, h, _, _ => by have := tree_height x; omega
  | n + 1, x, o, h, hok, ho => by
    have hsz := size_eq x
    have hht := tree_height x
    rw [okP_eq, Bool.and_eq_true] at hok
    obtain ⟨h1, h2, h3, h4, h5⟩ := ba_all n (bt_all n) x.k x.c o x.size (by omega) hok.2 ho (by omega) x.c.length (Nat.le_refl _)
    rw [List.take_length] at h2 h3 h5
    have hlen : x.c.length ≤ sizes x.c := by
      generalize x.c = l
      induction l with
      | nil => simp [sizes]
      | cons y r ih => have := size_pos y; simp only [sizes, List.length_cons]; omega
    refine ⟨?_, ?_, ?_, ?_⟩
    · rw [bldT_eq]
      unfold ndOf
      dsimp only
      split
      · rename_i h60
        have hin : hasIn x.c = true := by simpa [h60] using hok.1
        cases hc : (accAt x.k o x.c x.c.length).c with
        | nil => exact absurd hc (h5 hin)
        | cons q r =>
          have hq := h4 q (by rw [hc]; exact List.mem_cons_self)
          exact ⟨hq.v, hq.t, h1.s, hq.ns, hq.c⟩
      · exact ⟨h1.v, h1.t, h1.s, h1.ns, by have := h1.c; simp only [Nd.c]; omega⟩
    · rw [bldT_eq]; exact h1.o.1
    · rw [bldT_eq]; exact h2
    · rw [bldT_eq]; dsimp only; omega
theorem ba_of {x : Tree} {o : Nat} (hok : okP x = true) (ho : o + (srcs x.c).length ≤ 2000) {i : Nat} (hi : i ≤ x.c.length) : BA x.k x.c o i x.size := by
  rw [okP_eq, Bool.and_eq_true] at hok
  have := tree_height x
  have := size_eq x
  exact ba_all x.height (bt_all x.height) x.k x.c o x.size (by omega) hok.2 ho (by omega) i hi
end Go.Proofs.YtcpojagfnpajeaaGreatDoorR.Ps

namespace Go.Proofs.YtcpojagfnpajeaaGreatDoorR.Ps
open Go.RowKit

abbrev TEx (x : Nd) (t : List UInt8) : Prop := t = x.t

structure Loc (w : World) (lo b gb mb : Nat) (k : Int) (a : Acc) (v cv : Value) (l : List NE) (m : Nat) : Prop where
  nb : NBox w gb mb k a cv
  own : OwnsNd w lo cv l
  ch : l.map Prod.fst = a.c
  sub : SubN w (fun j o => o = 0 ∧ lo ≤ j ∧ j < w.heap.size ∧ j ≠ b ∧ j ≠ gb ∧ j ≠ mb ∧ v.ownBlock ≠ some j ∧ cv.ownBlock ≠ some j ∧ Pl w j) TEx m l
  cne : ∀ g, cv.ownBlock = some g → g ≠ b ∧ g ≠ gb ∧ g ≠ mb ∧ v.ownBlock ≠ some g
  vne : ∀ g, v.ownBlock = some g → g ≠ gb ∧ g ≠ mb
  gne : gb ≠ b ∧ mb ≠ b

theorem Loc.gl {w : World} {lo b gb mb : Nat} {k : Int} {a : Acc} {v cv : Value} {l : List NE} {m : Nat} (h : Loc w lo b gb mb k a v cv l m) : gb < w.heap.size ∧ mb < w.heap.size := ⟨(Array.getElem?_eq_some_iff.1 h.nb.hg).1, (Array.getElem?_eq_some_iff.1 h.nb.hm).1⟩
theorem Loc.cl {w : World} {lo b gb mb : Nat} {k : Int} {a : Acc} {v cv : Value} {l : List NE} {m : Nat} (h : Loc w lo b gb mb k a v cv l m) {g : Nat} (hg : cv.ownBlock = some g) : lo ≤ g ∧ g < w.heap.size := World.ownsRow.lt h.own g hg

/-- A call that reports leaves it. -/
theorem Loc.rep {w w' : World} {lo b gb mb : Nat} {k : Int} {a : Acc} {v v' cv : Value} {l : List NE} {m : Nat} (h : Loc w lo b gb mb k a v cv l m) (hr : Rep b v v' w w') : Loc w' lo b gb mb k a v' cv l m := by
  have hgl := h.gl
  have hs := hr.fr.size
  have blk : ∀ j, j < w.heap.size → j ≠ b → v.ownBlock ≠ some j → w'.heap[j]? = w.heap[j]? := fun j h1 h2 h3 => hr.fr.block j ⟨h1, h2, h3⟩
  refine ⟨⟨(blk gb hgl.1 h.gne.1 (fun e => (h.vne gb e).1 rfl)).trans h.nb.hg, (blk mb hgl.2 h.gne.2 (fun e => (h.vne mb e).2 rfl)).trans h.nb.hm, h.nb.ne⟩, owns_of_block h.own (fun g hg => blk g (h.cl hg).2 (h.cne g hg).1 (h.cne g hg).2.2.2), h.ch, ?_, ?_, ?_, h.gne⟩
  · refine (h.sub.kept fun j o i hj => World.cell?_of_block (blk j hj.2.2.1 hj.2.2.2.1 hj.2.2.2.2.2.2.1)).up (fun j o hj => ?_) (Nat.le_refl _)
    obtain ⟨p1, p2, p3, p4, p5, p6, p7, p8⟩ := hj
    refine ⟨p1, p2, by omega, p4, p5, p6, fun e => ?_, p8.1, p8.2.of_block (blk j p3 p4 p7)⟩
    rcases hr.row j e with q | q
    · exact p7 q
    · omega
  · intro g hg
    obtain ⟨p1, p2, p3, p4⟩ := h.cne g hg
    refine ⟨p1, p2, p3, fun e => ?_⟩
    rcases hr.row g e with q | q
    · exact p4 q
    · have := (h.cl hg).2; omega
  · intro g hg
    rcases hr.row g hg with q | q
    · exact h.vne g q
    · omega
theorem Loc.below {w w' : World} {lo b gb mb : Nat} {k : Int} {a : Acc} {v cv : Value} {l : List NE} {m : Nat} (h : Loc w lo b gb mb k a v cv l m) (hb : Below w.heap.size w w') : Loc w' lo b gb mb k a v cv l m := h.rep (Rep.of_below v hb)

/-- A call that changes but the node's boxes. -/
theorem Loc.boxes {w w' : World} {lo b gb mb : Nat} {k : Int} {a a' : Acc} {v cv : Value} {l : List NE} {m : Nat} (h : Loc w lo b gb mb k a v cv l m) (hn : NBox w' gb mb k a' cv) (hf : Fr (fun j => j < w.heap.size ∧ j ≠ gb ∧ j ≠ mb) w w') (hc : a'.c = a.c) : Loc w' lo b gb mb k a' v cv l m := by
  have hs := hf.size
  refine ⟨hn, owns_of_block h.own (fun g hg => hf.block g ⟨(h.cl hg).2, (h.cne g hg).2.1, (h.cne g hg).2.2.1⟩), h.ch.trans hc.symm, ?_, h.cne, h.vne, h.gne⟩
  refine (h.sub.kept fun j o i hj => World.cell?_of_block (hf.block j ⟨hj.2.2.1, hj.2.2.2.2.1, hj.2.2.2.2.2.1⟩)).up (fun j o hj => ?_) (Nat.le_refl _)
  exact ⟨hj.1, hj.2.1, by have := hj.2.2.1; omega, hj.2.2.2.1, hj.2.2.2.2.1, hj.2.2.2.2.2.1, hj.2.2.2.2.2.2.1, hj.2.2.2.2.2.2.2.1, hj.2.2.2.2.2.2.2.2.of_block (hf.block j ⟨hj.2.2.1, hj.2.2.2.2.1, hj.2.2.2.2.2.1⟩)⟩

/-- The diagnostics' row stays while but the boxes change. -/
theorem BldIn.boxes {w w' : World} {b n0 o : Nat} {src : List UInt8} {v : Value} {d : List Dg} {gb mb : Nat} (h : BldIn w b n0 src o v d) (hf : Fr (fun j => j < w.heap.size ∧ j ≠ gb ∧ j ≠ mb) w w') (hg : gb ≠ b ∧ mb ≠ b) (hv : ∀ g, v.ownBlock = some g → g ≠ gb ∧ g ≠ mb) : BldIn w' b n0 src o v d :=
  ⟨(hf.block b ⟨h.lt, Ne.symm hg.1, Ne.symm hg.2⟩).trans h.hb, owns_of_block h.own (fun g hg => hf.block g ⟨(World.ownsRow.lt h.own g hg).2, (hv g hg).1, (hv g hg).2⟩), h.ne, h.nb⟩

abbrev z7 : List Value := [.int .i64 0, .int .i64 0, .string ⟨#[]⟩, .int .i64 0, .int .i64 0, .int .i64 0, .slice none 0 0]
/-- Seven stores. -/
def put7 (w : World) (g o : Nat) (x : Nd) (t : List UInt8) (a : Option Addr) (cap : Nat) : World :=
  ((((((w.setCell ⟨g, o, none⟩ (.int .i64 x.k)).setCell ⟨g, o + 1, none⟩ (.int .i64 x.v)).setCell ⟨g, o + 2, none⟩ (.string (Lx.bs t))).setCell ⟨g, o + 3, none⟩ (.int .i64 x.s)).setCell ⟨g, o + 4, none⟩ (.int .i64 x.e)).setCell ⟨g, o + 5, none⟩ (.int .i64 x.ns)).setCell ⟨g, o + 6, none⟩ (.slice a x.c.length cap)

theorem ncl_one' (x : NE) : ncl [x] = ndCells x.1 x.2.1 x.2.2.1 x.2.2.2 := by simp [ncl]
theorem own_stored7 {w : World} {lo g n cap : Nat} {l : List NE} (x : NE) (hn : n = l.length) (h : w.ownsRow lo 36 7 (.slice (some ⟨g, 0, none⟩) (n + 1) cap) (n + 1) (ncl l ++ z7)) :
    OwnsNd (put7 w g (n * 7) x.1 x.2.1 x.2.2.1 x.2.2.2) lo (.slice (some ⟨g, 0, none⟩) (l.length + 1) cap) (l ++ [x]) ∧ w.grownBy (put7 w g (n * 7) x.1 x.2.1 x.2.2.1 x.2.2.2) (some g) := by
  subst hn
  obtain ⟨h1, g1⟩ := h.stored (l.length * 7) (.int .i64 x.1.k)
  obtain ⟨h2, g2⟩ := h1.stored (l.length * 7 + 1) (.int .i64 x.1.v)
  obtain ⟨h3, g3⟩ := h2.stored (l.length * 7 + 2) (.string (Lx.bs x.2.1))
  obtain ⟨h4, g4⟩ := h3.stored (l.length * 7 + 3) (.int .i64 x.1.s)
  obtain ⟨h5, g5⟩ := h4.stored (l.length * 7 + 4) (.int .i64 x.1.e)
  obtain ⟨h6, g6⟩ := h5.stored (l.length * 7 + 5) (.int .i64 x.1.ns)
  obtain ⟨h7, g7⟩ := h6.stored (l.length * 7 + 6) (.slice x.2.2.1 x.1.c.length x.2.2.2)
  refine ⟨?_, (((((g1.trans g2).trans g3).trans g4).trans g5).trans g6).trans g7⟩
  show World.ownsRow _ _ _ _ _ _ _
  rw [List.length_append, ncl_append, ncl_one']
  have hl := ncl_length l
  rw [List.set_append_right _ _ (by omega), List.set_append_right _ _ (by omega), List.set_append_right _ _ (by omega), List.set_append_right _ _ (by omega), List.set_append_right _ _ (by omega), List.set_append_right _ _ (by omega), List.set_append_right _ _ (by omega), hl] at h7
  unfold put7
  simpa [ndCells] using h7

theorem put7_comm (w : World) (g o gb i : Nat) (x : Nd) (t : List UInt8) (a : Option Addr) (cap : Nat) (u : Value) (h : g ≠ gb) : put7 (w.setCell ⟨gb, i, none⟩ u) g o x t a cap = (put7 w g o x t a cap).setCell ⟨gb, i, none⟩ u := by
  unfold put7
  rw [setCell_comm w ⟨gb, i, none⟩ _ _ _ (Ne.symm h), setCell_comm _ ⟨gb, i, none⟩ _ _ _ (Ne.symm h), setCell_comm _ ⟨gb, i, none⟩ _ _ _ (Ne.symm h), setCell_comm _ ⟨gb, i, none⟩ _ _ _ (Ne.symm h), setCell_comm _ ⟨gb, i, none⟩ _ _ _ (Ne.symm h), setCell_comm _ ⟨gb, i, none⟩ _ _ _ (Ne.symm h), setCell_comm _ ⟨gb, i, none⟩ _ _ _ (Ne.symm h)]

set_option maxHeartbeats 1000000 in
/-- A child more. -/
theorem push_end {w w3 : World} {lo b gb mb : Nat} {k : Int} {a : Acc} {v cv : Value} {l : List NE} {m : Nat} (h : Loc w lo b gb mb k a v cv l m) (x : NE) {m' : Nat}
    (hx : x.1.ok ∧ TEx x.1 x.2.1 ∧ x.1.c.length ≤ x.2.2.2 ∧ x.2.2.2 ≤ maxLen ∧ (x.2.2.1 = none → x.2.2.2 = 0) ∧ Nds w (fun j o => o = 0 ∧ lo ≤ j ∧ j < w.heap.size ∧ j ≠ b ∧ j ≠ gb ∧ j ≠ mb ∧ v.ownBlock ≠ some j ∧ cv.ownBlock ≠ some j ∧ Pl w j) TEx m' x.2.2.1 x.1.c)
    {o : Obj} {g cap : Nat} (hg : (w.alloc o).grownBy w3 cv.ownBlock) (hown : w3.ownsRow lo 36 7 (.slice (some ⟨g, 0, none⟩) (l.length + 1) cap) (l.length + 1) (ncl l ++ z7)) (hloc : cv.ownBlock = some g ∨ w.heap.size ≤ g) (hvl : ∀ q, v.ownBlock = some q → q < w.heap.size) (hbl : b < w.heap.size) :
    ∀ W, W = (put7 w3 g (l.length * 7) x.1 x.2.1 x.2.2.1 x.2.2.2).setCell ⟨gb, 6, none⟩ (.slice (some ⟨g, 0, none⟩) (l.length + 1) cap) →
      Loc W lo b gb mb k { a with c := a.c ++ [x.1] } v (.slice (some ⟨g, 0, none⟩) (l.length + 1) cap) (l ++ [x]) (max m m') ∧ Fr (fun j => j < w.heap.size ∧ j ≠ gb ∧ cv.ownBlock ≠ some j) w W := by
  rintro W rfl
  obtain ⟨h1, h2⟩ := own_stored7 x rfl hown
  have hsp : (put7 w3 g (l.length * 7) x.1 x.2.1 x.2.2.1 x.2.2.2).heap.size = w3.heap.size := by simp [put7]
  generalize put7 w3 g (l.length * 7) x.1 x.2.1 x.2.2.1 x.2.2.2 = P at *
  have hgl := h.gl
  have hgb : g ≠ gb ∧ g ≠ mb ∧ g ≠ b ∧ v.ownBlock ≠ some g := by
    rcases hloc with e | e
    · obtain ⟨p1, p2, p3, p4⟩ := h.cne g e; exact ⟨p2, p3, p1, p4⟩
    · exact ⟨by omega, by omega, by omega, fun q => by have := hvl g q; omega⟩
  have hs3 : w.heap.size + 1 ≤ w3.heap.size := by have := hg.size; simpa using this
  have blk : ∀ j, j < w.heap.size → cv.ownBlock ≠ some j → j ≠ gb → (P.setCell ⟨gb, 6, none⟩ (.slice (some ⟨g, 0, none⟩) (l.length + 1) cap)).heap[j]? = w.heap[j]? := by
    intro j p1 p2 p3
    rw [heap_setCell_other _ ⟨gb, 6, none⟩ j _ p3, h2.block j (by omega) (fun e => ?_), hg.block j (by simp; omega) (fun e => p2 e.symm), Below.heap_alloc _ _ _ p1]
    have e := Option.some.inj e
    rcases hloc with q | q
    · exact p2 (by rw [q, e])
    · omega
  have gbb : P.heap[gb]? = some (nBox k a cv) := by
    rw [h2.block gb (by omega) (fun e => hgb.1 (Option.some.inj e).symm), hg.block gb (by simp; omega) (fun e => (h.cne gb e.symm).2.1 rfl), Below.heap_alloc _ _ _ hgl.1]
    exact h.nb.hg
  have hfr : Fr (fun j => j < w.heap.size ∧ j ≠ gb ∧ cv.ownBlock ≠ some j) w (P.setCell ⟨gb, 6, none⟩ (.slice (some ⟨g, 0, none⟩) (l.length + 1) cap)) :=
    ⟨h2.os.trans hg.os, h2.tape.trans hg.tape, h2.output.trans hg.output, by simp [hsp]; omega, fun j hj => blk j hj.1 hj.2.2 hj.2.1⟩
  have hmv : ∀ j o, (o = 0 ∧ lo ≤ j ∧ j < w.heap.size ∧ j ≠ b ∧ j ≠ gb ∧ j ≠ mb ∧ v.ownBlock ≠ some j ∧ cv.ownBlock ≠ some j ∧ Pl w j) → (o = 0 ∧ lo ≤ j ∧ j < (P.setCell ⟨gb, 6, none⟩ (.slice (some ⟨g, 0, none⟩) (l.length + 1) cap)).heap.size ∧ j ≠ b ∧ j ≠ gb ∧ j ≠ mb ∧ v.ownBlock ≠ some j ∧ (Value.slice (some ⟨g, 0, none⟩) (l.length + 1) cap).ownBlock ≠ some j ∧ Pl (P.setCell ⟨gb, 6, none⟩ (.slice (some ⟨g, 0, none⟩) (l.length + 1) cap)) j) := by
    rintro j o ⟨p1, p2, p3, p4, p5, p6, p7, p8, p9⟩
    refine ⟨p1, p2, by simp [hsp]; omega, p4, p5, p6, p7, fun e => ?_, p9.of_block (blk j p3 p8 p5)⟩
    have e : g = j := Option.some.inj e
    rcases hloc with q | q
    · exact p8 (by rw [q, e])
    · omega
  have hkept : KeptS (fun j o => o = 0 ∧ lo ≤ j ∧ j < w.heap.size ∧ j ≠ b ∧ j ≠ gb ∧ j ≠ mb ∧ v.ownBlock ≠ some j ∧ cv.ownBlock ≠ some j ∧ Pl w j) w (P.setCell ⟨gb, 6, none⟩ (.slice (some ⟨g, 0, none⟩) (l.length + 1) cap)) :=
    fun j o i hj => World.cell?_of_block (blk j hj.2.2.1 hj.2.2.2.2.2.2.2.1 hj.2.2.2.2.1)
  refine ⟨⟨⟨(set7 gbb).2.2.2.2.2, ?_, h.nb.ne⟩, ?_, ?_, ?_, ?_, h.vne, h.gne⟩, hfr⟩
  · exact (blk mb hgl.2 (fun e => (h.cne mb e).2.2.1 rfl) (Ne.symm h.nb.ne)).trans h.nb.hm
  · exact owns_set h1 _ _ (fun e => hgb.1 (Option.some.inj e))
  · rw [List.map_append, h.ch]; rfl
  · obtain ⟨q1, q2, q3, q4, q5, q6⟩ := hx
    exact SubN.snoc ((h.sub.kept hkept).up hmv (Nat.le_max_left _ _)) ⟨q1, q2, q3, q4, q5, (q6.kept hkept).up hmv (fun _ _ h => h) (Nat.le_max_right _ _)⟩
  · intro g' e
    have e : g = g' := Option.some.inj e
    subst e
    exact ⟨hgb.2.2.1, hgb.1, hgb.2.1, hgb.2.2.2⟩

theorem OwnsNd.form {w : World} {B : Nat} {v : Value} {l : List NE} (h : OwnsNd w B v l) : ∃ a c, v = .slice a l.length c := by
  rcases h.2 with ⟨e, h0⟩ | ⟨g, cap, cur, e, _⟩
  · exact ⟨none, 0, by rw [e, h0]⟩
  · exact ⟨_, _, e⟩

theorem appended7 {w w3 : World} {o : Obj} {lo gb : Nat} {u : Value} {v : Value} {l : List NE} {g cap H : Nat} (hlb : gb < w.heap.size) (c3 : w.cell? ⟨gb, 6, none⟩ = some u) (z3 : w.frozen? ⟨gb, 6, none⟩ = false)
    (hrow : ∀ q, v.ownBlock = some q → q ≠ gb) (hown : w3.ownsRow lo 36 7 (.slice (some ⟨g, 0, none⟩) (l.length + 1) cap) (l.length + 1) (ncl l ++ z7)) (hgrow : (w.alloc o).grownBy w3 v.ownBlock)
    (hat : v.ownBlock = some g ∨ g = H) (hH : gb < H) : g ≠ gb ∧ w3.cell? ⟨gb, 6, none⟩ = some u ∧ w3.frozen? ⟨gb, 6, none⟩ = false ∧
      (w3.cell? ⟨g, l.length * 7, none⟩ = some (.int .i64 0) ∧ w3.cell? ⟨g, l.length * 7 + 1, none⟩ = some (.int .i64 0) ∧ w3.cell? ⟨g, l.length * 7 + 2, none⟩ = some (.string ⟨#[]⟩) ∧ w3.cell? ⟨g, l.length * 7 + 3, none⟩ = some (.int .i64 0) ∧ w3.cell? ⟨g, l.length * 7 + 4, none⟩ = some (.int .i64 0) ∧ w3.cell? ⟨g, l.length * 7 + 5, none⟩ = some (.int .i64 0) ∧ w3.cell? ⟨g, l.length * 7 + 6, none⟩ = some (.slice none 0 0)) ∧
      (w3.frozen? ⟨g, l.length * 7, none⟩ = false ∧ w3.frozen? ⟨g, l.length * 7 + 1, none⟩ = false ∧ w3.frozen? ⟨g, l.length * 7 + 2, none⟩ = false ∧ w3.frozen? ⟨g, l.length * 7 + 3, none⟩ = false ∧ w3.frozen? ⟨g, l.length * 7 + 4, none⟩ = false ∧ w3.frozen? ⟨g, l.length * 7 + 5, none⟩ = false ∧ w3.frozen? ⟨g, l.length * 7 + 6, none⟩ = false) := by
  have hne : some gb ≠ v.ownBlock := fun e => hrow _ e.symm rfl
  have hlt : gb < (w.alloc o).heap.size := by simp; omega
  have hba : (w.alloc o).heap[gb]? = w.heap[gb]? := Below.heap_alloc _ _ _ hlb
  have q : ∀ j, j < 7 → w3.cell? ⟨g, l.length * 7 + j, none⟩ = z7[j]? := fun j hj => by
    have := hown.cellAt (l.length * 7 + j) (by omega)
    rw [List.getElem?_append_right (by rw [ncl_length]; omega), ncl_length, Nat.add_sub_cancel_left] at this
    exact this
  refine ⟨?_, (hgrow.cell_far ⟨gb, 6, none⟩ hlt hne).trans ((World.cell?_of_block hba).trans c3), (hgrow.frozen_far ⟨gb, 6, none⟩ hlt hne).trans ((World.frozen?_of_block hba).trans z3), ⟨q 0 (by omega), q 1 (by omega), q 2 (by omega), q 3 (by omega), q 4 (by omega), q 5 (by omega), q 6 (by omega)⟩, hown.frozenAt _, hown.frozenAt _, hown.frozenAt _, hown.frozenAt _, hown.frozenAt _, hown.frozenAt _, hown.frozenAt _⟩
  rcases hat with e | e
  · exact hrow g e
  · omega
end Go.Proofs.YtcpojagfnpajeaaGreatDoorR.Ps

namespace Go.Proofs.YtcpojagfnpajeaaGreatDoorR.Ps
open Go.RowKit

/-- What the text of a node may be: of an error the old or the new one; behind the call the new one. -/
def T1 (src : List UInt8) (x : Nd) (t : List UInt8) : Prop := if x.k = 46 then t = x.t ∨ t = cut src x.s x.e else t = x.t
def T2 (src : List UInt8) (x : Nd) (t : List UInt8) : Prop := if x.k = 46 then t = cut src x.s x.e else t = x.t
theorem TEx.t1 {src : List UInt8} {x : Nd} {t : List UInt8} (h : TEx x t) : T1 src x t := by unfold T1; split <;> simp [h]
/-- In the blocks of S but texts of errors have changed. -/
structure Chg (S : Nat → Prop) (src : List UInt8) (w w' : World) : Prop where
  os : w'.os = w.os
  tape : w'.tape = w.tape
  output : w'.output = w.output
  size : w.heap.size ≤ w'.heap.size
  pl : ∀ j, S j → Pl w j → Pl w' j
  cell : ∀ j i, S j → w'.cell? ⟨j, i, none⟩ = w.cell? ⟨j, i, none⟩ ∨ ∃ o s e, i = o + 2 ∧ o % 7 = 0 ∧ w.cell? ⟨j, o, none⟩ = some (.int .i64 46) ∧ w.cell? ⟨j, o + 3, none⟩ = some (.int .i64 s) ∧ w.cell? ⟨j, o + 4, none⟩ = some (.int .i64 e) ∧ w'.cell? ⟨j, i, none⟩ = some (.string (Lx.bs (cut src s e)))

section
variable {S : Nat → Prop} {src : List UInt8} {w w' w3 : World}
theorem Chg.refl (S : Nat → Prop) (src : List UInt8) (w : World) : Chg S src w w := ⟨rfl, rfl, rfl, Nat.le_refl _, fun _ _ h => h, fun _ _ _ => Or.inl rfl⟩
/-- Cells that are no texts stay. -/
theorem Chg.same (h : Chg S src w w') {j i : Nat} (hj : S j) (hi : i % 7 ≠ 2) : w'.cell? ⟨j, i, none⟩ = w.cell? ⟨j, i, none⟩ := by
  rcases h.cell j i hj with e | ⟨o, s, e, rfl, ho, _⟩
  · exact e
  · omega
theorem Chg.trans (h : Chg S src w w') (h' : Chg S src w' w3) : Chg S src w w3 := by
  refine ⟨h'.os.trans h.os, h'.tape.trans h.tape, h'.output.trans h.output, Nat.le_trans h.size h'.size, fun j hj hp => h'.pl j hj (h.pl j hj hp), fun j i hj => ?_⟩
  rcases h'.cell j i hj with e | ⟨o, s, e, hi, ho, c0, c3, c4, c2⟩
  · rcases h.cell j i hj with e1 | ⟨o, s, e', hi, ho, c0, c3, c4, c2⟩
    · exact Or.inl (e.trans e1)
    · exact Or.inr ⟨o, s, e', hi, ho, c0, c3, c4, e.trans c2⟩
  · refine Or.inr ⟨o, s, e, hi, ho, ?_, ?_, ?_, c2⟩
    · rw [← h.same hj (by omega)]; exact c0
    · rw [← h.same hj (by omega)]; exact c3
    · rw [← h.same hj (by omega)]; exact c4
/-- A node keeps its cells, but for the text of an error. -/
theorem Seven.chg (h : Chg S src w w') {j o : Nat} (hj : S j) (ho : o % 7 = 0) {x : Nd} {t : List UInt8} {sa : Option Addr} {cap : Nat} (hs : Seven w j o x t sa cap) : ∃ t', Seven w' j o x t' sa cap ∧ (t' = t ∨ (x.k = 46 ∧ t' = cut src x.s x.e)) := by
  have e0 := h.same hj (i := o) (by omega)
  have e1 := h.same hj (i := o + 1) (by omega)
  have e3 := h.same hj (i := o + 3) (by omega)
  have e4 := h.same hj (i := o + 4) (by omega)
  have e5 := h.same hj (i := o + 5) (by omega)
  have e6 := h.same hj (i := o + 6) (by omega)
  rcases h.cell j (o + 2) hj with e2 | ⟨o', s, e, hi, ho', c0, c3, c4, c2⟩
  · exact ⟨t, ⟨e0.trans hs.c0, e1.trans hs.c1, e2.trans hs.c2, e3.trans hs.c3, e4.trans hs.c4, e5.trans hs.c5, e6.trans hs.c6⟩, Or.inl rfl⟩
  · have : o' = o := by omega
    subst this
    have k0 : x.k = 46 := by have := hs.c0.symm.trans c0; simpa using this
    have k3 : x.s = s := by have := hs.c3.symm.trans c3; simpa using this
    have k4 : x.e = e := by have := hs.c4.symm.trans c4; simpa using this
    refine ⟨cut src x.s x.e, ⟨e0.trans hs.c0, e1.trans hs.c1, by rw [c2, k3, k4], e3.trans hs.c3, e4.trans hs.c4, e5.trans hs.c5, e6.trans hs.c6⟩, Or.inr ⟨k0, rfl⟩⟩

theorem T1.chg {x : Nd} {t t' : List UInt8} (h : T1 src x t) (h' : t' = t ∨ (x.k = 46 ∧ t' = cut src x.s x.e)) : T1 src x t' := by
  rcases h' with rfl | ⟨hk, rfl⟩
  · exact h
  · unfold T1; rw [if_pos hk]; exact Or.inr rfl
theorem T2.chg {x : Nd} {t t' : List UInt8} (h : T2 src x t) (h' : t' = t ∨ (x.k = 46 ∧ t' = cut src x.s x.e)) : T2 src x t' := by
  rcases h' with rfl | ⟨hk, rfl⟩
  · exact h
  · unfold T2; rw [if_pos hk]

/-- Nodes stay, at the texts that either reading allows. -/
theorem Nds.chg {T : Nd → List UInt8 → Prop} (hT : ∀ x t t', T x t → (t' = t ∨ (x.k = 46 ∧ t' = cut src x.s x.e)) → T x t') (h : Chg S src w w') : ∀ {n : Nat} {a : Option Addr} {l : List Nd}, Nds w (fun j o => o = 0 ∧ S j) T n a l → Nds w' (fun j o => o = 0 ∧ S j) T n a l
  | 0, _, _, hn => hn
  | n + 1, a, l, hn => by
    intro i x hx
    obtain ⟨h0, b, o, sa, cap, t, h1, ⟨rfl, h2⟩, h3, h4, h5, h6, h7, h8⟩ := hn i x hx
    obtain ⟨t', q1, q2⟩ := Seven.chg h h2 (by omega) h7
    exact ⟨h0, b, 0, sa, cap, t', h1, ⟨rfl, h2⟩, hT x t t' h3 q2, h4, h5, h6, q1, h8.chg hT h⟩
end

/-- At (pb, po) stands the node x. -/
def NdAt (w : World) (S : Nat → Prop) (T : Nd → List UInt8 → Prop) (n : Nat) (pb po : Nat) (x : Nd) : Prop :=
  x.ok ∧ po % 7 = 0 ∧ S pb ∧ ∃ sa cap t, T x t ∧ x.c.length ≤ cap ∧ cap ≤ maxLen ∧ (sa = none → cap = 0) ∧ Seven w pb po x t sa cap ∧ Nds w (fun j o => o = 0 ∧ S j) T n sa x.c
theorem NdAt.chg {S : Nat → Prop} {src : List UInt8} {w w' : World} {T : Nd → List UInt8 → Prop} (hT : ∀ x t t', T x t → (t' = t ∨ (x.k = 46 ∧ t' = cut src x.s x.e)) → T x t') (h : Chg S src w w') {n pb po : Nat} {x : Nd} (hn : NdAt w S T n pb po x) : NdAt w' S T n pb po x := by
  obtain ⟨h0, h1, h2, sa, cap, t, h3, h4, h5, h6, h7, h8⟩ := hn
  obtain ⟨t', q1, q2⟩ := Seven.chg h h2 h1 h7
  exact ⟨h0, h1, h2, sa, cap, t', hT x t t' h3 q2, h4, h5, h6, q1, h8.chg hT h⟩
theorem Nds.node {w : World} {S : Nat → Prop} {T : Nd → List UInt8 → Prop} {n b o : Nat} {l : List Nd} (h : Nds w (fun j o => o = 0 ∧ S j) T n (some ⟨b, o, none⟩) l) {i : Nat} {x : Nd} (hx : l[i]? = some x) : o = 0 ∧ ∃ m, m < n ∧ NdAt w S T m b (i * 7) x := by
  obtain ⟨h0, m, b', o', sa, cap, t, hm, e, ⟨rfl, h2⟩, h3, h4, h5, h6, h7, h8⟩ := Nds.at h hx
  cases e
  exact ⟨rfl, m, hm, h0, by omega, h2, sa, cap, t, h3, h4, h5, h6, by simpa using h7, h8⟩

mutual
/-- All ranges lie within the first hi bytes. -/
def rgT (hi : Nat) : Nd → Bool
  | .mk _ _ _ s e _ c => decide (0 ≤ s ∧ s ≤ e ∧ e ≤ (hi : Int)) && rgL hi c
def rgL (hi : Nat) : List Nd → Bool
  | [] => true
  | x :: r => rgT hi x && rgL hi r
end
theorem rgT_eq (hi : Nat) (x : Nd) : rgT hi x = (decide (0 ≤ x.s ∧ x.s ≤ x.e ∧ x.e ≤ (hi : Int)) && rgL hi x.c) := by cases x; rfl
theorem rgL_append (hi : Nat) (a b : List Nd) : rgL hi (a ++ b) = (rgL hi a && rgL hi b) := by
  induction a with
  | nil => simp [rgL]
  | cons x r ih => simp [rgL, ih, Bool.and_assoc]
theorem rgL_mem {hi : Nat} {l : List Nd} (h : rgL hi l = true) {x : Nd} (hx : x ∈ l) : rgT hi x = true := by
  induction l with
  | nil => cases hx
  | cons y r ih =>
    simp only [rgL, Bool.and_eq_true] at h
    rcases List.mem_cons.1 hx with rfl | hx
    · exact h.1
    · exact ih h.2 hx
mutual
theorem rgT_up {hi hi' : Nat} (hh : hi ≤ hi') : ∀ x : Nd, rgT hi x = true → rgT hi' x = true
  | .mk k v t s e ns c, h => by
    simp only [rgT, Bool.and_eq_true, decide_eq_true_eq] at h ⊢
    exact ⟨by omega, rgL_up hh c h.2⟩
theorem rgL_up {hi hi' : Nat} (hh : hi ≤ hi') : ∀ l : List Nd, rgL hi l = true → rgL hi' l = true
  | [], _ => rfl
  | x :: r, h => by
    simp only [rgL, Bool.and_eq_true] at h ⊢
    exact ⟨rgT_up hh x h.1, rgL_up hh r h.2⟩
end
theorem rg_acc (n : Nat) (ih : ∀ y o, y.height ≤ n → okP y = true → o + (srcs y.c).length ≤ 2000 → rgT (bldT y o).2.1 (bldT y o).1 = true) (x : Tree) (o : Nat) (hh : heights x.c ≤ n) (hok : okP x = true) (ho : o + (srcs x.c).length ≤ 2000) :
    ∀ i, i ≤ x.c.length → rgL (accAt x.k o x.c i).o (accAt x.k o x.c i).c = true
  | 0, _ => by rw [accAt_zero]; rfl
  | i + 1, hi => by
    have h := rg_acc n ih x o hh hok ho i (by omega)
    have hb := ba_of hok ho (i := i) (by omega)
    have hb1 := ba_of hok ho (i := i + 1) hi
    have hx : x.c[i]? = some x.c[i] := List.getElem?_eq_getElem (by omega)
    generalize x.c[i] = y at hx
    have hm := List.mem_of_getElem? hx
    have hs := srcs_step hx
    have hsu := srcs_upto x.c (i + 1)
    have hhy := height_of hm
    have hokp := hok
    rw [okP_eq, Bool.and_eq_true] at hokp
    by_cases hy : y.k < 100
    · rw [srcT_inner' hy] at hs
      have ho2 := hb.o2
      have hq := ih y (accAt x.k o x.c i).o (by omega) (okPs_mem hokp.2 hm hy) (by omega)
      have bt := bt_all y.height y (accAt x.k o x.c i).o (Nat.le_refl _) (okPs_mem hokp.2 hm hy) (by omega)
      have e : accAt x.k o x.c (i + 1) = stepA x.k (accAt x.k o x.c i) y := accAt_succ hx
      unfold stepA at e
      rw [if_pos hy] at e
      dsimp only at e
      rw [e]
      show rgL (bldT y (accAt x.k o x.c i).o).2.1 ((accAt x.k o x.c i).c ++ [(bldT y (accAt x.k o x.c i).o).1]) = true
      rw [rgL_append, rgL_up bt.o1 _ h]
      simp [rgL, hq]
    · have e : accAt x.k o x.c (i + 1) = stepA x.k (accAt x.k o x.c i) y := accAt_succ hx
      unfold stepA at e
      rw [if_neg hy] at e
      obtain ⟨t1, _, t3⟩ := tokA_o x.k y.k (Lx.L y.t) (accAt x.k o x.c i)
      rw [e, t3, t1]
      exact rgL_up (by omega) _ h
theorem rg_all : ∀ (n : Nat) (x : Tree) (o : Nat), x.height ≤ n → okP x = true → o + (srcs x.c).length ≤ 2000 → rgT (bldT x o).2.1 (bldT x o).1 = true
  | 0, x, _, h, _, _ => by have := tree_height x; omega
  | n + 1, x, o, h, hok, ho => by
    have hht := tree_height x
    have ha := rg_acc n (rg_all n) x o (by omega) hok ho x.c.length (Nat.le_refl _)
    have bt := bt_all (n + 1) x o h hok ho
    have hs := bt.nok.s
    rw [rgT_eq, Bool.and_eq_true, decide_eq_true_eq]
    refine ⟨by omega, ?_⟩
    rw [bldT_eq] at hs ⊢
    dsimp only at hs ⊢
    unfold ndOf at hs ⊢
    split
    · cases hc : (accAt x.k o x.c x.c.length).c with
      | nil => rfl
      | cons q r =>
        rw [hc] at ha
        simp only [rgL, Bool.and_eq_true] at ha
        have := ha.1
        rw [rgT_eq, Bool.and_eq_true] at this
        exact this.2
    · exact ha
end Go.Proofs.YtcpojagfnpajeaaGreatDoorR.Ps
