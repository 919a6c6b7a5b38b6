/-
  What ast.Parse wants besides: facts on the tree, sorting and compacting of whatever slice, the nodes with their errors' texts set.
-/
import Derived.Test.YtcpojagfnpajeaaGreatDoorRZAsFin2
import Derived.Test.YtcpojagfnpajeaaGreatDoorRZAsBuild
import Derived.Test.YtcpojagfnpajeaaGreatDoorRZAsComp2
import Derived.Test.YtcpojagfnpajeaaGreatDoorRZRpUp
namespace Go.Proofs.YtcpojagfnpajeaaGreatDoorR.Ps
open Go.RowKit Go.Sort Go.Lib

/-! ### facts on the tree -/

/-- The syntax tree of a source, its abstract one, its diagnostics. -/
def treeA (l : List UInt8) : Tree := inner 1 (parseC l)
def rootA (l : List UInt8) : Nd := rootOf l (treeA l)
def diagA (l : List UInt8) : List Dg := diagsOf l (treeA l)

structure TFacts (l : List UInt8) (x : Tree) : Prop where
  ok : x.ok
  okp : okP x = true
  src : srcs x.c = l
  size : x.size ≤ 32001
  ch : x.c = parseC l

theorem tree_facts {l : List UInt8} (h : l.length ≤ 2000) : TFacts l (treeA l) := by
  obtain ⟨z, hz, hwf, hzs, hzh⟩ := parse_some h
  have hc := parseC_is hz
  have hgd := run_gd FU .file _ z hz (fun t ht => by have := (valid_T l t ht).1; omega)
  have hok : okPs (parseC l) = true := by rw [← hc]; exact hgd.2 rfl
  have hlen := len_sizes (parseC l)
  rw [hc] at hzs
  refine ⟨⟨⟨by show (-9223372036854775808 : Int) ≤ 1; omega, by show (1 : Int) ≤ 9223372036854775807; omega⟩, by show (0 : Nat) ≤ _; omega, ?_⟩, ?_, parseC_src h, ?_, rfl⟩
  · show (parseC l).length ≤ maxLen
    unfold maxLen; omega
  · rw [okP_eq]
    show (((1 : Int) != 60 || hasIn (parseC l)) && okPs (parseC l)) = true
    rw [hok]; rfl
  · rw [size_eq]
    show 1 + sizes (parseC l) ≤ _
    omega

mutual
theorem bldT_sz : ∀ (x : Tree) (o : Nat), (bldT x o).1.size ≤ x.size
  | .node k t c, o => by
    have h := bldL_sz k c (acc0 o)
    simp only [bldT, Tree.size]
    have h0 : nsizes (acc0 o).c = 0 := rfl
    rw [h0] at h
    unfold ndOf
    split
    · cases hc : (bldL k c (acc0 o)).c with
      | nil => simp only [Nd.size, nsizes]; omega
      | cons q r =>
        rw [hc] at h
        simp only [nsizes] at h
        simp only [Nd.size]
        have := nd_size q
        omega
    · simp only [Nd.size]; omega
theorem bldL_sz : ∀ (k : Int) (c : List Tree) (a : Acc), nsizes (bldL k c a).c ≤ nsizes a.c + sizes c
  | _, [], a => by simp [bldL, sizes]
  | k, x :: r, a => by
    simp only [bldL]
    refine Nat.le_trans (bldL_sz k r _) ?_
    simp only [sizes]
    split
    · have := bldT_sz x a.o
      simp only [cov, nsizes_append, nsizes]
      omega
    · rw [tokA_c]
      omega
end

/-- The node at the root, its errors' texts not set yet. -/
def root0 (l : List UInt8) (x : Tree) : Nd := .mk (bldT x 0).1.k (bldT x 0).1.v (bldT x 0).1.t 0 (l.length : Int) (bldT x 0).1.ns (bldT x 0).1.c
theorem rootOf_eq (l : List UInt8) (x : Tree) : rootOf l x = finT l (root0 l x) := rfl
theorem diagsOf_eq (l : List UInt8) (x : Tree) : diagsOf l x = sortD ((bldT x 0).2.2 ++ finD l (root0 l x)) := rfl

theorem root0_rg {l : List UInt8} {x : Tree} (h : TFacts l x) (hl : l.length ≤ 2000) : rgT l.length (root0 l x) = true := by
  have hs : (srcs x.c).length = l.length := by rw [h.src]
  have h1 := rg_all x.height x 0 (Nat.le_refl _) h.okp (by omega)
  have h2 := (bt_all x.height x 0 (Nat.le_refl _) h.okp (by omega)).o2
  have h3 := rgT_up (hi' := l.length) (by omega) _ h1
  rw [rgT_eq, Bool.and_eq_true] at h3 ⊢
  refine ⟨?_, h3.2⟩
  rw [decide_eq_true_eq]
  show (0 : Int) ≤ 0 ∧ (0 : Int) ≤ (l.length : Int) ∧ (l.length : Int) ≤ (l.length : Int)
  omega
theorem root0_size {l : List UInt8} {x : Tree} (h : TFacts l x) : (root0 l x).size ≤ 32001 := by
  have h1 := bldT_sz x 0
  rw [nd_size] at h1
  have := h.size
  show 1 + nsizes (bldT x 0).1.c ≤ _
  omega
theorem root0_ok {l : List UInt8} {x : Tree} (hl : l.length ≤ 2000) (hq : (bldT x 0).1.ok) : (root0 l x).ok := by
  obtain ⟨h1, h2, h3, h4, h5, h6, h7⟩ := hq
  exact ⟨h1, h2, h3, ⟨by show (-9223372036854775808 : Int) ≤ 0; omega, by show (0 : Int) ≤ 9223372036854775807; omega⟩, ⟨by show (-9223372036854775808 : Int) ≤ (l.length : Int); omega, by show (l.length : Int) ≤ 9223372036854775807; omega⟩, h6, h7⟩

/-! ### the errors' texts are set -/

theorem finL_len (src : List UInt8) (c : List Nd) : (finL src c).length = c.length := by
  induction c with
  | nil => rfl
  | cons x r ih => simp [finL, ih]
theorem finL_at (src : List UInt8) : ∀ (c : List Nd) (i : Nat), (finL src c)[i]? = (c[i]?).map (finT src)
  | [], i => by simp [finL]
  | x :: r, 0 => by simp [finL]
  | x :: r, i + 1 => by simp [finL, finL_at src r i]
theorem finT_eq (src : List UInt8) (x : Nd) : finT src x = .mk x.k x.v (if x.k = 46 then cut src x.s x.e else x.t) x.s x.e x.ns (finL src x.c) := by cases x; rfl
theorem cut_len (src : List UInt8) (a b : Int) : (cut src a b).length ≤ src.length := by unfold cut; rw [List.length_take, List.length_drop]; omega
theorem finT_ok {src : List UInt8} (hs : src.length ≤ 2000) {x : Nd} (h : x.ok) : (finT src x).ok := by
  obtain ⟨h1, h2, h3, h4, h5, h6, h7⟩ := h
  rw [finT_eq]
  refine ⟨h1, h2, ?_, h4, h5, h6, ?_⟩
  · show (if x.k = 46 then cut src x.s x.e else x.t).length ≤ maxLen
    have := cut_len src x.s x.e
    split
    · unfold maxLen; omega
    · exact h3
  · show (finL src x.c).length ≤ maxLen
    rw [finL_len]; exact h7
theorem T2_eq {src : List UInt8} {x : Nd} {t : List UInt8} (h : T2 src x t) : t = (finT src x).t := by
  rw [finT_eq]
  unfold T2 at h
  show t = if x.k = 46 then cut src x.s x.e else x.t
  split <;> rename_i hk
  · rw [if_pos hk] at h; exact h
  · rw [if_neg hk] at h; exact h
theorem Seven.fin {w : World} {src : List UInt8} {b o : Nat} {x : Nd} {t : List UInt8} {a : Option Addr} {cap : Nat} (h : Seven w b o x t a cap) (ht : T2 src x t) : Seven w b o (finT src x) (finT src x).t a cap := by
  have he := T2_eq ht
  rw [← he]
  have hc : (finT src x).c.length = x.c.length := by rw [finT_eq]; exact finL_len _ _
  rw [finT_eq] at hc ⊢
  exact ⟨h.c0, h.c1, h.c2, h.c3, h.c4, h.c5, by rw [h.c6]; exact congrArg (fun n => some (Value.slice a n cap)) hc.symm⟩
theorem Nds.fin {w : World} {src : List UInt8} {S : Nat → Nat → Prop} (hs : src.length ≤ 2000) : ∀ {n : Nat} {a : Option Addr} {l : List Nd}, Nds w S (T2 src) n a l → Nds w S TEx n a (finL src l)
  | 0, _, l, h => by
    have h0 : l = [] := h
    subst h0
    exact rfl
  | n + 1, a, l, h => by
    intro i y hy
    rw [finL_at] at hy
    cases hx : l[i]? with
    | none => rw [hx] at hy; cases hy
    | some x =>
      rw [hx] at hy
      cases hy
      obtain ⟨h0, b, o, sa, cap, t, h1, h2, h3, h4, h5, h6, h7, h8⟩ := h i x hx
      refine ⟨finT_ok hs h0, b, o, sa, cap, (finT src x).t, h1, h2, rfl, ?_, h5, h6, h7.fin h3, ?_⟩
      · rw [finT_eq]; show (finL src x.c).length ≤ cap; rw [finL_len]; exact h4
      · rw [finT_eq]; exact h8.fin hs

/-! ### sorting and compacting of whatever slice -/

set_option maxHeartbeats 1000000 in
theorem ins_nil (w : World) : Calls Tryz.prog 172 #[.slice none 0 0, .int .i64 0, .int .i64 0, .func (.func 58) #[] #[]] w fun e w' => e = .returned (.tuple #[]) ∧ w' = w := by
  go_enter Tryz.func172, Tryz.ntmps172
  go_wp2
  refine wp_loop_rounds 1 ?_
  rw [rounds_succ]
  go_wp2
  go_end0
  exact ⟨rfl, rfl⟩
set_option maxHeartbeats 1000000 in
theorem pdq_nil (lim : Int) (w : World) : Calls Tryz.prog 109 #[.slice none 0 0, .int .i64 0, .int .i64 0, .int .i64 lim, .func (.func 58) #[] #[]] w fun e w' => e = .returned (.tuple #[]) ∧ w' = w := by
  have hi := fun W => ins_nil W
  go_enter Tryz.func109, Tryz.ntmps109
  go_wp2
  refine wp_loop_rounds 1 ?_
  rw [rounds_succ]
  go_wp2_with (go_at_call 172; refine (hi _).mono ?_; rintro e w' ⟨rfl, rfl⟩)
  (try simp only [Exit.inBlock, Exit.then]); refine bodyPost_ret (results_none rfl _ _ _) rfl ?_
  exact ⟨rfl, rfl⟩
set_option maxHeartbeats 1000000 in
theorem sort_nil (w : World) : Calls Tryz.prog 57 #[.slice none 0 0, .func (.func 58) #[] #[]] w fun e w' => e = .returned (.tuple #[]) ∧ w' = w := by
  have hp := fun lim W => pdq_nil lim W
  have hl : ∀ W, Calls Tryz.prog 110 #[.int .u64 0] W fun e w' => e = .returned (.int .i64 (Lib.bitLen 0 : Nat)) ∧ w' = W := fun W => by
    have h := Any.bits_Len (Go.Proofs.SlLaysF0.n15.bits (P := Tryz.prog) (ρ := Tryz.sortDg_ren) { Tryz.sortDg with }) 0 W (by omega) (by omega)
    exact h
  go_enter Tryz.func57, Tryz.ntmps57
  go_wp2_with (first | (go_at_call 110; refine (hl _).mono ?_; rintro e w' ⟨rfl, rfl⟩) | (go_at_call 109; refine (hp _ _).mono ?_; rintro e w' ⟨rfl, rfl⟩))
  go_end0
  exact ⟨rfl, rfl⟩

theorem sort_all (B : Nat) (v : Value) (l : List Dg) (w : World) (h : OwnsD w B v l) (hl : l.length ≤ 1000000) :
    Calls Tryz.prog 57 #[v, .func (.func 58) #[] #[]] w fun e w' => e = .returned (.tuple #[]) ∧ OwnsD w' B v (isort l) ∧ Fr (fun j => j < w.heap.size ∧ v.ownBlock ≠ some j) w w' := by
  rcases h.2 with ⟨rfl, h0⟩ | ⟨g, cap, cur, rfl, _⟩
  · have : l = [] := List.eq_nil_of_length_eq_zero h0
    subst this
    refine (sort_nil w).mono ?_
    rintro e w' ⟨rfl, rfl⟩
    exact ⟨rfl, h, Fr.refl _ _⟩
  · refine (sort_any B g cap l w h hl).mono ?_
    rintro e w' ⟨rfl, h1, h2⟩
    exact ⟨rfl, h1, h2.sub fun j hj => ⟨hj.1, fun e => hj.2 (by rw [e]; rfl)⟩⟩

set_option maxHeartbeats 1000000 in
theorem compact_nil (w : World) : Calls Tryz.prog 59 #[.slice none 0 0] w fun e w' => e = .returned (.slice none 0 0) ∧ w' = w := by
  go_enter Tryz.func59, Tryz.ntmps59
  go_wp2_with fail
  go_ret
  exact ⟨rfl, rfl⟩
theorem compact_all (B : Nat) (v : Value) (l : List Dg) (w : World) (h : OwnsD w B v l) (hl : l.length ≤ 1000000) :
    Calls Tryz.prog 59 #[v] w fun e w' => ∃ v', e = .returned v' ∧ OwnsD w' B v' (compL l) ∧ v'.ownBlock = v.ownBlock ∧ Fr (fun j => j < w.heap.size ∧ v.ownBlock ≠ some j) w w' := by
  rcases h.2 with ⟨rfl, h0⟩ | ⟨g, cap, cur, rfl, _⟩
  · have : l = [] := List.eq_nil_of_length_eq_zero h0
    subst this
    refine (compact_nil w).mono ?_
    rintro e w' ⟨rfl, rfl⟩
    exact ⟨_, rfl, h, rfl, Fr.refl _ _⟩
  · refine (compact_any B g cap l w h hl).mono ?_
    rintro e w' ⟨rfl, h1, h2⟩
    exact ⟨_, rfl, h1, rfl, h2.sub fun j hj => ⟨hj.1, fun e => hj.2 (by rw [e]; rfl)⟩⟩
theorem isort_len (l : List Dg) : (isort l).length = l.length := (isort_perm l).length_eq
end Go.Proofs.YtcpojagfnpajeaaGreatDoorR.Ps
