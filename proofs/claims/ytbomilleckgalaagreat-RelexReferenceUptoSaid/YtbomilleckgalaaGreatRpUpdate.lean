/-
  reparse.Update by its contract: for a source that is not too long and an edit that fits, the tree of the new source and how many children were kept; or a refusal of a tree that is not the source's.
-/
import Derived.Test.YtbomilleckgalaaGreatRpMain
import Derived.Test.YtbomilleckgalaaGreatRpWithin
import Derived.Test.YtbomilleckgalaaGreatRpStable
import Derived.Test.YtbomilleckgalaaGreatRpConcat
import Derived.Test.YtbomilleckgalaaGreatRpEq
import Derived.Test.YtbomilleckgalaaGreatTeNext
import Derived.StillTailTactics
namespace Go.Proofs.YtbomilleckgalaaGreat.Ps
open Go.RowKit

/-- The tree of a source. -/
def fileT (l : List UInt8) : Tree := inner 1 (parseC l)
/-- What Parse leaves. -/
def FilePost (l : List UInt8) (w : World) (e : Ending) (w' : World) : Prop :=
  Below w.heap.size w w' ∧ ∃ m ra rc, e = .returned (.tuple #[tv (fileT l) ra rc, .int .i64 0]) ∧ Kids w' (fun j => Pl w' j ∧ w.heap.size ≤ j) m ra (parseC l) ∧ (fileT l).ok ∧ (parseC l).length ≤ rc ∧ (ra = none → rc = 0)
theorem parse_file (s : ByteArray) (w : World) (hs : s.size ≤ 2000) : Calls Tryz.prog 15 #[.string s] w (FilePost (Lx.L s) w) := by
  obtain ⟨z, hz, _⟩ := parse_some (l := Lx.L s) (by rw [Lx.L_len]; exact hs)
  have hc := parseC_is hz
  refine (parse_pl s w hs FU z hz).mono ?_
  rintro e w' ⟨hb, m, ra, rc, he, hk, h1, h2, h3⟩
  rw [hc] at he hk h1 h2
  exact ⟨hb, m, ra, rc, he, hk, ⟨by show I64 1; unfold I64; omega, by show (0 : Nat) ≤ maxLen; exact Nat.zero_le _, h1⟩, h2, h3⟩

theorem apply_next (s : ByteArray) (x : Te.Ed) (a : Option Addr) (w : World) (hf : Te.Fit s.size x) (h : Te.Eds w w.heap.size a [x]) :
    Calls Tryz.prog 24 #[.string s, .slice a 1 1] w fun e w' => ∃ z, e = .returned (.tuple #[.string z, .int .i64 0]) ∧ Lx.L z = Te.next (Lx.L s) x ∧ Below w.heap.size w w' := by
  have he := hf.errV
  obtain ⟨h1, h2, h3, h4, h5⟩ := hf
  refine (Te.apply_ok s a 1 [x] w (by unfold maxLen; omega) (by unfold maxLen; simp) h he).mono ?_
  rintro e w' ⟨rfl, hb⟩
  exact ⟨Lx.bs (Te.next (Lx.L s) x), by rw [Te.next_apply]; rfl, Lx.L_bs _, hb⟩

theorem kids_keep {B m : Nat} {w w' : World} {a : Option Addr} {l : List Tree} (h : Kids w (fun j => Pl w j ∧ B ≤ j) m a l) (hb : Below w.heap.size w w') : Kids w' (fun j => Pl w' j ∧ B ≤ j) m a l :=
  (h.kept (kept_of_below hb fun _ hj => hj.1.lt)).up (fun _ hj => ⟨hj.1.below hb, hj.2⟩) (Nat.le_refl _)

/-- The three boxes of a call: the tree, the edit, the result. -/
def Bx (W : World) (n : Nat) (y : Tree) (a : Option Addr) (c : Nat) (x : Te.Ed) : Prop :=
  W.heap[n]? = some (.cells #[.int .i64 y.k, .string y.t, .slice a y.c.length c] 40 (0, 0)) ∧ W.heap[n + 1]? = some (.cells #[.int .i64 x.s, .int .i64 x.e, .string x.t] 23 (0, 0)) ∧
    W.heap[n + 1 + 1]? = some (.cells #[.int .i64 0, .string ⟨#[]⟩, .slice none 0 0] 40 (0, 0))
theorem Bx.to {w w' : World} {n : Nat} {y : Tree} {a : Option Addr} {c : Nat} {x : Te.Ed} (h : Bx w n y a c x) (hb : Below w.heap.size w w') : Bx w' n y a c x := ⟨held_to h.1 hb, held_to h.2.1 hb, held_to h.2.2 hb⟩
theorem Bx.new (w : World) (y : Tree) (a : Option Addr) (c : Nat) (x : Te.Ed) : Bx (((w.alloc (.cells #[.int .i64 y.k, .string y.t, .slice a y.c.length c] 40)).alloc (.cells #[.int .i64 x.s, .int .i64 x.e, .string x.t] 23)).alloc (.cells #[.int .i64 0, .string ⟨#[]⟩, .slice none 0 0] 40)) w.heap.size y a c x := by
  refine ⟨alloc_keeps _ (alloc_keeps _ (heap_alloc_new w _)), alloc_keeps _ ?_, ?_⟩
  · have := heap_alloc_new (w.alloc (.cells #[.int .i64 y.k, .string y.t, .slice a y.c.length c] 40)) (.cells #[.int .i64 x.s, .int .i64 x.e, .string x.t] 23)
    simpa using this
  · have := heap_alloc_new ((w.alloc (.cells #[.int .i64 y.k, .string y.t, .slice a y.c.length c] 40)).alloc (.cells #[.int .i64 x.s, .int .i64 x.e, .string x.t] 23)) (.cells #[.int .i64 0, .string ⟨#[]⟩, .slice none 0 0] 40)
    simpa using this

set_option maxRecDepth 100000 in
theorem sizeOf_tree (W : World) : (sizeOf 40).run Tryz.prog W = .ok 3 W := by
  obtain ⟨i, hi, _, hs, _⟩ := info_parts info_tree
  simp [sizeOf, typeInfo, hi, hs]

set_option maxRecDepth 100000 in
/-- The leading part of a list of trees. -/
theorem partT_head {w : World} {a : Option Addr} {cap : Nat} {d : List TN} {n : Nat} (hl : d.length = n) (hc : a = none → cap = 0) (ht : ∀ j u, (tcells d)[j]? = some u → ∃ b o, a = some ⟨b, o, none⟩ ∧ b < w.heap.size ∧ w.cell? ⟨b, o + j, none⟩ = some u) (hcap : n ≤ cap) (p : Nat) (hp : p ≤ n) :
    ∃ y c, (∀ W : World, (Instr.slice 38 (.slice a n cap) none (some (.int .i64 (p : Int))) none).run Tryz.prog W = .ok (.slice y p c) W) ∧ PartT w w.heap.size (.slice y p c) (d.take p) := by
  have hsl : sliced a 0 p cap 3 = .slice a p cap := by
    cases a with
    | none => simp [sliced, hc rfl]
    | some ad =>
      have : ad.add 0 = ad := by unfold Addr.add; split <;> simp_all
      by_cases h : cap = 0
      · subst h; obtain rfl : p = 0 := by omega
        simp [sliced]
      · simp [sliced, h, this]
  refine ⟨a, cap, fun W => ?_, ?_⟩
  · rw [run_slice_h W 38 a n cap Tryz.underlying38 .i64 p (by omega) (by omega), show Tryz.prog.elem 38 = 40 from rfl, sizeOf_tree, ← hsl]
    rfl
  · refine ⟨a, cap, by rw [List.length_take, hl, Nat.min_eq_left hp], fun e => ?_, fun j u hu => ?_⟩
    · have h0 := hc e
      have : d = [] := List.eq_nil_of_length_eq_zero (by omega)
      exact ⟨by rw [this]; simp, h0⟩
    · refine ht j u ?_
      have e : tcells d = tcells (d.take p) ++ tcells (d.drop p) := by rw [← tcells_append, List.take_append_drop]
      rw [e, List.getElem?_append_left (List.getElem?_eq_some_iff.1 hu).1]
      exact hu

/-- What Update leaves. -/
def UpPost (l l' : List UInt8) (st : Nat) (y : Tree) (w : World) (e : Ending) (w' : World) : Prop :=
  Below w.heap.size w w' ∧ ((y = fileT l ∧ ∃ m ra rc, e = .returned (.tuple #[tv (fileT l') ra rc, .int .i64 (((kept l st).1 : Nat) : Int), .int .i64 0]) ∧ Kids w' (fun j => j < w'.heap.size ∧ w.heap.size ≤ j) m ra (parseC l') ∧ (fileT l').ok) ∨
    (¬ y = fileT l ∧ e = .returned (.tuple #[.agg #[.int .i64 0, .string ⟨#[]⟩, .slice none 0 0], .int .i64 0, .int .i64 3])))
end Go.Proofs.YtbomilleckgalaaGreat.Ps
