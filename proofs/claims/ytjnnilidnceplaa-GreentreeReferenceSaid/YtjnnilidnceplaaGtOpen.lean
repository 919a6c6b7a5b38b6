/-
  Arguments of the types GreenArena and SyntaxTree, opened: the arena's nodes, the tree, as they stand in memory.
-/
import Derived.Test.YtjnnilidnceplaaGtBase
import Derived.Test.YtjnnilidnceplaaRows
import Derived.ProofKit
import Derived.SizedLaws
import Derived.Deep.Slices
import Derived.Deep.Strs
namespace Go.Proofs.Ytjnnilidnceplaa
open Go.ChangeShapes Go.WideShapes Go.ChangeAt Go.RowKit Go.Deep

theorem list_of {α : Type} (p : Nat → α → Prop) (n : Nat) (h : ∀ i, i < n → ∃ x, p i x) : ∃ l : List α, l.length = n ∧ ∀ i x, l[i]? = some x → p i x := by
  induction n with
  | zero => exact ⟨[], rfl, fun i x hx => by simp at hx⟩
  | succ n ih =>
    obtain ⟨l, hl, hp⟩ := ih (fun i hi => h i (by omega))
    obtain ⟨x, hx⟩ := h n (by omega)
    refine ⟨l ++ [x], by simp [hl], fun i y hy => ?_⟩
    by_cases hi : i < l.length
    · rw [List.getElem?_append_left hi] at hy
      exact hp i y hy
    · have h1 := (List.getElem?_eq_some_iff.1 hy).1
      simp at h1
      obtain rfl : i = n := by omega
      rw [List.getElem?_append_right (by omega)] at hy
      simp [hl] at hy
      subst hy
      exact hx

theorem cellsOf3 : Try.prog.cellsOf 3 = 1 := by kernel_rfl
theorem cellsOf9 : Try.prog.cellsOf 9 = 1 := by kernel_rfl
theorem cellsOf25 : Try.prog.cellsOf 25 = 1 := by kernel_rfl
theorem cellsOf27 : Try.prog.cellsOf 27 = 3 := by kernel_rfl
theorem cellsOf46 : Try.prog.cellsOf 46 = 1 := by kernel_rfl
theorem cellsOf48 : Try.prog.cellsOf 48 = 4 := by kernel_rfl
theorem cellsOf22 : Try.prog.cellsOf 22 = 1 := by kernel_rfl
theorem cellsOf24 : Try.prog.cellsOf 24 = 1 := by kernel_rfl
theorem bytesOf3 : Try.prog.bytesOf 3 = 8 := by kernel_rfl

section
variable {H : Type} {enc : TypeId × Value → H} {W : World}

theorem i64_of {q : Int} (h : (Lit.int .i64 q).wf = true) : I64 q := by
  simpa [I64, Lit.wf, IntKind.min, IntKind.max, IntKind.signed, IntKind.bits] using h

/-- The cells at an address: their places. -/
theorem cells_at {x : Addr} {i n : Nat} (hn : 0 < n) {cs : List Value} (h : W.cells? 0 (x.add (i * n)) n = some cs) :
    x.block < W.heap.size ∧ cs.length = n ∧ (∀ j, j < n → x.spot = none → W.cell? ⟨x.block, x.off + i * n + j, none⟩ = cs[j]?) ∧ (i = 0 → x.spot = none) := by
  obtain ⟨_, hcl, hat⟩ := World.cells?_some h
  obtain ⟨b, off, spot⟩ := x
  have h0 := hat 0 hn
  have hc0 : cs[0]? = some (cs[0]'(by omega)) := List.getElem?_eq_getElem (by omega)
  rw [hc0] at h0
  have hb := World.block_lt_of_cell? W _ h0
  have hbb : ((((⟨b, off, spot⟩ : Addr).add (i * n)).add 0).block) = b := by unfold Addr.add; split <;> split <;> simp_all
  rw [hbb] at hb
  refine ⟨hb, hcl, fun j hj hs => ?_, fun hi => ?_⟩
  · have hs' : spot = none := hs
    subst hs'
    have := hat j hj
    simpa only [Go.WideShapes.add_plain] using this
  · subst hi
    have h1 := World.cell?_spot h0
    simpa [Addr.add] using h1

theorem tree_open : ∀ (m : Nat) (cs : List Value) (y : DataW H × List MemPlace), DataW.trod enc Try.prog W 0 (fun _ => true) true m 27 cs = some y →
    ∃ (x : Tree) (sa : Option Addr) (cap : Nat), cs = [.int .i64 x.k, .string x.t, .slice sa x.c.length cap] ∧ x.ok ∧ Kids W (· < W.heap.size) m sa x.c := by
  intro m
  induction m using Nat.strongRecOn with
  | ind m ih =>
  intro cs y h
  obtain ⟨xs, n, rfl, _, hl, hlen, hf⟩ := DataW.trod_struct Try.underlying27 h
  rw [cellsOf27] at hl
  match cs, hl, xs, hlen with
  | [c0, c1, c2], _, [y0, y1, y2], _ =>
    have t0 := hf 0 _ rfl
    have t1 := hf 1 _ rfl
    have t2 := hf 2 _ rfl
    change DataW.trod enc Try.prog W 0 (fun _ => true) true n 3 (([c0, c1, c2].drop 0).take (Try.prog.cellsOf 3)) = some y0 at t0
    change DataW.trod enc Try.prog W 0 (fun _ => true) true n 9 (([c0, c1, c2].drop 1).take (Try.prog.cellsOf 9)) = some y1 at t1
    change DataW.trod enc Try.prog W 0 (fun _ => true) true n 25 (([c0, c1, c2].drop 2).take (Try.prog.cellsOf 25)) = some y2 at t2
    rw [cellsOf3] at t0
    rw [cellsOf9] at t1
    rw [cellsOf25] at t2
    simp only [List.drop, List.take] at t0 t1 t2
    obtain ⟨q0, e0, _, w0⟩ := DataW.trod_int Try.underlying3 t0
    obtain ⟨q1, e1, _, w1⟩ := DataW.trod_string Try.underlying9 t1
    simp only [List.cons.injEq, and_true] at e0 e1
    subst e0 e1
    rcases DataW.trod_slice Try.underlying25 t2 with ⟨e2, _⟩ | ⟨a, len, cap, elems, rest, k, hk, e2, _, _, hlc, hcm, hel, hat, _, _⟩
    · simp only [List.cons.injEq, and_true] at e2
      subst e2
      exact ⟨.node q0 q1 [], none, 0, rfl, ⟨i64_of w0, w1, Nat.zero_le _⟩, Kids.nil _ _ _ _⟩
    · simp only [List.cons.injEq, and_true] at e2
      subst e2
      have hspot : 0 < len → a.spot = none := fun h0 => by
        have h1 := hat 0 h0
        rw [List.getElem?_eq_getElem (by omega), cellsOf27] at h1
        obtain ⟨cs', hc, _⟩ := Option.bind_eq_some_iff.1 h1
        exact (cells_at (by omega) hc).2.2.2 rfl
      obtain ⟨l, hll, hp⟩ := list_of (fun i (x : Tree) => x.ok ∧ ∃ b o sa cp, a = ⟨b, o, none⟩ ∧ b < W.heap.size ∧ W.cell? ⟨b, o + i * 3, none⟩ = some (.int .i64 x.k) ∧ W.cell? ⟨b, o + i * 3 + 1, none⟩ = some (.string x.t) ∧
          W.cell? ⟨b, o + i * 3 + 2, none⟩ = some (.slice sa x.c.length cp) ∧ Kids W (· < W.heap.size) k sa x.c) len (fun i hi => by
        have h1 := hat i hi
        rw [List.getElem?_eq_getElem (by omega), cellsOf27] at h1
        obtain ⟨cs', hc, ht⟩ := Option.bind_eq_some_iff.1 h1
        obtain ⟨x, sa, cp, rfl, hxok, hxk⟩ := ih k (by omega) cs' _ ht
        obtain ⟨hb, _, hcell, _⟩ := cells_at (by omega) hc
        have hs := hspot (by omega)
        obtain ⟨b, o, spot⟩ := a
        have hs' : spot = none := hs
        subst hs'
        exact ⟨x, hxok, b, o, sa, cp, rfl, hb, by simpa using hcell 0 (by omega) rfl, by simpa using hcell 1 (by omega) rfl, by simpa using hcell 2 (by omega) rfl, hxk⟩)
      refine ⟨.node q0 q1 l, some a, cap, ?_, ⟨i64_of w0, w1, by show l.length ≤ maxLen; omega⟩, ?_⟩
      · show _ = [Value.int .i64 q0, .string q1, .slice (some a) l.length cap]
        rw [hll]
      · show Kids W (· < W.heap.size) (n + 1) (some a) l
        intro i x hx
        obtain ⟨hxok, b, o, sa, cp, rfl, hb, g0, g1, g2, hxk⟩ := hp i x hx
        exact ⟨hxok, b, o, sa, cp, rfl, hb, g0, g1, g2, hxk.up (fun _ h => h) (by omega)⟩

/-- An argument of type SyntaxTree. -/
theorem open_tree {v : Value} {d : DataW H} {p : List MemPlace} (hv : ∃ cs, v = .agg cs) (h : DataW.Trod enc Try.prog W 0 (fun _ => true) true 27 v d p) :
    ∃ (m : Nat) (x : Tree) (sa : Option Addr) (cap : Nat), v = tv x sa cap ∧ x.ok ∧ Kids W (· < W.heap.size) m sa x.c := by
  obtain ⟨cs, rfl⟩ := hv
  obtain ⟨m, hm⟩ := h
  obtain ⟨x, sa, cap, he, hok, hk⟩ := tree_open m _ _ hm
  refine ⟨m, x, sa, cap, ?_, hok, hk⟩
  have : cs.toList = [.int .i64 x.k, .string x.t, .slice sa x.c.length cap] := he
  show Value.agg cs = .agg #[.int .i64 x.k, .string x.t, .slice sa x.c.length cap]
  rw [← this]
end
end Go.Proofs.Ytjnnilidnceplaa
