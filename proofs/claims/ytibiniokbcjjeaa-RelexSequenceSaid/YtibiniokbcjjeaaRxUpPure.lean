/-
  What relex.Update needs to know: the new string, the edit in memory, parts of token slices, the number of reused tokens.
-/
import Derived.Test.YtibiniokbcjjeaaRxConcat
import Derived.Test.YtibiniokbcjjeaaRxSame
import Derived.Test.YtibiniokbcjjeaaApply
namespace Go.Proofs.Ytibiniokbcjjeaa
open Go.RowKit

/-- The string behind one edit. -/
def next (l : List UInt8) (x : Ed) : List UInt8 := l.take x.s.toNat ++ (L x.t ++ l.drop x.e.toNat)

theorem next_apply (s : ByteArray) (x : Ed) : applyL s.data.toList [x] = next (L s) x := by
  simp [applyL, applyFrom, next, L]

/-- The edit lies within a source, and the result is not too long. -/
def Fit (n : Nat) (x : Ed) : Prop := 0 ≤ x.s ∧ x.s ≤ x.e ∧ x.e ≤ n ∧ n ≤ 2000 ∧ (n : Int) - (x.e - x.s) + x.t.size ≤ 2000

theorem Fit.errV {n : Nat} {x : Ed} (h : Fit n x) : errV n [x] = 0 := by
  obtain ⟨h1, h2, h3, h4, h5⟩ := h
  have e1 : sepFrom (n : Int) (-1) [x] = true := by
    unfold sepFrom
    rw [if_neg (by omega)]
    rfl
  have e2 : fitsB (n : Int) [x] = true := by
    unfold fitsB
    exact decide_eq_true (by simp only [tsum, dsum]; omega)
  unfold Ytibiniokbcjjeaa.errV
  rw [e1, e2, if_neg (by simp; omega), if_neg (by simp), if_neg (by simp)]

theorem Fit.ok {n : Nat} {x : Ed} (h : Fit n x) : x.ok := by
  obtain ⟨h1, h2, h3, h4, h5⟩ := h
  exact ⟨by omega, by omega, by omega, by omega, by unfold maxLen; omega⟩

theorem Fit.len {s : ByteArray} {x : Ed} (h : Fit s.size x) : ((next (L s) x).length : Int) = s.size - (x.e - x.s) + x.t.size := by
  obtain ⟨h1, h2, h3, h4, h5⟩ := h
  unfold next
  rw [List.length_append, List.length_append, List.length_take, List.length_drop, L_len, L_len]
  omega

/-- One edit in a block of its own. -/
theorem eds_one (w : World) (x : Ed) (hok : x.ok) : Eds (w.alloc (.cells #[.int .i64 x.s, .int .i64 x.e, .string x.t] 30)) (w.alloc (.cells #[.int .i64 x.s, .int .i64 x.e, .string x.t] 30)).heap.size (some ⟨w.heap.size, 0, none⟩) [x] := by
  intro i y hy
  cases i with
  | succ i => simp at hy
  | zero =>
    simp at hy
    subst hy
    have hb := heap_alloc_new w (.cells #[.int .i64 x.s, .int .i64 x.e, .string x.t] 30)
    refine ⟨hok, w.heap.size, 0, rfl, by simp, ?_, ?_, ?_⟩
    · rw [Lib.cell_of_heap hb]; rfl
    · rw [Lib.cell_of_heap hb]; rfl
    · rw [Lib.cell_of_heap hb]; rfl

/-- The block n holds the edit x. -/
def BoxAt (w : World) (n : Nat) (x : Ed) : Prop :=
  n < w.heap.size ∧ w.cell? ⟨n, 0, none⟩ = some (.int .i64 x.s) ∧ w.cell? ⟨n, 1, none⟩ = some (.int .i64 x.e) ∧ w.cell? ⟨n, 2, none⟩ = some (.string x.t)

theorem BoxAt.to {w w' : World} {n : Nat} {x : Ed} (h : BoxAt w n x) (hb : Below w.heap.size w w') : BoxAt w' n x := by
  obtain ⟨h0, h1, h2, h3⟩ := h
  exact ⟨Nat.lt_of_lt_of_le h0 hb.size, (hb.cell (p := ⟨n, 0, none⟩) h0).trans h1, (hb.cell (p := ⟨n, 1, none⟩) h0).trans h2, (hb.cell (p := ⟨n, 2, none⟩) h0).trans h3⟩

theorem BoxAt.new (w : World) (x : Ed) : BoxAt (w.alloc (.cells #[.int .i64 x.s, .int .i64 x.e, .string x.t] 30)) w.heap.size x := by
  have hb := heap_alloc_new w (.cells #[.int .i64 x.s, .int .i64 x.e, .string x.t] 30)
  refine ⟨by simp, ?_, ?_, ?_⟩
  · rw [Lib.cell_of_heap hb]; rfl
  · rw [Lib.cell_of_heap hb]; rfl
  · rw [Lib.cell_of_heap hb]; rfl

theorem OwnsT.part {w : World} {B : Nat} {v : Value} {l : List Tk} (h : OwnsT w B v l) : Part w w.heap.size v l := by
  rcases h.2 with ⟨rfl, h0⟩ | ⟨g, cap, cur, rfl, hb, hg, h1, h2, h3, h4⟩
  · obtain rfl : l = [] := List.eq_nil_of_length_eq_zero h0
    exact ⟨none, 0, rfl, fun _ => rfl, Tks.nil⟩
  · obtain ⟨a, c, hv, _, ht, _⟩ := h.tks
    cases hv
    exact ⟨_, _, rfl, (fun e => by cases e), ht⟩

/-- An owned list, with all that is known of its slice. -/
theorem OwnsT.whole {w : World} {B : Nat} {v : Value} {l : List Tk} (h : OwnsT w B v l) : ∃ a cap, v = .slice a l.length cap ∧ l.length ≤ cap ∧ (a = none → cap = 0) ∧ (l ≠ [] → ∃ b o, a = some ⟨b, o, none⟩) ∧ Tks w w.heap.size a l := by
  obtain ⟨a, c, hv, hc, ht, hs⟩ := h.tks
  obtain ⟨a', c', hv', hc', _⟩ := h.part
  rw [hv'] at hv
  cases hv
  exact ⟨_, _, hv', hc, hc', hs, ht⟩

theorem Part.to {w w' : World} {v : Value} {l : List Tk} (h : Part w w.heap.size v l) (hb : Below w.heap.size w w') : Part w' w'.heap.size v l := h.below hb hb.size

theorem Tks.take {w : World} {B : Nat} {a : Option Addr} {l : List Tk} (h : Tks w B a l) (m : Nat) : Tks w B a (l.take m) := by
  intro i x hx
  rw [List.getElem?_take] at hx
  split at hx
  · exact h i x hx
  · cases hx

theorem sizeOf_tok (W : World) : (sizeOf 37).run Try.prog W = .ok 2 W := by
  obtain ⟨i0, hi, hz0, hz1, hz2⟩ := info_parts info_tok
  simp [sizeOf, typeInfo, hi, hz1]

/-- The leading part. -/
theorem part_head {w : World} {a : Option Addr} {cap : Nat} {l : List Tk} (hc : a = none → cap = 0) (ht : Tks w w.heap.size a l) (hcap : l.length ≤ cap) (p : Nat) (hp : p ≤ l.length) (p' : Int) (e : p' = p) :
    ∃ xv, (∀ W : World, (Instr.slice 25 (.slice a l.length cap) none (some (.int .i64 p')) none).run Try.prog W = .ok xv W) ∧ Part w w.heap.size xv (l.take p) := by
  subst e
  refine ⟨sliced a 0 p cap 2, fun W => ?_, ?_⟩
  · rw [run_slice_h W 25 a l.length cap Try.underlying25 .i64 p (by omega) (by omega), show Try.prog.elem 25 = 37 from rfl, sizeOf_tok]
    rfl
  · refine ⟨a, cap, ?_, hc, ht.take p⟩
    rw [List.length_take, Nat.min_eq_left hp]
    cases a with
    | none => simp [sliced, hc rfl]
    | some ad =>
      have : ad.add 0 = ad := by unfold Addr.add; split <;> simp_all
      by_cases h : cap = 0
      · subst h; obtain rfl : p = 0 := by omega
        simp [sliced]
      · simp [sliced, h, this]

/-- The trailing part. -/
theorem part_tail {w : World} {a : Option Addr} {cap : Nat} {l : List Tk} (hc : a = none → cap = 0) (hs : l ≠ [] → ∃ b o, a = some ⟨b, o, none⟩) (ht : Tks w w.heap.size a l) (hcap : l.length ≤ cap) (p : Nat) (hp : p ≤ l.length) (p' : Int) (e : p' = p) :
    ∃ xv, (∀ W : World, (Instr.slice 25 (.slice a l.length cap) (some (.int .i64 p')) none none).run Try.prog W = .ok xv W) ∧ Part w w.heap.size xv (l.drop p) := by
  subst e
  refine ⟨sliced a p l.length cap 2, fun W => ?_, ?_⟩
  · rw [run_slice_l W 25 a l.length cap Try.underlying25 .i64 p (by omega) (by omega), show Try.prog.elem 25 = 37 from rfl, sizeOf_tok]
    rfl
  · by_cases h0 : l = []
    · subst h0
      obtain rfl : p = 0 := by simpa using hp
      cases a with
      | none => exact ⟨none, cap, by simp [sliced, hc rfl], hc, by rw [List.drop_nil]; exact Tks.nil⟩
      | some ad =>
        by_cases h : cap = 0
        · subst h; exact ⟨some ad, 0, by simp [sliced], (fun e => by cases e), by rw [List.drop_nil]; exact Tks.nil⟩
        · exact ⟨some (ad.add 0), cap, by simp [sliced, h], (fun e => by cases e), by rw [List.drop_nil]; exact Tks.nil⟩
    · obtain ⟨b, o, rfl⟩ := hs h0
      by_cases h : cap = p
      · have hd : l.drop p = [] := List.drop_eq_nil_of_le (by omega)
        refine ⟨some ⟨b, o, none⟩, 0, ?_, (fun e => by cases e), by rw [hd]; exact Tks.nil⟩
        rw [hd]
        simp [sliced, h]
        omega
      · refine ⟨some ⟨b, o + p * 2, none⟩, cap - p, ?_, (fun e => by cases e), ht.drop p⟩
        have : (⟨b, o, none⟩ : Addr).add (p * 2) = ⟨b, o + p * 2, none⟩ := by unfold Addr.add; split <;> simp_all
        rw [List.length_drop]
        simp [sliced, h, this]

/-- How many tokens are reused. -/
def Reused (l : List UInt8) (x : Ed) (p k : Nat) : Prop :=
  p ≤ (T l).length ∧ (p = 0 ∨ ((glue ((T l).take p)).length : Int) < x.s) ∧ (p = (T l).length ∨ x.s ≤ (glue ((T l).take (p + 1))).length) ∧
  Common (T l) (T ((next l x).drop (glue ((T l).take p)).length)) (l.length - x.e) k ∧ Last (T l) (T ((next l x).drop (glue ((T l).take p)).length)) (l.length - x.e) k

theorem Reused.all {l : List UInt8} {x : Ed} {p k : Nat} (h : Reused l x p k) (h0 : 0 ≤ x.s) (h1 : x.s ≤ x.e) (h2 : x.e ≤ l.length) :
    (T l).take p ++ ((T ((next l x).drop (glue ((T l).take p)).length)).take ((T ((next l x).drop (glue ((T l).take p)).length)).length - k) ++ (T l).drop ((T l).length - k)) = T (next l x) ∧
    p + k ≤ (T l).length ∧ p + k ≤ (T (next l x)).length := by
  obtain ⟨g1, g2, _, ⟨g3, g4, g5, g6⟩, _⟩ := h
  have hup := T_update (l := l) (t := L x.t) (s := x.s.toNat) (e := x.e.toNat) (p := p) (k := k) (old := T l) rfl (by omega) (by omega) rfl g5
  have hgl := glue_T _ l (Nat.le_refl _)
  refine ⟨hup.1, apart (T_some _ l (Nat.le_refl _)) g1 g3 ?_, ?_⟩
  · rw [hgl]
    rcases g2 with rfl | g2
    · have : (glue ((T l).take 0)).length = 0 := by simp [glue]
      omega
    · omega
  · have e := hup.2
    unfold next at g4 ⊢
    rw [e, List.length_take, Nat.min_eq_left g1]
    omega
end Go.Proofs.Ytibiniokbcjjeaa
