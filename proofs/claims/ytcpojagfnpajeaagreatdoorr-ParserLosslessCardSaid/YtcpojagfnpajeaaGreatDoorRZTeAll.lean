/-
  Common words for the walks of package textedit: an edit, a slice that reads as a list of edits.
  A strings.Builder of the call's own: copyCheck and WriteString at this program (the shelf's String contract is laid in Shelf).
-/
import Derived.Test.YtcpojagfnpajeaaGreatDoorRProg
import Derived.WalkKit
import Derived.KernelRfl
import Derived.Lib.Hide
import Derived.Test.YtcpojagfnpajeaaGreatDoorRZShelf
import Derived.Lib.Strings
import Derived.Lib.Builder
import Derived.Lib.AppendStr
import Derived.Lib.OthersKept
import Derived.Laws.Externs
namespace Go.Proofs.YtcpojagfnpajeaaGreatDoorR.Te
open Go.RowKit

theorem info_byte : (Tryz.prog.info? 5).map (fun i => (i.zero, i.size, i.bytes)) = some (some (.int .u8 0), 1, 1) := by kernel_rfl

/-- An edit: its start, its end, its new text. -/
structure Ed where
  s : Int
  e : Int
  t : ByteArray

def Ed.cells (x : Ed) : List Value := [.int .i64 x.s, .int .i64 x.e, .string x.t]

/-- The integers fit their kind, the text is no longer than a string may be. -/
def Ed.ok (x : Ed) : Prop := -9223372036854775808 ≤ x.s ∧ x.s ≤ 9223372036854775807 ∧ -9223372036854775808 ≤ x.e ∧ x.e ≤ 9223372036854775807 ∧ x.t.size ≤ maxLen

/-- The slice value v reads in w as the list l of edits. -/
def Eds (w : World) (B : Nat) (a : Option Addr) (l : List Ed) : Prop :=
  ∀ i x, l[i]? = some x → x.ok ∧ ∃ b o, a = some ⟨b, o, none⟩ ∧ b < B ∧
    w.cell? ⟨b, o + i * 3, none⟩ = some (.int .i64 x.s) ∧ w.cell? ⟨b, o + i * 3 + 1, none⟩ = some (.int .i64 x.e) ∧ w.cell? ⟨b, o + i * 3 + 2, none⟩ = some (.string x.t)

theorem Eds.below {w w' : World} {B : Nat} {a : Option Addr} {l : List Ed} (h : Eds w B a l) (hb : Below B w w') : Eds w' B a l := by
  intro i x hx
  obtain ⟨hok, b, o, ha, hlt, h0, h1, h2⟩ := h i x hx
  exact ⟨hok, b, o, ha, hlt, (hb.cell (p := ⟨b, _, none⟩) hlt).trans h0, (hb.cell (p := ⟨b, _, none⟩) hlt).trans h1, (hb.cell (p := ⟨b, _, none⟩) hlt).trans h2⟩

def sepFrom (n : Int) : Int → List Ed → Bool
  | _, [] => true
  | p, x :: r => if x.s ≤ p ∨ x.e < x.s ∨ n < x.e then false else sepFrom n x.e r

def dsum : List Ed → Int
  | [] => 0
  | x :: r => (x.e - x.s) + dsum r

def tsum : List Ed → Nat
  | [] => 0
  | x :: r => x.t.size + tsum r

/-- Within a source of n bytes. -/
def Inside (n : Int) (l : List Ed) : Prop := ∀ x, x ∈ l → 0 ≤ x.s ∧ x.s ≤ x.e ∧ x.e ≤ n

theorem dsum_append (a b : List Ed) : dsum (a ++ b) = dsum a + dsum b := by
  induction a with
  | nil => simp [dsum]
  | cons x r ih => simp [dsum, ih]; omega

theorem tsum_append (a b : List Ed) : tsum (a ++ b) = tsum a + tsum b := by
  induction a with
  | nil => simp [tsum]
  | cons x r ih => simp [tsum, ih]; omega

theorem take_snoc {l : List Ed} {k : Nat} {x : Ed} (h : l[k]? = some x) : l.take (k + 1) = l.take k ++ [x] := by
  rw [List.take_add_one, h]; rfl

theorem dsum_take {l : List Ed} {k : Nat} {x : Ed} (h : l[k]? = some x) : dsum (l.take (k + 1)) = dsum (l.take k) + (x.e - x.s) := by
  rw [take_snoc h, dsum_append]; simp [dsum]

theorem tsum_take {l : List Ed} {k : Nat} {x : Ed} (h : l[k]? = some x) : tsum (l.take (k + 1)) = tsum (l.take k) + x.t.size := by
  rw [take_snoc h, tsum_append]; simp [tsum]

theorem tsum_take_le (l : List Ed) (k : Nat) : tsum (l.take k) ≤ tsum l := by
  have h := tsum_append (l.take k) (l.drop k)
  rw [List.take_append_drop] at h
  omega

theorem dsum_bd {n : Int} {l : List Ed} (h : Inside n l) : 0 ≤ dsum l ∧ dsum l ≤ n * l.length := by
  induction l with
  | nil => simp [dsum]
  | cons x r ih =>
    have hx := h x (by simp)
    have hr := ih (fun y hy => h y (by simp [hy]))
    simp only [dsum, List.length_cons]
    have : n * ((r.length + 1 : Nat) : Int) = n * r.length + n := by rw [Int.natCast_add, Int.mul_add]; simp
    omega

theorem Inside.take {n : Int} {l : List Ed} (h : Inside n l) (k : Nat) : Inside n (l.take k) := fun x hx => h x (List.mem_of_mem_take hx)

theorem Inside.dsum_le {n : Int} {l : List Ed} (h : Inside n l) (hn : n ≤ 2000) (hl : l.length ≤ 50) (k : Nat) : 0 ≤ dsum (l.take k) ∧ dsum (l.take k) ≤ 100000 := by
  have h1 := dsum_bd (h.take k)
  have h2 : (l.take k).length ≤ 50 := Nat.le_trans (List.length_take_le' _ _) hl
  refine ⟨h1.1, Int.le_trans h1.2 ?_⟩
  by_cases h0 : 0 ≤ n
  · have : n * ((l.take k).length : Int) ≤ 2000 * 50 := Int.mul_le_mul hn (by omega) (by omega) (by omega)
    omega
  · have : n * ((l.take k).length : Int) ≤ 0 := Int.mul_nonpos_of_nonpos_of_nonneg (by omega) (by omega)
    omega

/-- Does the result have room? -/
def fitsB (n : Int) (l : List Ed) : Bool := decide ((tsum l : Int) ≤ 2000 - n + dsum l)

/-- What Validate answers for a source of n bytes. -/
def errV (n : Int) (l : List Ed) : Int :=
  if 2000 < n ∨ (50 : Int) < l.length then 2 else if sepFrom n (-1) l = false then 3 else if fitsB n l = false then 2 else 0

end Go.Proofs.YtcpojagfnpajeaaGreatDoorR.Te

namespace Go.Proofs.YtcpojagfnpajeaaGreatDoorR.Te
open Go.RowKit

theorem bd_size : (Tryz.prog.info? 99).map (·.size) = some 2 := by kernel_rfl
theorem bd_lies : liesAt Tryz.prog Tryz.prog.depth 99 (2 / Tryz.prog.cellsOf 99) 0 99 1 = true := by kernel_rfl

set_option maxHeartbeats 1000000 in
set_option maxRecDepth 100000 in
theorem check_used (b : Nat) (w : World) (h0 : w.cell? ⟨b, 0, none⟩ = some (.pointer (some ⟨b, 0, none⟩))) :
    Calls Tryz.prog 102 #[.pointer (some ⟨b, 0, none⟩)] w fun e w' => e = .returned (.tuple #[]) ∧ w' = w := by
  obtain ⟨j, hj, _⟩ := Option.map_eq_some_iff.1 bd_size
  go_enter Tryz.func102, Tryz.ntmps102
  go_wp2
  rw [Lib.run_neq_ptr_same w _ Tryz.underlying96 hj]
  go_wp2
  go_end0
  exact ⟨rfl, rfl⟩

set_option maxHeartbeats 1000000 in
set_option maxRecDepth 100000 in
theorem check_fresh (b : Nat) (w : World) (h0 : w.cell? ⟨b, 0, none⟩ = some (.pointer none)) (hsh : w.shape? b = some (99, 2)) (hfz : w.frozen? ⟨b, 0, none⟩ = false) :
    Calls Tryz.prog 102 #[.pointer (some ⟨b, 0, none⟩)] w fun e w' => e = .returned (.tuple #[]) ∧ w' = w.setCell ⟨b, 0, none⟩ (.pointer (some ⟨b, 0, none⟩)) := by
  obtain ⟨j, hj, hjs⟩ := Option.map_eq_some_iff.1 bd_size
  go_enter Tryz.func102, Tryz.ntmps102
  go_wp2
  rw [Lib.run_to_unsafe w ⟨b, 0, none⟩ Tryz.underlying96 Tryz.underlying191 hj (by rw [hjs]; decide) hsh (Nat.zero_lt_succ 1)]
  simp only [Result.andThen]
  rw [Oper.upon_value]
  go_wp2
  rw [run_callFunc_extern Tryz.func166 (by kernel_rfl) (by kernel_rfl) (by kernel_rfl) (e := Extern.AbiNoEscape.same) (by kernel_rfl)]
  rw [Lib.run_noEscape]
  simp only [Result.andThen]
  rw [Oper.upon_value]
  go_wp2
  rw [Lib.run_from_unsafe w ⟨b, 0, none⟩ Tryz.underlying191 Tryz.underlying96 hj hsh bd_lies]
  simp only [Result.andThen]
  rw [Oper.upon_value]
  go_wp2
  go_end0
  exact ⟨rfl, rfl⟩

theorem check_any (B b : Nat) (bs : List Value) (w : World) (h : Lib.IsBuilder 99 5 B b bs w) :
    Calls Tryz.prog 102 #[.pointer (some ⟨b, 0, none⟩)] w fun e w' => e = .returned (.tuple #[]) ∧ (Lib.BuilderAt 99 5 B b (.pointer (some ⟨b, 0, none⟩)) bs w' ∧ Below B w w' ∧ Lib.OthersKept 5 (some b) w w') := by
  rcases h with h | h
  · refine (check_fresh b w h.cell0 h.shape h.frozen0).mono ?_
    rintro e w' ⟨rfl, rfl⟩
    exact ⟨rfl, h.used _, (Below.refl B w).setCell (p := ⟨b, 0, none⟩) h.1 _, (Lib.OthersKept.refl 5 (some b) w).setCell _ rfl _⟩
  · refine (check_used b w h.cell0).mono ?_
    rintro e w' ⟨rfl, rfl⟩
    exact ⟨rfl, h, Below.refl B _, Lib.OthersKept.refl _ _ _⟩

set_option maxHeartbeats 2000000 in
set_option maxRecDepth 100000 in
theorem write_any (B b : Nat) (bs : List Value) (s : ByteArray) (w : World) (h : Lib.IsBuilder 99 5 B b bs w) (hlen : bs.length + s.size ≤ 140737488355328) (hBw : B ≤ w.heap.size) :
    Calls Tryz.prog 67 #[.pointer (some ⟨b, 0, none⟩), .string s] w fun e w' => e = .returned (.tuple #[.int .i64 s.size, .nilIface]) ∧ (Lib.IsBuilder 99 5 B b (bs ++ Lib.strCells s) w' ∧ Below B w w' ∧ Lib.OthersKept 5 (some b) w w') := by
  obtain ⟨i0, hi, hz0, hz1, hz2⟩ := info_parts info_byte
  go_enter Tryz.func67, Tryz.ntmps67
  go_wp2_with fail
  refine (check_any B b bs _ h).mono ?_
  rintro e w1 ⟨rfl, h1, hb1, hk1⟩
  obtain ⟨hB, v, hbk, hown, hne⟩ := h1
  have c0 : w1.cell? ⟨b, 0, none⟩ = some (.pointer (some ⟨b, 0, none⟩)) := by rw [Lib.cell_of_heap hbk]; rfl
  have c1 : w1.cell? ⟨b, 1, none⟩ = some v := by rw [Lib.cell_of_heap hbk]; rfl
  go_wp2_with (at_builtin; refine Lib.wpList_append_own_string _ rfl _ _ 97 9 rfl B 5 i0 Tryz.underlying97 Tryz.underlying9 hi hz0 hz1 hz2 _ _ _ rfl hown s rfl ?c3 ?c4 ?c5 ?_)
  case c3 => unfold maxLen; omega
  case c4 => omega
  case c5 => have := hb1.size; omega
  intro v' w2 hown' hgrow _
  have hlt : b < w1.heap.size := by
    rcases Nat.lt_or_ge b w1.heap.size with h' | h'
    · exact h'
    · simp [Array.getElem?_eq_none h'] at hbk
  have hb2 : w2.heap[b]? = some (.cells #[.pointer (some ⟨b, 0, none⟩), v] 99 (0, 0)) := by
    rw [hgrow.block b hlt (fun e => hne e.symm)]
    exact hbk
  have d0 : w2.cell? ⟨b, 0, none⟩ = some (.pointer (some ⟨b, 0, none⟩)) := by rw [Lib.cell_of_heap hb2]; rfl
  have d1 : w2.cell? ⟨b, 1, none⟩ = some v := by rw [Lib.cell_of_heap hb2]; rfl
  have f1 : w2.frozen? ⟨b, 1, none⟩ = false := Lib.frozen_of_heap hb2 1
  obtain ⟨ao, n', cap, rfl⟩ : ∃ ao n' cap, v' = .slice ao n' cap := by
    rcases hown'.2 with ⟨hv, _⟩ | ⟨g, cap, cur, hv, _⟩
    · exact ⟨_, _, _, hv⟩
    · exact ⟨_, _, _, hv⟩
  go_wp2
  go_ret2
  refine ⟨rfl, .inr ?_, ?_, ?_⟩
  · exact Lib.BuilderAt.put (T := 99) (e := 5) hB hb2 (bs' := bs ++ Lib.strCells s) (by simpa [Lib.strCells_length] using hown') (by decide)
  · exact (hb1.grown hgrow (by have := hb1.size; omega) (fun k hk => (hown.lt k hk).1)).setCell (p := ⟨b, 1, none⟩) hB _
  · refine (hk1.grown hgrow ?_).setCell _ rfl _
    intro g hg
    rcases hown.2 with ⟨rfl, _⟩ | ⟨g', cap, cur, rfl, _, hgg, _⟩
    · simp [Value.ownBlock] at hg
    · simp [Value.ownBlock] at hg
      subst hg
      exact ⟨cur, _, hgg⟩

theorem builder_alloc {T e : TypeId} {B b : Nat} {bs : List Value} {w : World} (h : Lib.IsBuilder T e B b bs w) (o : Obj) : Lib.IsBuilder T e B b bs (w.alloc o) := by
  rcases h with h | h
  all_goals
    have hlt := h.lt
    obtain ⟨hB, v, hb, hown, hne⟩ := h
  · exact .inl ⟨hB, v, (Below.heap_alloc w o b hlt).trans hb, hown.alloc o, hne⟩
  · exact .inr ⟨hB, v, (Below.heap_alloc w o b hlt).trans hb, hown.alloc o, hne⟩

/-- WriteString in bytes. -/
theorem write_bytes (B b : Nat) (acc : List UInt8) (s : ByteArray) (w : World) (h : Hid (Lib.IsBuilder 99 5 B b (Lib.byteCells acc) w)) (hlen : acc.length + s.size ≤ 140737488355328) (hBw : B ≤ w.heap.size) :
    Calls Tryz.prog 67 #[.pointer (some ⟨b, 0, none⟩), .string s] w fun e w' => e = .returned (.tuple #[.int .i64 s.size, .nilIface]) ∧ (Hid (Lib.IsBuilder 99 5 B b (Lib.byteCells (acc ++ s.data.toList)) w') ∧ Below B w w' ∧ Lib.OthersKept 5 (some b) w w') := by
  refine (write_any B b (Lib.byteCells acc) s w h.out (by simpa [Lib.byteCells] using hlen) hBw).mono ?_
  rintro e w' ⟨he, h1, h2⟩
  refine ⟨he, ?_, h2⟩
  have : Lib.byteCells (acc ++ s.data.toList) = Lib.byteCells acc ++ Lib.strCells s := by simp [Lib.byteCells, Lib.strCells]
  show Lib.IsBuilder _ _ _ _ _ _
  rw [this]
  exact h1
end Go.Proofs.YtcpojagfnpajeaaGreatDoorR.Te
