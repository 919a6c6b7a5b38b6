/-
  writeTo and String by their contracts: the contents of a rope.
-/
import Derived.Test.YtkbodbbbgibgfaaByte
import Derived.Test.YtkbodbbbgibgfaaBuf
import Derived.Recover
namespace Go.Proofs.Ytkbodbbbgibgfaa
open Go.RowKit

theorem write_nil (q : Value) (w : World) : Calls Try.prog 22 #[.pointer none, q] w fun e w' => e = .returned (.tuple #[]) ∧ w' = w := by
  go_enter Try.func22, Try.ntmps22
  go_wp2_with fail
  refine bodyPost_ret (results_none rfl _ _ _) rfl ?_
  exact ⟨rfl, rfl⟩

def Writes (B b : Nat) (c : List UInt8) (w : World) (e : Ending) (w' : World) : Prop :=
  e = .returned (.tuple #[]) ∧ Hid (Lib.IsBuilder 53 5 B b (Lib.byteCells c) w') ∧ Below B w w'

set_option maxHeartbeats 2000000 in
set_option maxRecDepth 100000 in
theorem write_tree (B b : Nat) : ∀ (t : Tr) (p : Option Addr) (acc : List UInt8) (w : World), Hid (Rep w B p t) → Hid (Lib.IsBuilder 53 5 B b (Lib.byteCells acc) w) → acc.length + t.len ≤ 1099511627776 → B ≤ w.heap.size →
    Calls Try.prog 22 #[.pointer p, .pointer (some ⟨b, 0, none⟩)] w (Writes B b (acc ++ t.con) w) := by
  intro t
  induction t with
  | leaf s =>
    intro p acc w R hI hl hB
    obtain ⟨d, rfl, hd, N⟩ := R.out
    have hl' : acc.length + s.size ≤ 1099511627776 := hl
    have K1 := Lib.hid (write_bytes B b acc s w hI (by omega) hB)
    obtain ⟨a0, a1, a2, a3, a4, a5⟩ := N
    have HS : Hid (∀ W, Below B w W → W.cell? ⟨d, 1, none⟩ = some (.pointer none) ∧ W.cell? ⟨d, 2, none⟩ = some (.pointer none)) := fun W hW => ⟨(hW.cell (p := ⟨d, _, none⟩) hd).trans a1, (hW.cell (p := ⟨d, _, none⟩) hd).trans a2⟩
    go_enter Try.func22, Try.ntmps22
    go_wp2_with fail
    refine K1.out.mono ?_
    rintro e w1 ⟨rfl, h1, hb1, _⟩
    obtain ⟨s1, s2⟩ := HS.out w1 hb1
    go_wp2_with fail
    refine (write_nil _ w1).mono ?_
    rintro e w2 ⟨rfl, rfl⟩
    go_wp2_with fail
    refine (write_nil _ w2).mono ?_
    rintro e w3 ⟨rfl, rfl⟩
    go_wp2_with fail
    go_end0
    exact ⟨rfl, h1, hb1⟩
  | node l r ihl ihr =>
    intro p acc w R hI hl hB
    obtain ⟨d, pl, pr, rfl, hd, N, hL, hR⟩ := R.out
    rw [Tr.len_node] at hl
    have K1 := Lib.hid (write_bytes B b acc ⟨#[]⟩ w hI (by show acc.length + 0 ≤ _; omega) hB)
    have K2 := Lib.hid (fun W (hW : Below B w W) (h : Hid (Lib.IsBuilder 53 5 B b (Lib.byteCells acc) W)) => ihl pl acc W (Lib.hid (hL.below hW (Nat.le_refl _))) h (by omega) (Nat.le_trans hB hW.size))
    have K3 := Lib.hid (fun W (hW : Below B w W) (h : Hid (Lib.IsBuilder 53 5 B b (Lib.byteCells (acc ++ l.con)) W)) => ihr pr (acc ++ l.con) W (Lib.hid (hR.below hW (Nat.le_refl _))) h (by rw [List.length_append]; simp only [Tr.len] at *; omega) (Nat.le_trans hB hW.size))
    obtain ⟨a0, a1, a2, a3, a4, a5⟩ := N
    have HS : Hid (∀ W, Below B w W → W.cell? ⟨d, 1, none⟩ = some (.pointer pl) ∧ W.cell? ⟨d, 2, none⟩ = some (.pointer pr)) := fun W hW => ⟨(hW.cell (p := ⟨d, _, none⟩) hd).trans a1, (hW.cell (p := ⟨d, _, none⟩) hd).trans a2⟩
    clear ihl ihr hL hR
    go_enter Try.func22, Try.ntmps22
    go_wp2_with fail
    refine K1.out.mono ?_
    rintro e w1 ⟨rfl, h1, hb1, _⟩
    obtain ⟨s1, _⟩ := HS.out w1 hb1
    have h1' : Hid (Lib.IsBuilder 53 5 B b (Lib.byteCells acc) w1) := by
      have := h1.out
      rw [show acc ++ (⟨#[]⟩ : ByteArray).data.toList = acc from by simp] at this
      exact this
    go_wp2_with fail
    refine (K2.out w1 hb1 h1').mono ?_
    rintro e w2 ⟨rfl, h2, hb2⟩
    have hb3 := hb1.trans hb2
    obtain ⟨_, s4⟩ := HS.out w2 hb3
    go_wp2_with fail
    refine (K3.out w2 hb3 h2).mono ?_
    rintro e w3 ⟨rfl, h3, hb4⟩
    go_wp2_with fail
    go_end0
    exact ⟨rfl, by rw [Tr.con, ← List.append_assoc]; exact h3, hb3.trans hb4⟩

theorem write_rope (B b : Nat) (t : Option Tr) (p : Option Addr) (w : World) (R : Hid (RepO w B p t)) (hI : Hid (Lib.IsBuilder 53 5 B b (Lib.byteCells []) w)) (hl : (oCon t).length ≤ 1099511627776) (hB : B ≤ w.heap.size) :
    Calls Try.prog 22 #[.pointer p, .pointer (some ⟨b, 0, none⟩)] w (Writes B b (oCon t) w) := by
  cases t with
  | none =>
    obtain rfl : p = none := R.out
    refine (write_nil _ w).mono ?_
    rintro e w' ⟨rfl, rfl⟩
    exact ⟨rfl, hI, Below.refl _ _⟩
  | some t =>
    have := write_tree B b t p [] w R hI (by simpa [oCon, Tr.len] using hl) hB
    rw [List.nil_append] at this
    exact this

theorem len_some (b : Nat) (s : ByteArray) (l r : Option Addr) (n h c : Int) (w : World) (N : NodeAt w b s l r n h c) :
    Calls Try.prog 11 #[.agg #[.pointer (some ⟨b, 0, none⟩)]] w fun e w' => e = .returned (.int .i64 n) ∧ Below w.heap.size w w' := by
  have N' := N.below (World.block_lt_of_cell? w _ N.1) ((Below.refl w.heap.size w).alloc (Nat.le_refl _) (.cells #[.pointer (some ⟨b, 0, none⟩)] 27))
  obtain ⟨a0, a1, a2, a3, a4, a5⟩ := N'
  clear N
  go_enter Try.func11, Try.ntmps11
  go_wp2_with fail
  go_ret
  exact ⟨rfl, (Below.refl _ _).alloc (Nat.le_refl _) _⟩

theorem len_none (w : World) :
    Calls Try.prog 11 #[.agg #[.pointer none]] w fun e w' => e = .returned (.int .i64 0) ∧ Below w.heap.size w w' := by
  go_enter Try.func11, Try.ntmps11
  go_wp2_with fail
  go_ret
  exact ⟨rfl, (Below.refl _ _).alloc (Nat.le_refl _) _⟩

theorem len_any (t : Option Tr) (p : Option Addr) (w : World) (R : Hid (RepO w w.heap.size p t)) :
    Calls Try.prog 11 #[.agg #[.pointer p]] w fun e w' => e = .returned (.int .i64 ((oCon t).length : Nat)) ∧ Below w.heap.size w w' := by
  cases t with
  | none =>
    obtain rfl : p = none := R.out
    exact len_none w
  | some t =>
    obtain ⟨b, s, l, r, rfl, _, N⟩ := Rep.root R.out
    exact len_some b s l r _ _ _ w N

theorem catch_idle (p : Addr) (w : World) :
    CallsD Try.prog 20 #[.pointer (some p)] .returning w fun e u' w' => e = .returned (.tuple #[]) ∧ u' = .returning ∧ w' = w := by
  refine callsD_of_wpS Try.func20 rfl fun c₀ cs hu => ?_
  apply wpS_seq
  apply wpS_region
  simp [wpOpsS, go_sem, recoverD, hu, Try.ntmps20, Exit.thenS]
  refine wpS_cond (t := false) (by simp [Act.eval, Array.replicate]) ?_
  simp only [Bool.false_eq_true, if_false]
  refine wpS_of_wp (wp_skip ?_)
  cases c₀
  simp_all [bodyPostS, results, Try.results20]

set_option maxHeartbeats 2000000 in
set_option maxRecDepth 100000 in
theorem string_any (t : Option Tr) (p : Option Addr) (w : World) (R : Hid (RepO w w.heap.size p t)) (hn : (oCon t).length ≤ 1099511627776) :
    Calls Try.prog 10 #[.agg #[.pointer p]] w fun e w' => e = .returned (.string ⟨(oCon t).toArray⟩) ∧ Below w.heap.size w w' := by
  have hmf : ∀ (fn : Fn) (first cap : Array Value) (w : World), (Instr.makeFunc fn first cap).run Try.prog w = .ok (.func fn first cap) w := fun _ _ _ _ => rfl
  go_enter_defers Try.func10, Try.ntmps10
  go_wp2_with fail
  have hB : Below w.heap.size w (((w.alloc (Obj.cells #[Value.pointer p] 27)).alloc (Obj.cells #[Value.string { data := #[] }] 9)).alloc (Obj.cells #[Value.pointer none, Value.slice none 0 0] 53)) :=
    (((Below.refl _ _).alloc (Nat.le_refl _) _).alloc (by simp) _).alloc (by simp; omega) _
  have c0 : (((w.alloc (Obj.cells #[Value.pointer p] 27)).alloc (Obj.cells #[Value.string { data := #[] }] 9)).alloc (Obj.cells #[Value.pointer none, Value.slice none 0 0] 53)).cell? ⟨w.heap.size, 0, none⟩ = some (.pointer p) := by go_simp
  have c1 : (((w.alloc (Obj.cells #[Value.pointer p] 27)).alloc (Obj.cells #[Value.string { data := #[] }] 9)).alloc (Obj.cells #[Value.pointer none, Value.slice none 0 0] 53)).cell? ⟨w.heap.size + 1, 0, none⟩ = some (.string ⟨#[]⟩) := by go_simp
  have f1 : (((w.alloc (Obj.cells #[Value.pointer p] 27)).alloc (Obj.cells #[Value.string { data := #[] }] 9)).alloc (Obj.cells #[Value.pointer none, Value.slice none 0 0] 53)).frozen? ⟨w.heap.size + 1, 0, none⟩ = false := by go_simp
  have hk : (((w.alloc (Obj.cells #[Value.pointer p] 27)).alloc (Obj.cells #[Value.string { data := #[] }] 9)).alloc (Obj.cells #[Value.pointer none, Value.slice none 0 0] 53)).heap[w.heap.size + 1 + 1]? = some (.cells #[.pointer none, .slice none 0 0] 53 (0, 0)) := by
    have := heap_alloc_new ((w.alloc (Obj.cells #[Value.pointer p] 27)).alloc (Obj.cells #[Value.string { data := #[] }] 9)) (.cells #[.pointer none, .slice none 0 0] 53 (0, 0))
    simpa using this
  have hz : (((w.alloc (Obj.cells #[Value.pointer p] 27)).alloc (Obj.cells #[Value.string { data := #[] }] 9)).alloc (Obj.cells #[Value.pointer none, Value.slice none 0 0] 53)).heap.size = w.heap.size + 3 := by simp
  generalize (((w.alloc (Obj.cells #[Value.pointer p] 27)).alloc (Obj.cells #[Value.string { data := #[] }] 9)).alloc (Obj.cells #[Value.pointer none, Value.slice none 0 0] 53)) = w0 at *
  have R0 := Lib.hid (R.out.below hB (Nat.le_trans (Nat.le_succ _) (Nat.le_succ (w.heap.size + 1))))
  have HK := Lib.hid hk
  have HZ := Lib.hid hz
  have C0 := Lib.hid c0
  have C1 := Lib.hid c1
  have F1 := Lib.hid f1
  clear hk hz c0 c1 f1
  refine (len_any t p w0 (Lib.hid (R.out.to hB))).mono ?_
  rintro e w1 ⟨rfl, hb1⟩
  have hk1 : w1.heap[w.heap.size + 1 + 1]? = some (.cells #[.pointer none, .slice none 0 0] 53 (0, 0)) := (hb1.block _ (by rw [HZ.out]; omega)).trans HK.out
  have hz1 := hb1.size
  rw [HZ.out] at hz1
  have K1 := Lib.hid (Try.Builder_Grow_fresh (w.heap.size + 1 + 1) (w.heap.size + 1 + 1) (oCon t).length w1 (Nat.le_refl _) hk1 (by omega) (by omega))
  clear hk1
  go_wp2_with fail
  refine K1.out.mono ?_
  rintro e w2 ⟨rfl, h2, hb2⟩
  have hb02 : Below (w.heap.size + 1 + 1) w0 w2 := (hb1.mono (by rw [HZ.out]; omega)).trans hb2
  have c0 : w2.cell? ⟨w.heap.size, 0, none⟩ = some (.pointer p) := (hb02.cell (p := ⟨w.heap.size, 0, none⟩) (by simp; omega)).trans C0.out
  have hz2 := hb2.size
  have K2 := Lib.hid (write_rope (w.heap.size + 1 + 1) (w.heap.size + 1 + 1) t p w2 (Lib.hid (R0.out.below hb02 (Nat.le_refl _))) (Or.inr h2) hn (by omega))
  clear K1 h2
  go_wp2_with fail
  refine K2.out.mono ?_
  rintro e w3 ⟨rfl, h3, hb3⟩
  have hz3 := hb3.size
  have K3 := Lib.hid (Try.Builder_String_any (w.heap.size + 1 + 1) (w.heap.size + 1 + 1) (oCon t) w3 h3.out (by omega))
  clear K2 h3 c0
  go_wp2_with fail
  refine K3.out.mono ?_
  rintro e w4 ⟨rfl, hb4⟩
  have hb04 : Below (w.heap.size + 1 + 1) w0 w4 := (hb02.trans hb3).trans hb4
  have c1 : w4.cell? ⟨w.heap.size + 1, 0, none⟩ = some (.string ⟨#[]⟩) := (hb04.cell (p := ⟨w.heap.size + 1, 0, none⟩) (by simp)).trans C1.out
  have f1 : w4.frozen? ⟨w.heap.size + 1, 0, none⟩ = false := (hb04.frozen (p := ⟨w.heap.size + 1, 0, none⟩) (by simp)).trans F1.out
  clear K3
  go_wp2_with fail
  refine leaves_cons (f := 20) (args := #[.pointer (some ⟨w.heap.size + 1, 0, none⟩)]) (by simp) (by simp [go_sem]) ?_
  refine (catch_idle ⟨w.heap.size + 1, 0, none⟩ _).mono ?_
  rintro e u' w'' ⟨rfl, rfl, rfl⟩
  have c2 : (w4.setCell ⟨w.heap.size + 1, 0, none⟩ (.string ⟨(oCon t).toArray⟩)).cell? ⟨w.heap.size + 1, 0, none⟩ = some (.string ⟨(oCon t).toArray⟩) := World.cell?_setCell_same' _ _ _ (by rw [c1]; rfl)
  have hbf : Below w.heap.size w (w4.setCell ⟨w.heap.size + 1, 0, none⟩ (.string ⟨(oCon t).toArray⟩)) := (hB.trans (hb04.mono (by omega))).setCell (p := ⟨w.heap.size + 1, 0, none⟩) (by simp) _
  simp [Leaves, settle, results, Try.results10, go_sem, c2, hbf]
end Go.Proofs.Ytkbodbbbgibgfaa
