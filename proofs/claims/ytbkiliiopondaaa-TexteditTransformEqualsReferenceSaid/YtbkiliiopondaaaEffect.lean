/-
  textedit.effectOf by its contract.
-/
import Derived.Test.YtbkiliiopondaaaMerger
import Derived.Test.YtbkiliiopondaaaPure
import Derived.Deep.OwnRows
import Derived.Deep.DeepCutAuto
namespace Go.Proofs.Ytbkiliiopondaaa
open Go.RowKit

/-- What is inserted at an offset; whether the byte at an offset is deleted. -/
def insF (l : List Ed) : Nat → ByteArray := l.foldl (fun f x j => if j = x.s.toNat then x.t else f j) (fun _ => ⟨#[]⟩)
def delF (l : List Ed) : Nat → Bool := l.foldl (fun f x j => if x.s ≤ (j : Int) ∧ (j : Int) < x.e then true else f j) (fun _ => false)

theorem insF_step {l : List Ed} {k : Nat} {x : Ed} (h : l[k]? = some x) : insF (l.take (k + 1)) = fun (j : Nat) => if j = x.s.toNat then x.t else insF (l.take k) j := by
  rw [take_snoc h, insF, List.foldl_append]; rfl
theorem delF_step {l : List Ed} {k : Nat} {x : Ed} (h : l[k]? = some x) : delF (l.take (k + 1)) = fun (j : Nat) => if x.s ≤ (j : Int) ∧ (j : Int) < x.e then true else delF (l.take k) j := by
  rw [take_snoc h, delF, List.foldl_append]; rfl

/-- The effect's two rows. -/
def Rows2 (w : World) (B bi bd n : Nat) (fi : Nat → ByteArray) (fd : Nat → Bool) : Prop :=
  w.rowIs bi 9 (n + 1) (fun j => .string (fi j)) ∧ w.rowIs bd 4 n (fun j => .bool (fd j)) ∧ B ≤ bi ∧ B ≤ bd

/-- .. and the variable of type effect in block be. -/
def EffAt (w : World) (B bi bd be n : Nat) (fi : Nat → ByteArray) (fd : Nat → Bool) : Prop :=
  Rows2 w B bi bd n fi fd ∧ w.heap[be]? = some (.cells #[.slice (some ⟨bi, 0, none⟩) (n + 1) (n + 1), .slice (some ⟨bd, 0, none⟩) n n] 76 (0, 0)) ∧ B ≤ be

theorem info_str : (Try.prog.info? 9).map (fun i => (i.zero, i.size, i.bytes)) = some (some (.string ⟨#[]⟩), 1, 16) := by kernel_rfl
theorem info_bool : (Try.prog.info? 4).map (fun i => (i.zero, i.size, i.bytes)) = some (some (.bool false), 1, 1) := by kernel_rfl

theorem make_strs (n : Nat) (hn : n ≤ 100000) (W : World) : (Instr.makeSlice 73 (.int .i64 ((n : Int) + 1)) (.int .i64 ((n : Int) + 1))).run Try.prog W = .ok (.slice (some ⟨W.heap.size, 0, none⟩) (n + 1) (n + 1)) (W.alloc (.cells (madeCells #[.string ⟨#[]⟩] (n + 1)) 9)) := by
  obtain ⟨i0, hi, hz0, hz1, hz2⟩ := info_parts info_str
  have h := run_make (P := Try.prog) W 73 9 i0 _ Try.underlying73 hi hz0 .i64 .i64 ((n : Int) + 1) ((n : Int) + 1) (by omega) (by omega) (by rw [hz2]; omega) (by omega)
  have e : ((n : Int) + 1).toNat = n + 1 := by omega
  rw [e, hz1, Nat.mul_one] at h
  exact h
theorem make_bools (n : Nat) (hn : n ≤ 100000) (W : World) : (Instr.makeSlice 74 (.int .i64 (n : Int)) (.int .i64 (n : Int))).run Try.prog W = .ok (.slice (some ⟨W.heap.size, 0, none⟩) n n) (W.alloc (.cells (madeCells #[.bool false] n) 4)) := by
  obtain ⟨i0, hi, hz0, hz1, hz2⟩ := info_parts info_bool
  have h := run_make (P := Try.prog) W 74 4 i0 _ Try.underlying74 hi hz0 .i64 .i64 (n : Int) (n : Int) (by omega) (by omega) (by rw [hz2]; omega) (by omega)
  rw [Int.toNat_natCast, hz1, Nat.mul_one] at h
  exact h

theorem eff_mk {W : World} {B bi bd be n : Nat} (h1 : W.heap[bi]? = some (.cells (madeCells #[.string ⟨#[]⟩] (n + 1)) 9 (0, 0))) (h2 : W.heap[bd]? = some (.cells (madeCells #[.bool false] n) 4 (0, 0)))
    (h3 : W.heap[be]? = some (.cells #[.slice (some ⟨bi, 0, none⟩) (n + 1) (n + 1), .slice (some ⟨bd, 0, none⟩) n n] 76 (0, 0))) (b1 : B ≤ bi) (b2 : B ≤ bd) (b3 : B ≤ be) :
    EffAt W B bi bd be n (insF []) (delF []) :=
  ⟨⟨⟨_, h1, size_madeCells _ _, fun i hi => by simp [madeCells, hi, Nat.mod_one, insF]⟩, ⟨_, h2, size_madeCells _ _, fun i hi => by simp [madeCells, hi, Nat.mod_one, delF]⟩, b1, b2⟩, h3, b3⟩

theorem al4 (w : World) (o0 o1 o2 o3 : Obj) : ((((w.alloc o0).alloc o1).alloc o2).alloc o3).drew.heap[w.heap.size]? = some o0 ∧ ((((w.alloc o0).alloc o1).alloc o2).alloc o3).drew.heap[w.heap.size + 1]? = some o1 ∧
    ((((w.alloc o0).alloc o1).alloc o2).alloc o3).drew.heap[w.heap.size + 1 + 1]? = some o2 ∧ ((((w.alloc o0).alloc o1).alloc o2).alloc o3).drew.heap[w.heap.size + 1 + 1 + 1]? = some o3 := by
  have e : ((((w.alloc o0).alloc o1).alloc o2).alloc o3).drew.heap = (((w.heap.push o0).push o1).push o2).push o3 := rfl
  rw [e]
  refine ⟨?_, ?_, ?_, ?_⟩
  · rw [Array.getElem?_push, if_neg (by simp; omega), Array.getElem?_push, if_neg (by simp; omega), Array.getElem?_push, if_neg (by simp), Array.getElem?_push, if_pos rfl]
  · rw [Array.getElem?_push, if_neg (by simp), Array.getElem?_push, if_neg (by simp), Array.getElem?_push, if_pos (by simp)]
  · rw [Array.getElem?_push, if_neg (by simp), Array.getElem?_push, if_pos (by simp)]
  · rw [Array.getElem?_push, if_pos (by simp)]

theorem bel4 (w : World) (o0 o1 o2 o3 : Obj) : Below w.heap.size w ((((w.alloc o0).alloc o1).alloc o2).alloc o3).drew :=
  (((((Below.refl w.heap.size w).alloc (by omega) _).alloc (by simp) _).alloc (by simp; omega) _).alloc (by simp; omega) _).drew

theorem EffAt.alloc {w : World} {B bi bd be n : Nat} {fi : Nat → ByteArray} {fd : Nat → Bool} (h : EffAt w B bi bd be n fi fd) (o : Obj) : EffAt (w.alloc o) B bi bd be n fi fd :=
  ⟨⟨h.1.1.alloc o, h.1.2.1.alloc o, h.1.2.2⟩, (Below.heap_alloc w o be (Array.getElem?_eq_some_iff.1 h.2.1).1).trans h.2.1, h.2.2⟩

theorem EffAt.ne {w : World} {B bi bd be n : Nat} {fi : Nat → ByteArray} {fd : Nat → Bool} (h : EffAt w B bi bd be n fi fd) : bi ≠ bd ∧ bi ≠ be ∧ bd ≠ be ∧ bi < w.heap.size ∧ bd < w.heap.size ∧ be < w.heap.size := by
  obtain ⟨⟨⟨c1, h1, _⟩, ⟨c2, h2, _⟩, _⟩, h3, _⟩ := h
  refine ⟨?_, ?_, ?_, (Array.getElem?_eq_some_iff.1 h1).1, (Array.getElem?_eq_some_iff.1 h2).1, (Array.getElem?_eq_some_iff.1 h3).1⟩
  all_goals
    intro e
    subst e
    first
      | (rw [h1] at h2; simp at h2)
      | (rw [h1] at h3; simp at h3)
      | (rw [h2] at h3; simp at h3)

theorem EffAt.setI {w : World} {B bi bd be n : Nat} {fi : Nat → ByteArray} {fd : Nat → Bool} (h : EffAt w B bi bd be n fi fd) (i : Nat) (t : ByteArray) : EffAt (w.setCell ⟨bi, i, none⟩ (.string t)) B bi bd be n (fun (j : Nat) => if j = i then t else fi j) fd := by
  obtain ⟨n1, n2, n3, _⟩ := h.ne
  refine ⟨⟨(h.1.1.set i (.string t)).congr fun j _ => by show (if j = i then Value.string t else Value.string (fi j)) = Value.string (if j = i then t else fi j); split <;> rfl, h.1.2.1.setOther (Ne.symm n1) _, h.1.2.2⟩, ?_, h.2.2⟩
  rw [Below.heap_setCell _ _ _ _ (by exact Ne.symm n2)]
  exact h.2.1

theorem EffAt.setD {w : World} {B bi bd be n : Nat} {fi : Nat → ByteArray} {fd : Nat → Bool} (h : EffAt w B bi bd be n fi fd) (i : Nat) (t : Bool) : EffAt (w.setCell ⟨bd, i, none⟩ (.bool t)) B bi bd be n fi (fun (j : Nat) => if j = i then t else fd j) := by
  obtain ⟨n1, n2, n3, _⟩ := h.ne
  refine ⟨⟨h.1.1.setOther n1 _, (h.1.2.1.set i (.bool t)).congr fun j _ => by show (if j = i then Value.bool t else Value.bool (fd j)) = Value.bool (if j = i then t else fd j); split <;> rfl, h.1.2.2⟩, ?_, h.2.2⟩
  rw [Below.heap_setCell _ _ _ _ (by exact Ne.symm n3)]
  exact h.2.1

theorem EffAt.cells {w : World} {B bi bd be n : Nat} {fi : Nat → ByteArray} {fd : Nat → Bool} (h : EffAt w B bi bd be n fi fd) :
    w.cell? ⟨be, 0, none⟩ = some (.slice (some ⟨bi, 0, none⟩) (n + 1) (n + 1)) ∧ w.cell? ⟨be, 1, none⟩ = some (.slice (some ⟨bd, 0, none⟩) n n) := by
  constructor <;> (rw [Lib.cell_of_heap h.2.1]; rfl)

theorem ed_cells {w : World} {b : Nat} {x : Ed} (h : w.heap[b]? = some (.cells #[.int .i64 x.s, .int .i64 x.e, .string x.t] 38 (0, 0))) :
    w.cell? ⟨b, 0, none⟩ = some (.int .i64 x.s) ∧ w.cell? ⟨b, 1, none⟩ = some (.int .i64 x.e) ∧ w.cell? ⟨b, 2, none⟩ = some (.string x.t) := by
  refine ⟨?_, ?_, ?_⟩ <;> (rw [Lib.cell_of_heap h]; rfl)

set_option maxHeartbeats 1000000 in
set_option maxRecDepth 100000 in
theorem effect_any (n : Nat) (a : Option Addr) (cap : Nat) (l : List Ed) (w : World) (hn : n ≤ 2000) (hl5 : l.length ≤ 50) (hin : Inside n l) (h : Eds w w.heap.size a l) :
    Calls Try.prog 41 #[.int .i64 n, .slice a l.length cap] w fun e w' => ∃ bi bd, e = .returned (.agg #[.slice (some ⟨bi, 0, none⟩) (n + 1) (n + 1), .slice (some ⟨bd, 0, none⟩) n n]) ∧ Hid (Rows2 w' w.heap.size bi bd n (insF l) (delF l)) ∧ Below w.heap.size w w' := by
  have m1 := make_strs n (by omega)
  have m2 := make_bools n (by omega)
  go_enter Try.func41, Try.ntmps41
  go_upto_region 1 with (fail)
  go_cut [5] (fun p W => ∃ bi bd be, p = .pointer (some ⟨be, 0, none⟩) ∧ Hid (EffAt W (w.heap.size + 1) bi bd be n (insF []) (delF [])) ∧ Below w.heap.size w W ∧ Hid (W.heap[w.heap.size]? = some (.cells #[.slice none 0 0, .slice none 0 0] 76 (0, 0))) ∧ w.heap.size < W.heap.size)
  case first =>
    clear h hin
    go_region
    all_goals
      go_wp2
      go_meet
      case rel =>
        first
          | exact ⟨w.heap.size + 1, w.heap.size + 1 + 1, w.heap.size + 1 + 1 + 1, rfl, eff_mk (al4 w _ _ _ _).2.1 (al4 w _ _ _ _).2.2.1 (al4 w _ _ _ _).2.2.2 (by omega) (by omega) (by omega), bel4 w _ _ _ _, (al4 w _ _ _ _).1, by simp; omega⟩
          | exact ⟨w.heap.size + 1, w.heap.size + 1 + 1 + 1, w.heap.size + 1 + 1, rfl, eff_mk (al4 w _ _ _ _).2.1 (al4 w _ _ _ _).2.2.2 (al4 w _ _ _ _).2.2.1 (by omega) (by omega) (by omega), bel4 w _ _ _ _, (al4 w _ _ _ _).1, by simp; omega⟩
          | exact ⟨w.heap.size + 1 + 1, w.heap.size + 1, w.heap.size + 1 + 1 + 1, rfl, eff_mk (al4 w _ _ _ _).2.2.1 (al4 w _ _ _ _).2.1 (al4 w _ _ _ _).2.2.2 (by omega) (by omega) (by omega), bel4 w _ _ _ _, (al4 w _ _ _ _).1, by simp; omega⟩
          | exact ⟨w.heap.size + 1 + 1, w.heap.size + 1 + 1 + 1, w.heap.size + 1, rfl, eff_mk (al4 w _ _ _ _).2.2.1 (al4 w _ _ _ _).2.2.2 (al4 w _ _ _ _).2.1 (by omega) (by omega) (by omega), bel4 w _ _ _ _, (al4 w _ _ _ _).1, by simp; omega⟩
          | exact ⟨w.heap.size + 1 + 1 + 1, w.heap.size + 1, w.heap.size + 1 + 1, rfl, eff_mk (al4 w _ _ _ _).2.2.2 (al4 w _ _ _ _).2.1 (al4 w _ _ _ _).2.2.1 (by omega) (by omega) (by omega), bel4 w _ _ _ _, (al4 w _ _ _ _).1, by simp; omega⟩
          | exact ⟨w.heap.size + 1 + 1 + 1, w.heap.size + 1 + 1, w.heap.size + 1, rfl, eff_mk (al4 w _ _ _ _).2.2.2 (al4 w _ _ _ _).2.2.1 (al4 w _ _ _ _).2.1 (by omega) (by omega) (by omega), bel4 w _ _ _ _, (al4 w _ _ _ _).1, by simp; omega⟩
  case rest =>
    obtain ⟨bi, bd, be, rfl, hE, hb, hR, hz⟩ := hcut
    clear m1 m2
    go_wp2_with fail
    go_loopw [17] (fun i wr => ∃ k : Nat, k ≤ l.length ∧ i = .int .i64 k ∧ Hid (EffAt wr (w.heap.size + 1) bi bd be n (insF (l.take k)) (delF (l.take k))) ∧ Below w.heap.size w wr ∧ Hid (wr.heap[w.heap.size]? = some (.cells #[.slice none 0 0, .slice none 0 0] 76 (0, 0))))
      (fun i _ => l.length - (intOf i).toNat)
    case atStart => exact ⟨0, Nat.zero_le _, rfl, hE, hb, hR⟩
    case round =>
      clear hE hb hR hz
      obtain ⟨k, hk, rfl, hE, hb, hR⟩ := hrel
      have hzw := hb.size
      obtain ⟨wo, rfl⟩ : ∃ wo : World, wo = wr := ⟨_, rfl⟩
      by_cases hlt : k < l.length
      · have hx : l[k]? = some l[k] := List.getElem?_eq_getElem hlt
        obtain ⟨x, hX⟩ : ∃ x, x = l[k] := ⟨_, rfl⟩
        rw [← hX] at hx
        obtain ⟨o1, o2, o3⟩ := hin x (by rw [hX]; exact List.getElem_mem hlt)
        clear hX
        obtain ⟨hok, b, o, rfl, hbl, h0, h1, h2⟩ := (h.below hb) k x hx
        have hE1 := hE.out.alloc (.cells #[.int .i64 x.s, .int .i64 x.e, .string x.t] 38)
        obtain ⟨c0, c1⟩ := hE1.cells
        have ci := hE1.1.1.cell (i := x.s.toNat) (by omega)
        have fi := hE1.1.1.frozen x.s.toNat
        have o4 : x.s < (n : Int) + 1 := by omega
        have HE1 : Hid (EffAt ((wo.setCell ⟨bi, x.s.toNat, none⟩ (.string x.t)).alloc (.cells #[.int .i64 x.s, .int .i64 x.e, .string x.t] 38)) (w.heap.size + 1) bi bd be n (insF (l.take (k + 1))) (delF (l.take k))) := by
          rw [insF_step hx]
          exact (hE.out.setI x.s.toNat x.t).alloc _
        obtain ⟨n1, n2, n3, n4, n5, n6⟩ := hE.out.ne
        have hsz : (wo.setCell ⟨bi, x.s.toNat, none⟩ (.string x.t)).heap.size = wo.heap.size := by simp [World.setCell]
        have hEd : Hid (((wo.setCell ⟨bi, x.s.toNat, none⟩ (.string x.t)).alloc (.cells #[.int .i64 x.s, .int .i64 x.e, .string x.t] 38)).heap[wo.heap.size]? = some (.cells #[.int .i64 x.s, .int .i64 x.e, .string x.t] 38 (0, 0))) := by
          show _ = _
          have := heap_alloc_new (wo.setCell ⟨bi, x.s.toNat, none⟩ (.string x.t)) (.cells #[.int .i64 x.s, .int .i64 x.e, .string x.t] 38)
          rwa [hsz] at this
        have hR1 : Hid (((wo.setCell ⟨bi, x.s.toNat, none⟩ (.string x.t)).alloc (.cells #[.int .i64 x.s, .int .i64 x.e, .string x.t] 38)).heap[w.heap.size]? = some (.cells #[.slice none 0 0, .slice none 0 0] 76 (0, 0))) := by
          show _ = _
          rw [Below.heap_alloc _ _ _ (by rw [hsz]; exact (Array.getElem?_eq_some_iff.1 hR.out).1), Below.heap_setCell _ _ _ _ (by show w.heap.size ≠ bi; have := hE.out.1.2.2.1; omega)]
          exact hR.out
        have hb1 : Hid (Below w.heap.size w ((wo.setCell ⟨bi, x.s.toNat, none⟩ (.string x.t)).alloc (.cells #[.int .i64 x.s, .int .i64 x.e, .string x.t] 38))) := (hb.setCell (by show w.heap.size ≤ bi; have := hE.out.1.2.2.1; omega) _).alloc (by rw [hsz]; exact hzw) _
        have Hx := Lib.hid hx
        clear hx hE hE1 hR n1 n2 n3
        go_upto_region 6 with (fail)
        generalize (wo.setCell ⟨bi, x.s.toNat, none⟩ (.string x.t)).alloc (.cells #[.int .i64 x.s, .int .i64 x.e, .string x.t] 38) = w1 at *
        generalize wo.heap.size = E at *
        have hdx := Lib.hid (delF_step Hx.out)
        obtain ⟨e0, e1, e2⟩ := ed_cells hEd.out
        clear c0 c1 ci fi h0 h1 h2 e2 hb hsz n4 n5 n6 hzw
        go_wp2_with fail
        go_loopw [8] (fun p wr => ∃ m : Int, p = .int .i64 m ∧ x.s ≤ m ∧ m ≤ x.e ∧ Hid (EffAt wr (w.heap.size + 1) bi bd be n (insF (l.take (k + 1))) (fun (j : Nat) => if x.s ≤ (j : Int) ∧ (j : Int) < m then true else delF (l.take k) j)) ∧ Hid (Below w.heap.size w wr) ∧ Hid (wr.heap[w.heap.size]? = some (.cells #[.slice none 0 0, .slice none 0 0] 76 (0, 0))) ∧ Hid (wr.heap[E]? = some (.cells #[.int .i64 x.s, .int .i64 x.e, .string x.t] 38 (0, 0))))
          (fun p _ => (x.e - intOf p).toNat)
        case atStart =>
          refine ⟨x.s, rfl, by omega, by omega, ?_, hb1, hR1, hEd⟩
          have e : (fun (j : Nat) => if x.s ≤ (j : Int) ∧ (j : Int) < x.s then true else delF (l.take k) j) = delF (l.take k) := by
            funext j; rw [if_neg (by omega)]
          show EffAt _ _ _ _ _ _ _ _
          rw [e]
          exact HE1.out
        case round =>
          clear HE1 hb1 hR1 hEd e0 e1
          obtain ⟨m, rfl, hm1, hm2, hE, hb, hR, hEd⟩ := hrel
          obtain ⟨e0, e1, e2⟩ := ed_cells hEd.out
          clear e0 e2
          by_cases hme : m < x.e
          · obtain ⟨c0, c1⟩ := hE.out.cells
            have ci := hE.out.1.2.1.cell (i := m.toNat) (by omega)
            have fi := hE.out.1.2.1.frozen m.toNat
            have m1 : 0 ≤ m := by omega
            have m2 : m < (n : Int) := by omega
            have hbd := hE.out.1.2.2.2
            obtain ⟨n1, n2, n3, n4, n5, n6⟩ := hE.out.ne
            have HE1 : Hid (EffAt (wr.setCell ⟨bd, m.toNat, none⟩ (.bool true)) (w.heap.size + 1) bi bd be n (insF (l.take (k + 1))) (fun (j : Nat) => if x.s ≤ (j : Int) ∧ (j : Int) < m + 1 then true else delF (l.take k) j)) := by
              have := hE.out.setD m.toNat true
              have e : (fun (j : Nat) => if x.s ≤ (j : Int) ∧ (j : Int) < m + 1 then true else delF (l.take k) j) = (fun (j : Nat) => if j = m.toNat then true else if x.s ≤ (j : Int) ∧ (j : Int) < m then true else delF (l.take k) j) := by
                funext j
                by_cases hj : j = m.toNat
                · rw [if_pos (by omega), if_pos hj]
                · rw [if_neg hj]
                  by_cases hj2 : x.s ≤ (j : Int) ∧ (j : Int) < m
                  · rw [if_pos (by omega), if_pos hj2]
                  · rw [if_neg (by omega), if_neg hj2]
              show EffAt _ _ _ _ _ _ _ _
              rw [e]
              exact this
            have hb2 : Hid (Below w.heap.size w (wr.setCell ⟨bd, m.toNat, none⟩ (.bool true))) := hb.out.setCell (by show w.heap.size ≤ bd; omega) _
            have hR2 : Hid ((wr.setCell ⟨bd, m.toNat, none⟩ (.bool true)).heap[w.heap.size]? = some (.cells #[.slice none 0 0, .slice none 0 0] 76 (0, 0))) := by
              show _ = _
              rw [Below.heap_setCell _ _ _ _ (by show w.heap.size ≠ bd; omega)]
              exact hR.out
            have hne : E ≠ bd := by
              rintro rfl
              obtain ⟨c2, q2, _⟩ := hE.out.1.2.1
              have := hEd.out.symm.trans q2
              simp at this
            have hEd2 : Hid ((wr.setCell ⟨bd, m.toNat, none⟩ (.bool true)).heap[E]? = some (.cells #[.int .i64 x.s, .int .i64 x.e, .string x.t] 38 (0, 0))) := by
              show _ = _
              rw [Below.heap_setCell _ _ _ _ (by exact hne)]
              exact hEd.out
            clear hE hb hR hEd n1 n2 n3 n4 n5 n6 hne
            go_wp2_with fail
            go_roundw
            case rel => exact ⟨m + 1, rfl, by omega, by omega, HE1, hb2, hR2, hEd2⟩
            case measure => simp [intOf]; omega
          · obtain rfl : m = x.e := by omega
            have HE2 : Hid (EffAt wr (w.heap.size + 1) bi bd be n (insF (l.take (k + 1))) (delF (l.take (k + 1)))) := by rw [hdx.out]; exact hE.out
            clear hE hdx hEd
            go_wp2_with fail
            go_roundw
            case rel => exact ⟨k + 1, by omega, by go_num, HE2, hb.out, hR⟩
            case measure => simp [intOf]; omega
      · have HE2 : Hid (EffAt wo (w.heap.size + 1) bi bd be n (insF l) (delF l)) := by
          have := hE.out
          rw [List.take_of_length_le (by omega)] at this
          exact this
        obtain ⟨c0, c1⟩ := hE.out.cells
        have r0 : wo.cell? ⟨w.heap.size, 0, none⟩ = some (.slice none 0 0) := by rw [Lib.cell_of_heap hR.out]; rfl
        have r1 : wo.cell? ⟨w.heap.size, 1, none⟩ = some (.slice none 0 0) := by rw [Lib.cell_of_heap hR.out]; rfl
        have g0 := Lib.frozen_of_heap hR.out 0
        have g1 := Lib.frozen_of_heap hR.out 1
        clear hE hR
        go_wp2_with fail
        have hbi := HE2.out.1.2.2.1
        have hbd := HE2.out.1.2.2.2
        refine bodyPost_ret (v := .agg #[.slice (some ⟨bi, 0, none⟩) (n + 1) (n + 1), .slice (some ⟨bd, 0, none⟩) n n]) (by simp [results, Try.results41, go_sem, r0, r1]) rfl ⟨bi, bd, rfl, ⟨(HE2.out.1.1.setOther (by show bi ≠ w.heap.size; omega) _).setOther (by show bi ≠ w.heap.size; omega) _, (HE2.out.1.2.1.setOther (by show bd ≠ w.heap.size; omega) _).setOther (by show bd ≠ w.heap.size; omega) _, by omega, by omega⟩, (hb.setCell (Nat.le_refl _) _).setCell (Nat.le_refl _) _⟩
end Go.Proofs.Ytbkiliiopondaaa
