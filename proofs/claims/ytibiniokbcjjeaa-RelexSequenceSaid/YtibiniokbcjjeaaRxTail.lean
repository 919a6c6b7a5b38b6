/-
  relex.commonTail by its contract: the tokens that both lists have at their ends, as far as there is room.
-/
import Derived.Test.YtibiniokbcjjeaaRxBefore
namespace Go.Proofs.Ytibiniokbcjjeaa
open Go.RowKit

theorem neq_toks (x y : Tk) (w : World) : (binOp .neq 37 (.agg #[.int .i64 x.1, .string (bs x.2)]) (.agg #[.int .i64 y.1, .string (bs y.2)])).run Try.prog w = .ok (.bool (!decide (x = y))) w := by
  by_cases h1 : x.1 = y.1
  · by_cases h2 : x.2 = y.2
    · have h : x = y := Prod.ext h1 h2
      subst h
      simp [go_sem]
    · have h : x ≠ y := fun e => h2 (by rw [e])
      have h3 : ((bs x.2).toList == (bs y.2).toList) = false := by
        rw [ByteArray.toList_eq, ByteArray.toList_eq]
        have : ¬ (bs x.2).data.toList = (bs y.2).data.toList := fun e => h2 (by simpa [bs] using e)
        simpa using this
      simp [go_sem, h, h1, h3]
  · have h : x ≠ y := fun e => h1 (by rw [e])
    simp [go_sem, h, h1]

theorem drop_more {l : List Tk} {k i : Nat} {x : Tk} (hi : l.length = i + 1 + k) (h : l[i]? = some x) : l.drop (l.length - (k + 1)) = x :: l.drop (l.length - k) := by
  rw [show l.length - (k + 1) = i from by omega, show l.length - k = i + 1 from by omega]
  obtain ⟨hk, rfl⟩ := List.getElem?_eq_some_iff.1 h
  exact List.drop_eq_getElem_cons hk

/-- The last k tokens are the same in both lists, and they leave some room. -/
def Common (l m : List Tk) (room : Int) (k : Nat) : Prop :=
  k ≤ l.length ∧ k ≤ m.length ∧ l.drop (l.length - k) = m.drop (m.length - k) ∧ ((glue (l.drop (l.length - k))).length : Int) ≤ room

/-- One more would not do. -/
def Last (l m : List Tk) (room : Int) (k : Nat) : Prop :=
  k = l.length ∨ k = m.length ∨ room < (glue (l.drop (l.length - (k + 1)))).length ∨ l.drop (l.length - (k + 1)) ≠ m.drop (m.length - (k + 1))

set_option maxHeartbeats 2000000 in
set_option maxRecDepth 100000 in
theorem tail_any (l m : List Tk) (a1 : Option Addr) (c1 : Nat) (a2 : Option Addr) (c2 : Nat) (room : Int) (w : World) (hl : l.length ≤ 100000) (hm : m.length ≤ 100000) (hg : (glue l).length ≤ 100000) (hr0 : 0 ≤ room) (hr1 : room ≤ 100000)
    (h1 : Tks w w.heap.size a1 l) (h2 : Tks w w.heap.size a2 m) :
    Calls Try.prog 20 #[.slice a1 l.length c1, .slice a2 m.length c2, .int .i64 room] w fun e w' => ∃ k : Nat, e = .returned (.int .i64 k) ∧ Common l m room k ∧ Last l m room k ∧ Below w.heap.size w w' := by
  have H1 := Lib.hid h1
  have H2 := Lib.hid h2
  clear h1 h2
  go_enter Try.func20, Try.ntmps20
  go_wp2_with fail
  go_loopw [2, 7] (fun r c wr => ∃ k : Nat, ∃ q : Int, c = .int .i64 k ∧ r = .int .i64 q ∧ 0 ≤ q ∧ q ≤ room ∧ k ≤ l.length ∧ k ≤ m.length ∧ Hid (q = room - (glue (l.drop (l.length - k))).length) ∧ Hid (Common l m room k) ∧ Below w.heap.size w wr)
    (fun _ c _ => l.length - (intOf c).toNat)
  case atStart =>
    have e1 : l.drop (l.length - 0) = [] := by rw [Nat.sub_zero, List.drop_length]
    have e2 : m.drop (m.length - 0) = [] := by rw [Nat.sub_zero, List.drop_length]
    refine ⟨0, room, rfl, rfl, hr0, Int.le_refl _, Nat.zero_le _, Nat.zero_le _, ?_, ⟨Nat.zero_le _, Nat.zero_le _, ?_, ?_⟩, Below.refl _ _⟩
    · show _ = _; rw [e1]; simp [glue]
    · rw [e1, e2]
    · rw [e1]; simpa [glue] using hr0
  case round =>
    obtain ⟨k, q, rfl, rfl, hq0, hq1, hkl, hkm, hq, hcom, hb⟩ := hrel
    have hzw := hb.size
    obtain ⟨M, hM⟩ : ∃ M : Int, min (l.length : Int) (m.length : Int) = M := ⟨_, rfl⟩
    have hif : (if m.length < l.length then (m.length : Int) else (l.length : Int)) = M := by split <;> omega
    by_cases hlt : k < l.length ∧ k < m.length
    · obtain ⟨hlt1, hlt2⟩ := hlt
      obtain ⟨i, hi⟩ : ∃ i, l.length = i + 1 + k := ⟨l.length - 1 - k, by omega⟩
      obtain ⟨j, hj⟩ : ∃ j, m.length = j + 1 + k := ⟨m.length - 1 - k, by omega⟩
      have hx : l[i]? = some (l[i]'(by omega)) := List.getElem?_eq_getElem _
      obtain ⟨x, hX⟩ : ∃ x, x = l[i]'(by omega) := ⟨_, rfl⟩
      rw [← hX] at hx
      clear hX
      have hy : m[j]? = some (m[j]'(by omega)) := List.getElem?_eq_getElem _
      obtain ⟨y, hY⟩ : ∃ y, y = m[j]'(by omega) := ⟨_, rfl⟩
      rw [← hY] at hy
      clear hY
      obtain ⟨b, o, rfl, _, p0, p1⟩ := (H1.out.below hb (Nat.le_refl _)) i x hx
      obtain ⟨b', o', rfl, hbb, g0, g1⟩ := (H2.out.below hb (Nat.le_refl _)) j y hy
      have hdl := drop_more hi hx
      have hdm := drop_more hj hy
      have hneq := neq_toks x y
      have hgs := glue_split l (l.length - (k + 1))
      have HL : Hid ((glue (l.drop (l.length - (k + 1)))).length = (bs x.2).size + (glue (l.drop (l.length - k))).length) := by
        show _ = _; rw [hdl, glue_cons, List.length_append, bs_size]
      have HXY : Hid (l.drop (l.length - (k + 1)) = m.drop (m.length - (k + 1)) ↔ x = y) := by
        show _ ↔ _
        rw [hdl, hdm, hcom.out.2.2.1]
        constructor
        · intro e; exact (List.cons.inj e).1
        · intro e; rw [e]
      have hzs : ((bs x.2).size : Int) ≤ 100000 := by have := HL.out; omega
      have hi1 : (l.length : Int) - 1 - (k : Int) = (i : Int) := by omega
      have hj1 : (m.length : Int) - 1 - (k : Int) = (j : Int) := by omega
      have hi2 : (i : Int) < (l.length : Int) := by omega
      have hj2 : (j : Int) < (m.length : Int) := by omega
      have hk0 : (0 : Int) ≤ (k : Int) := by omega
      have hmin : (k : Int) < M := by omega
      have HI : Hid (l.length = i + 1 + k) := hi
      have hw1 : IntKind.i64.wrap ((m.length : Int) - 1) = (m.length : Int) - 1 := by rw [IntKind.wrap_i64]; omega
      have hw2 : IntKind.i64.wrap (j : Int) = (j : Int) := by rw [IntKind.wrap_i64]; omega
      clear hdl hdm hgs hx hy hi hj hM
      generalize hd : (!decide (x = y)) = d at *
      have HD := Lib.hid hd
      clear hd
      obtain ⟨kd, tx⟩ := x
      obtain ⟨kd', tx'⟩ := y
      simp only at hneq p1 g1 HL hzs
      generalize bs tx = z at *
      generalize bs tx' = z' at *
      have hbA : Below wr.heap.size wr (wr.alloc (.cells #[.int .i64 kd, .string z] 37)) := (Below.refl _ _).alloc (Nat.le_refl _) _
      have k0 : (wr.alloc (.cells #[.int .i64 kd, .string z] 37)).cell? ⟨b', o' + j * 2, none⟩ = some (.int .i64 kd') := (hbA.cell (p := ⟨b', o' + j * 2, none⟩) (Nat.lt_of_lt_of_le hbb hzw)).trans g0
      have k1 : (wr.alloc (.cells #[.int .i64 kd, .string z] 37)).cell? ⟨b', o' + j * 2 + 1, none⟩ = some (.string z') := (hbA.cell (p := ⟨b', o' + j * 2 + 1, none⟩) (Nat.lt_of_lt_of_le hbb hzw)).trans g1
      clear hbA
      by_cases hneg : q - (z.size : Int) < 0
      · have hdc : decide (q - (z.size : Int) < 0) = true := decide_eq_true hneg
        go_wp2_with fail
        go_quiet (fail)
        go_wp2_with fail
        go_ret
        exact ⟨k, rfl, hcom.out, .inr (.inr (.inl (by have := HL.out; have := hq.out; omega))), below_drewN' (hb.alloc hzw _) _⟩
      · have hdc : decide (q - (z.size : Int) < 0) = false := decide_eq_false hneg
        cases d with
        | true =>
          go_wp2_with fail
          go_quiet (fail)
          go_wp2_with fail
          go_ret
          exact ⟨k, rfl, hcom.out, .inr (.inr (.inr (fun e => by have := HXY.out.1 e; have := HD.out; simp_all))), below_drewN' (hb.alloc hzw _) _⟩
        | false =>
          go_wp2_with fail
          go_quiet (fail)
          go_wp2_with fail
          go_roundw
          case rel =>
            have e1 := HL.out
            have e2 := hq.out
            refine ⟨k + 1, q - z.size, by go_num, by go_num, by omega, by omega, by omega, by omega, ?_, ⟨by omega, by omega, ?_, ?_⟩, below_drewN' (hb.alloc hzw _) _⟩
            · show _ = _; omega
            · exact HXY.out.2 (by have := HD.out; simpa using this)
            · omega
          case measure => simp [intOf]; omega
    · have hmin : ¬ ((k : Int) < M) := by omega
      go_wp2_with fail
      go_ret
      exact ⟨k, rfl, hcom.out, by rcases Nat.lt_or_ge k l.length with h | h
                                  · exact .inr (.inl (by omega))
                                  · exact .inl (by omega), hb⟩
end Go.Proofs.Ytibiniokbcjjeaa
