/-
  glossatorref1.EqualLists of two slices that read as one list: of tokens, of strings; the program's Tokenize where the source is too long; IsIdentifier.
  relex.tokensBefore by its contract: the leading tokens that end before an offset, and where the last of them ends.
  relex.commonTail by its contract: the tokens that both lists have at their ends, as far as there is room.
  slices.Grow from nil, and slices.Equal of two lists of tokens, by their contracts.
  slices.Equal of two lists of tokens by its contract.
  slices.Concat of slices of tokens by its contract.
  What relex.Update needs to know: the new string, the edit in memory, parts of token slices, the number of reused tokens.
  relex.Update by its contract: for a source that is not too long, its tokens and an edit that fits, the tokens of the new string and the number of those that were reused.
  relex.Update where it hands back an error: a source that is too long, an edit that can't be applied, tokens that are not the source's.
  The number of reused tokens as the reference counts it: which tokens end before the edit, and which is the first common boundary behind it. No program.
-/
import Derived.Test.YtbomilleckgalaaGreatLxAll
import Derived.Test.YtbomilleckgalaaGreatLxBase
import Derived.Test.YtbomilleckgalaaGreatRxPure
import Derived.Lib.AppendZeros
import Derived.Laws.AppendOwnNone
import Derived.Test.YtbomilleckgalaaGreatTeApply
import Derived.StillTailTactics
namespace Go.Proofs.YtbomilleckgalaaGreat.Lx
open Go.RowKit

theorem neq_tok (x : Tk) (w : World) : (binOp .neq 32 (.agg #[.int .i64 x.1, .string (bs x.2)]) (.agg #[.int .i64 x.1, .string (bs x.2)])).run Tryz.prog w = .ok (.bool false) w := by
  simp [go_sem]

set_option maxHeartbeats 1000000 in
theorem equal_toks (l : List Tk) (a1 : Option Addr) (c1 : Nat) (a2 : Option Addr) (c2 : Nat) (w : World) (hl : l.length ≤ 1000000) (h1 : Tks w w.heap.size a1 l) (h2 : Tks w w.heap.size a2 l) :
    Calls Tryz.prog 10 #[.slice a1 l.length c1, .slice a2 l.length c2] w fun e w' => e = .returned (.bool true) ∧ Below w.heap.size w w' := by
  have H1 := Lib.hid h1
  have H2 := Lib.hid h2
  clear h1 h2
  go_enter Tryz.func10, Tryz.ntmps10
  go_wp2_with fail
  go_loopw [13] (fun i wr => ∃ k : Nat, k ≤ l.length ∧ i = .int .i64 k ∧ Below w.heap.size w wr)
    (fun i _ => l.length - (intOf i).toNat)
  case atStart => exact ⟨0, Nat.zero_le _, rfl, Below.refl _ _⟩
  case round =>
    obtain ⟨k, hk, rfl, hb⟩ := hrel
    by_cases hlt : k < l.length
    · have hx : l[k]? = some l[k] := List.getElem?_eq_getElem hlt
      obtain ⟨x, hX⟩ : ∃ x, x = l[k] := ⟨_, rfl⟩
      rw [← hX] at hx
      clear hX
      obtain ⟨b, o, rfl, _, p0, p1⟩ := (H1.out.below hb (Nat.le_refl _)) k x hx
      obtain ⟨b', o', rfl, _, g0, g1⟩ := (H2.out.below hb (Nat.le_refl _)) k x hx
      have hneq := neq_tok x
      have hk0 : (0 : Int) ≤ (k : Int) := by omega
      have hk1 : (k : Int) < (l.length : Int) := by omega
      clear hx
      go_wp2_with fail
      go_quiet (fail)
      go_wp2_with fail
      go_roundw
      case rel => exact ⟨k + 1, by omega, by go_num, below_drewN' hb _⟩
      case measure => simp [intOf]; omega
    · go_wp2_with fail
      go_ret
      exact ⟨rfl, hb⟩

theorem neq_str (x : ByteArray) (w : World) : (binOp .neq 9 (.string x) (.string x)).run Tryz.prog w = .ok (.bool false) w := by
  simp [go_sem]

theorem tokenize_long (s : ByteArray) (w : World) (hs : 2000 < s.size) (hmax : s.size ≤ maxLen) : Calls Tryz.prog 23 #[.string s] w fun e w' => e = .returned (.tuple #[.slice none 0 0, .int .i64 2]) ∧ w' = w := by
  have g0 : (2000 : Int) < s.size := by omega
  have g1 : (s.size : Int) ≤ 9223372036854775807 := by unfold maxLen at hmax; omega
  go_enter Tryz.func23, Tryz.ntmps23
  go_wp2_with fail
  go_ret2
  exact ⟨rfl, rfl⟩

/-- Is it one identifier? -/
def oneId (l : List UInt8) : Bool := decide ((T l).length = 1) && decide (((T l)[0]?.map fun x => x.1) = some 103)

end Go.Proofs.YtbomilleckgalaaGreat.Lx

namespace Go.Proofs.YtbomilleckgalaaGreat.Lx
open Go.RowKit

theorem glue_next {l : List Tk} {k : Nat} {x : Tk} (h : l[k]? = some x) : (glue (l.take (k + 1))).length = (glue (l.take k)).length + (bs x.2).size := by
  unfold glue
  rw [List.take_add_one, h, bs_size]; simp

theorem glue_part (l : List Tk) (k : Nat) : (glue (l.take k)).length ≤ (glue l).length := by have := glue_split l k; omega

set_option maxHeartbeats 1000000 in
set_option maxRecDepth 100000 in
theorem before_any (l : List Tk) (a : Option Addr) (cap : Nat) (off : Int) (w : World) (hl : l.length ≤ 100000) (hg : (glue l).length ≤ 100000) (h : Tks w w.heap.size a l) :
    Calls Tryz.prog 26 #[.slice a l.length cap, .int .i64 off] w fun e w' => ∃ p : Nat, p ≤ l.length ∧ e = .returned (.tuple #[.int .i64 p, .int .i64 (glue (l.take p)).length]) ∧
      (p = 0 ∨ ((glue (l.take p)).length : Int) < off) ∧ (p = l.length ∨ off ≤ (glue (l.take (p + 1))).length) ∧ Below w.heap.size w w' := by
  have H := Lib.hid h
  clear h
  go_enter Tryz.func26, Tryz.ntmps26
  go_wp2_with fail
  go_loopw [4, 5, 10] (fun c e i wr => ∃ k : Nat, k ≤ l.length ∧ c = .int .i64 k ∧ e = .int .i64 (glue (l.take k)).length ∧ i = .int .i64 k ∧ Hid (k = 0 ∨ ((glue (l.take k)).length : Int) < off) ∧ Below w.heap.size w wr)
    (fun _ _ i _ => l.length - (intOf i).toNat)
  case atStart => exact ⟨0, Nat.zero_le _, rfl, rfl, rfl, .inl rfl, Below.refl _ _⟩
  case round =>
    obtain ⟨k, hk, rfl, rfl, rfl, hoff, hb⟩ := hrel
    have hzw := hb.size
    by_cases hlt : k < l.length
    · have hx : l[k]? = some l[k] := List.getElem?_eq_getElem hlt
      obtain ⟨x, hX⟩ : ∃ x, x = l[k] := ⟨_, rfl⟩
      rw [← hX] at hx
      clear hX
      obtain ⟨b, o, rfl, _, p0, p1⟩ := (H.out.below hb (Nat.le_refl _)) k x hx
      have hgt := glue_next hx
      have hle := glue_part l (k + 1)
      have hk0 : (0 : Int) ≤ (k : Int) := by omega
      have hk1 : (k : Int) < (l.length : Int) := by omega
      obtain ⟨kd, tx⟩ := x
      clear hx
      simp only at hgt p1
      generalize bs tx = z at *
      have HG : Hid ((glue (l.take (k + 1))).length = (glue (l.take k)).length + z.size) := hgt
      have g0 : ((glue (l.take k)).length : Int) + z.size ≤ 100000 := by omega
      clear hgt hle
      obtain ⟨q, hq⟩ : ∃ q, q = (glue (l.take k)).length := ⟨_, rfl⟩
      have HQ := Lib.hid hq
      rw [← hq] at g0 ⊢
      clear hq
      by_cases hbr : off ≤ (q : Int) + z.size
      · go_wp2_with fail
        go_ret2
        exact ⟨k, hk, by rw [HQ.out]; rfl, hoff, .inr (by rw [HG.out, ← HQ.out]; omega), hb.alloc hzw _⟩
      · go_wp2_with fail
        go_roundw
        case rel => exact ⟨k + 1, by omega, by go_num, by rw [HG.out, ← HQ.out]; go_num, by go_num, .inr (by rw [HG.out, ← HQ.out]; omega), hb.alloc hzw _⟩
        case measure => simp [intOf]; omega
    · obtain rfl : k = l.length := by omega
      go_wp2_with fail
      go_ret2
      exact ⟨l.length, Nat.le_refl _, rfl, hoff, .inl rfl, hb⟩
end Go.Proofs.YtbomilleckgalaaGreat.Lx

namespace Go.Proofs.YtbomilleckgalaaGreat.Lx
open Go.RowKit

theorem neq_toks (x y : Tk) (w : World) : (binOp .neq 32 (.agg #[.int .i64 x.1, .string (bs x.2)]) (.agg #[.int .i64 y.1, .string (bs y.2)])).run Tryz.prog w = .ok (.bool (!decide (x = y))) w := by
  by_cases h1 : x.1 = y.1
  · by_cases h2 : x.2 = y.2
    · have h : x = y := Prod.ext h1 h2
      subst h
      simp [go_sem]
    · have h : x ≠ y := fun e => h2 (by rw [e])
      have h3 : ((bs x.2).toList == (bs y.2).toList) = false := by
        rw [ByteArray.toList_eq, ByteArray.toList_eq]
        have : ¬ (bs x.2).data.toList = (bs y.2).data.toList := fun e => h2 (by simpa [bs] using e)
        simpa using this
      simp [go_sem, h, h1, h3]
  · have h : x ≠ y := fun e => h1 (by rw [e])
    simp [go_sem, h, h1]

theorem drop_more {l : List Tk} {k i : Nat} {x : Tk} (hi : l.length = i + 1 + k) (h : l[i]? = some x) : l.drop (l.length - (k + 1)) = x :: l.drop (l.length - k) := by
  rw [show l.length - (k + 1) = i from by omega, show l.length - k = i + 1 from by omega]
  obtain ⟨hk, rfl⟩ := List.getElem?_eq_some_iff.1 h
  exact List.drop_eq_getElem_cons hk

/-- The last k tokens are the same in both lists, and they leave some room. -/
def Common (l m : List Tk) (room : Int) (k : Nat) : Prop :=
  k ≤ l.length ∧ k ≤ m.length ∧ l.drop (l.length - k) = m.drop (m.length - k) ∧ ((glue (l.drop (l.length - k))).length : Int) ≤ room

/-- One more would not do. -/
def Last (l m : List Tk) (room : Int) (k : Nat) : Prop :=
  k = l.length ∨ k = m.length ∨ room < (glue (l.drop (l.length - (k + 1)))).length ∨ l.drop (l.length - (k + 1)) ≠ m.drop (m.length - (k + 1))

set_option maxHeartbeats 2000000 in
set_option maxRecDepth 100000 in
theorem tail_any (l m : List Tk) (a1 : Option Addr) (c1 : Nat) (a2 : Option Addr) (c2 : Nat) (room : Int) (w : World) (hl : l.length ≤ 100000) (hm : m.length ≤ 100000) (hg : (glue l).length ≤ 100000) (hr0 : 0 ≤ room) (hr1 : room ≤ 100000)
    (h1 : Tks w w.heap.size a1 l) (h2 : Tks w w.heap.size a2 m) :
    Calls Tryz.prog 27 #[.slice a1 l.length c1, .slice a2 m.length c2, .int .i64 room] w fun e w' => ∃ k : Nat, e = .returned (.int .i64 k) ∧ Common l m room k ∧ Last l m room k ∧ Below w.heap.size w w' := by
  have H1 := Lib.hid h1
  have H2 := Lib.hid h2
  clear h1 h2
  go_enter Tryz.func27, Tryz.ntmps27
  go_wp2_with fail
  go_loopw [2, 7] (fun r c wr => ∃ k : Nat, ∃ q : Int, c = .int .i64 k ∧ r = .int .i64 q ∧ 0 ≤ q ∧ q ≤ room ∧ k ≤ l.length ∧ k ≤ m.length ∧ Hid (q = room - (glue (l.drop (l.length - k))).length) ∧ Hid (Common l m room k) ∧ Below w.heap.size w wr)
    (fun _ c _ => l.length - (intOf c).toNat)
  case atStart =>
    have e1 : l.drop (l.length - 0) = [] := by rw [Nat.sub_zero, List.drop_length]
    have e2 : m.drop (m.length - 0) = [] := by rw [Nat.sub_zero, List.drop_length]
    refine ⟨0, room, rfl, rfl, hr0, Int.le_refl _, Nat.zero_le _, Nat.zero_le _, ?_, ⟨Nat.zero_le _, Nat.zero_le _, ?_, ?_⟩, Below.refl _ _⟩
    · show _ = _; rw [e1]; simp [glue]
    · rw [e1, e2]
    · rw [e1]; simpa [glue] using hr0
  case round =>
    obtain ⟨k, q, rfl, rfl, hq0, hq1, hkl, hkm, hq, hcom, hb⟩ := hrel
    have hzw := hb.size
    obtain ⟨M, hM⟩ : ∃ M : Int, min (l.length : Int) (m.length : Int) = M := ⟨_, rfl⟩
    have hif : (if m.length < l.length then (m.length : Int) else (l.length : Int)) = M := by split <;> omega
    by_cases hlt : k < l.length ∧ k < m.length
    · obtain ⟨hlt1, hlt2⟩ := hlt
      obtain ⟨i, hi⟩ : ∃ i, l.length = i + 1 + k := ⟨l.length - 1 - k, by omega⟩
      obtain ⟨j, hj⟩ : ∃ j, m.length = j + 1 + k := ⟨m.length - 1 - k, by omega⟩
      have hx : l[i]? = some (l[i]'(by omega)) := List.getElem?_eq_getElem _
      obtain ⟨x, hX⟩ : ∃ x, x = l[i]'(by omega) := ⟨_, rfl⟩
      rw [← hX] at hx
      clear hX
      have hy : m[j]? = some (m[j]'(by omega)) := List.getElem?_eq_getElem _
      obtain ⟨y, hY⟩ : ∃ y, y = m[j]'(by omega) := ⟨_, rfl⟩
      rw [← hY] at hy
      clear hY
      obtain ⟨b, o, rfl, _, p0, p1⟩ := (H1.out.below hb (Nat.le_refl _)) i x hx
      obtain ⟨b', o', rfl, hbb, g0, g1⟩ := (H2.out.below hb (Nat.le_refl _)) j y hy
      have hdl := drop_more hi hx
      have hdm := drop_more hj hy
      have hneq := neq_toks x y
      have hgs := glue_split l (l.length - (k + 1))
      have HL : Hid ((glue (l.drop (l.length - (k + 1)))).length = (bs x.2).size + (glue (l.drop (l.length - k))).length) := by
        show _ = _; rw [hdl, glue_cons, List.length_append, bs_size]
      have HXY : Hid (l.drop (l.length - (k + 1)) = m.drop (m.length - (k + 1)) ↔ x = y) := by
        show _ ↔ _
        rw [hdl, hdm, hcom.out.2.2.1]
        constructor
        · intro e; exact (List.cons.inj e).1
        · intro e; rw [e]
      have hzs : ((bs x.2).size : Int) ≤ 100000 := by have := HL.out; omega
      have hi1 : (l.length : Int) - 1 - (k : Int) = (i : Int) := by omega
      have hj1 : (m.length : Int) - 1 - (k : Int) = (j : Int) := by omega
      have hi2 : (i : Int) < (l.length : Int) := by omega
      have hj2 : (j : Int) < (m.length : Int) := by omega
      have hk0 : (0 : Int) ≤ (k : Int) := by omega
      have hmin : (k : Int) < M := by omega
      have HI : Hid (l.length = i + 1 + k) := hi
      have hw1 : IntKind.i64.wrap ((m.length : Int) - 1) = (m.length : Int) - 1 := by rw [IntKind.wrap_i64]; omega
      have hw2 : IntKind.i64.wrap (j : Int) = (j : Int) := by rw [IntKind.wrap_i64]; omega
      clear hdl hdm hgs hx hy hi hj hM
      generalize hd : (!decide (x = y)) = d at *
      have HD := Lib.hid hd
      clear hd
      obtain ⟨kd, tx⟩ := x
      obtain ⟨kd', tx'⟩ := y
      simp only at hneq p1 g1 HL hzs
      generalize bs tx = z at *
      generalize bs tx' = z' at *
      have hbA : Below wr.heap.size wr (wr.alloc (.cells #[.int .i64 kd, .string z] 32)) := (Below.refl _ _).alloc (Nat.le_refl _) _
      have k0 : (wr.alloc (.cells #[.int .i64 kd, .string z] 32)).cell? ⟨b', o' + j * 2, none⟩ = some (.int .i64 kd') := (hbA.cell (p := ⟨b', o' + j * 2, none⟩) (Nat.lt_of_lt_of_le hbb hzw)).trans g0
      have k1 : (wr.alloc (.cells #[.int .i64 kd, .string z] 32)).cell? ⟨b', o' + j * 2 + 1, none⟩ = some (.string z') := (hbA.cell (p := ⟨b', o' + j * 2 + 1, none⟩) (Nat.lt_of_lt_of_le hbb hzw)).trans g1
      clear hbA
      by_cases hneg : q - (z.size : Int) < 0
      · have hdc : decide (q - (z.size : Int) < 0) = true := decide_eq_true hneg
        go_wp2_with fail
        go_quiet (fail)
        go_wp2_with fail
        go_ret
        exact ⟨k, rfl, hcom.out, .inr (.inr (.inl (by have := HL.out; have := hq.out; omega))), below_drewN' (hb.alloc hzw _) _⟩
      · have hdc : decide (q - (z.size : Int) < 0) = false := decide_eq_false hneg
        cases d with
        | true =>
          go_wp2_with fail
          go_quiet (fail)
          go_wp2_with fail
          go_ret
          exact ⟨k, rfl, hcom.out, .inr (.inr (.inr (fun e => by have := HXY.out.1 e; have := HD.out; simp_all))), below_drewN' (hb.alloc hzw _) _⟩
        | false =>
          go_wp2_with fail
          go_quiet (fail)
          go_wp2_with fail
          go_roundw
          case rel =>
            have e1 := HL.out
            have e2 := hq.out
            refine ⟨k + 1, q - z.size, by go_num, by go_num, by omega, by omega, by omega, by omega, ?_, ⟨by omega, by omega, ?_, ?_⟩, below_drewN' (hb.alloc hzw _) _⟩
            · show _ = _; omega
            · exact HXY.out.2 (by have := HD.out; simpa using this)
            · omega
          case measure => simp [intOf]; omega
    · have hmin : ¬ ((k : Int) < M) := by omega
      go_wp2_with fail
      go_ret
      exact ⟨k, rfl, hcom.out, by rcases Nat.lt_or_ge k l.length with h | h
                                  · exact .inr (.inl (by omega))
                                  · exact .inl (by omega), hb⟩
end Go.Proofs.YtbomilleckgalaaGreat.Lx

namespace Go.Proofs.YtbomilleckgalaaGreat.Lx
open Go.RowKit

set_option maxHeartbeats 1000000 in
set_option maxRecDepth 100000 in
theorem grow_nil (n : Nat) (w : World) (hn : n ≤ 100000) :
    Calls Tryz.prog 52 #[.slice none 0 0, .int .i64 n] w fun e w' => ∃ v, e = .returned v ∧ Hid (OwnsT w' w.heap.size v []) ∧ Below w.heap.size w w' := by
  obtain ⟨i0, hi, hz0, hz1, hz2⟩ := info_parts info_tok
  by_cases h0 : n = 0
  · subst h0
    go_enter Tryz.func52, Tryz.ntmps52
    go_wp2_with fail
    go_ret
    exact ⟨_, rfl, OwnsT.nil _ _, Below.refl _ _⟩
  · have g0 : (0 : Int) < n := by omega
    have g1 : (n : Int) ≤ 100000 := by omega
    have hap := fun ty => Lib.run_append_nil_zeros (P := Tryz.prog) w 24 3 ty 32 i0 _ .i64 .i64 Tryz.underlying24 Tryz.underlying3 hi hz0 n (by omega) (by rw [hz1]; omega) (by omega) (by rw [hz2]; omega)
    have hge := grownCap_ge w n 0 32
    have hle := grownCap_le_maxLen w n 0 32 (by unfold maxLen; omega)
    generalize grownCap w n 0 32 = G at *
    obtain ⟨cur, hcur⟩ : ∃ cur, cur = Builtin.zeroCells (Value.agg #[.int .i64 0, .string ⟨#[]⟩]).cells n ++ Builtin.zeroCells (Value.agg #[.int .i64 0, .string ⟨#[]⟩]).cells (G - n) := ⟨_, rfl⟩
    rw [← hcur] at hap
    have hcs : cur.size = G * 2 := by
      rw [hcur, Array.size_append, size_zeroCells, size_zeroCells]
      show n * 2 + (G - n) * 2 = G * 2
      omega
    clear hcur
    have HC := Lib.hid hcs
    have HLE := Lib.hid hle
    have g2 : (n : Int) ≤ G := by omega
    have g3 : (G : Int) ≤ 9223372036854775807 := by unfold maxLen at hle; omega
    clear hcs hle hge
    go_enter Tryz.func52, Tryz.ntmps52
    go_wp2_with (at_builtin; refine Lib.wpList_append_run _ rfl _ _ _ _ rfl _ _ rfl rfl _ _ (hap _) ?_)
    go_ret
    refine ⟨_, rfl, ?_, ?_⟩
    · exact World.ownsRow_made w.drew _ _ (Nat.le_refl _) HLE.out HC.out
    · exact (below_drewN' (Below.refl _ _) 1).alloc (Nat.le_refl _) _
end Go.Proofs.YtbomilleckgalaaGreat.Lx

namespace Go.Proofs.YtbomilleckgalaaGreat.Lx
open Go.RowKit

theorem take_next {l m : List Tk} {k : Nat} {x y : Tk} (h : l.take k = m.take k) (hx : l[k]? = some x) (hy : m[k]? = some y) (e : x = y) : l.take (k + 1) = m.take (k + 1) := by
  rw [List.take_add_one, List.take_add_one, h, hx, hy, e]

set_option maxHeartbeats 1000000 in
set_option maxRecDepth 100000 in
theorem same_any (l m : List Tk) (a1 : Option Addr) (c1 : Nat) (a2 : Option Addr) (c2 : Nat) (w : World) (hl : l.length ≤ 9223372036854775807) (hm : m.length ≤ 9223372036854775807) (h1 : Tks w w.heap.size a1 l) (h2 : Tks w w.heap.size a2 m) :
    Calls Tryz.prog 25 #[.slice a1 l.length c1, .slice a2 m.length c2] w fun e w' => ∃ r : Bool, e = .returned (.bool r) ∧ (r = true ↔ l = m) ∧ Below w.heap.size w w' := by
  have H1 := Lib.hid h1
  have H2 := Lib.hid h2
  clear h1 h2
  by_cases hlm : m.length = l.length
  · rw [hlm]
    have HLM := Lib.hid hlm
    clear hm hlm
    go_enter Tryz.func25, Tryz.ntmps25
    go_wp2_with fail
    go_loopw [13] (fun i wr => ∃ k : Nat, k ≤ l.length ∧ i = .int .i64 k ∧ Hid (l.take k = m.take k) ∧ Below w.heap.size w wr)
      (fun i _ => l.length - (intOf i).toNat)
    case atStart => exact ⟨0, Nat.zero_le _, rfl, (show _ = _ by simp), Below.refl _ _⟩
    case round =>
      obtain ⟨k, hk, rfl, heq, hb⟩ := hrel
      by_cases hlt : k < l.length
      · have hx : l[k]? = some l[k] := List.getElem?_eq_getElem hlt
        obtain ⟨x, hX⟩ : ∃ x, x = l[k] := ⟨_, rfl⟩
        rw [← hX] at hx
        clear hX
        have hlt2 : k < m.length := by rw [HLM.out]; exact hlt
        have hy : m[k]? = some (m[k]'hlt2) := List.getElem?_eq_getElem hlt2
        obtain ⟨y, hY⟩ : ∃ y, y = m[k]'hlt2 := ⟨_, rfl⟩
        rw [← hY] at hy
        clear hY
        obtain ⟨b, o, rfl, _, p0, p1⟩ := (H1.out.below hb (Nat.le_refl _)) k x hx
        obtain ⟨b', o', rfl, _, g0, g1⟩ := (H2.out.below hb (Nat.le_refl _)) k y hy
        have hneq := neq_toks x y
        have hk0 : (0 : Int) ≤ (k : Int) := by omega
        have hk1 : (k : Int) < (l.length : Int) := by omega
        have HX := Lib.hid hx
        have HY := Lib.hid hy
        clear hx hy hlt2
        by_cases hxy : x = y
        · have hd : (!decide (x = y)) = false := by simpa using hxy
          rw [hd] at hneq
          have HN : Hid (l.take (k + 1) = m.take (k + 1)) := take_next heq.out HX.out HY.out hxy
          clear hxy hd HX HY heq
          go_wp2_with fail
          go_quiet (fail)
          go_wp2_with fail
          go_roundw
          case rel => exact ⟨k + 1, by omega, by go_num, HN, below_drewN' hb _⟩
          case measure => simp [intOf]; omega
        · have hd : (!decide (x = y)) = true := by simpa using hxy
          rw [hd] at hneq
          have HN : Hid (¬ l = m) := by
            show ¬ _
            intro e
            subst e
            have := HX.out.symm.trans HY.out
            exact hxy (Option.some.inj this)
          clear hxy hd HX HY heq
          go_wp2_with fail
          go_quiet (fail)
          go_wp2_with fail
          go_ret
          exact ⟨false, rfl, by simpa using HN.out, below_drewN' hb _⟩
      · obtain rfl : k = l.length := by omega
        have HN : Hid (l = m) := by
          show _ = _
          have := heq.out
          rwa [List.take_length, ← HLM.out, List.take_length] at this
        clear heq
        go_wp2_with fail
        go_ret
        exact ⟨true, rfl, by simpa using HN.out, hb⟩
  · have g : ((l.length : Int) != (m.length : Int)) = true := by simp; omega
    have HN : Hid (¬ l = m) := by
      show ¬ _
      intro e
      exact hlm (by rw [e])
    have g1 : (l.length : Int) ≤ 9223372036854775807 := by omega
    have g2 : (m.length : Int) ≤ 9223372036854775807 := by omega
    clear hlm
    go_enter Tryz.func25, Tryz.ntmps25
    go_wp2_with fail
    go_ret
    exact ⟨false, rfl, by simpa using HN.out, Below.refl _ _⟩
end Go.Proofs.YtbomilleckgalaaGreat.Lx

namespace Go.Proofs.YtbomilleckgalaaGreat.Lx
open Go.RowKit

/-- The slice value x yields m elements of the given size: the cells news. -/
def SrcIs (w : World) (x : Value) (m size : Nat) (news : List Value) : Prop :=
  news.length = m * size ∧ (∀ u, u ∈ news → u.oneCell' = true) ∧ ((x = .slice none 0 0 ∧ m = 0) ∨ ∃ ad c, x = .slice (some ad) m c ∧ ∀ j u, news[j]? = some u → w.cell? (ad.add j) = some u)

theorem wpList_append_src {P : Program} {w : World} {ops : Array Oper} {rest : List Oper} {o : Oper} {a : Act} {Q : Exit → Act → World → Prop} (hgd : o.guard = none) (s x : Operand) (t : TypeId)
    (ho : o.op = .call { callee := .builtin .append, args := #[s, x], argTypes := #[t, t] })
    (base : Nat) (e : TypeId) (i : TypeInfo) (z : Value) (size bytes : Nat) (ht : P.underlying t = some (.slice e)) (hi : P.info? e = some i) (hz : i.zero = some z)
    (hsize : i.size = size) (hby : i.bytes = bytes) (hzs : z.cells.size = size) (hsz : 0 < size)
    (v : Value) (n : Nat) (xs : List Value) (hs : a.eval s = v) (hown : w.ownsRow base e size v n xs)
    (xv : Value) (m : Nat) (news : List Value) (hx : a.eval x = xv) (hsrc : SrcIs w xv m size news)
    (h63 : n + m ≤ maxLen) (hbytes : (n + m) * bytes ≤ 140737488355328) (hbase : base ≤ w.heap.size)
    (h : ∀ v' w', w'.ownsRow base e size v' (n + m) (xs ++ news) → w.grownBy w' v.ownBlock → wpList P ops Q rest (a.put o.dst v') w') : wpList P ops Q (o :: rest) a w := by
  obtain ⟨hl, h1, hc | ⟨ad, c, rfl, hc⟩⟩ := hsrc
  · obtain ⟨rfl, rfl⟩ := hc
    have hn : news = [] := List.eq_nil_of_length_eq_zero (by simpa using hl)
    subst hn
    refine wpList_append_own_none hgd s x t ho base e i size ht hi v n xs hs hown hx ?_
    exact h v w (by simpa using hown) ⟨rfl, rfl, rfl, Nat.le_refl _, fun _ _ _ => rfl⟩
  · exact wpList_append_own w hgd s x t ho base e i z size bytes ht hi hz hsize hby hzs hsz v n xs hs hown ad m c news hx hl hc h1 h63 hbytes hbase fun v' w' a b _ => h v' w' a b

theorem cellsT_one (l : List Tk) : ∀ u, u ∈ cellsT l → u.oneCell' = true := by
  intro u hu
  obtain ⟨x, _, hx⟩ := List.mem_flatMap.1 hu
  simp [tkCells] at hx
  rcases hx with rfl | rfl <;> rfl

/-- The value v is a slice that reads as the list l of tokens. -/
def Part (w : World) (B : Nat) (v : Value) (l : List Tk) : Prop := ∃ a c, v = .slice a l.length c ∧ (a = none → c = 0) ∧ Tks w B a l

theorem Part.below {w w' : World} {B B' : Nat} {v : Value} {l : List Tk} (h : Part w B v l) (hb : Below B w w') (hB : B ≤ B') : Part w' B' v l := by
  obtain ⟨a, c, h1, h2, h3⟩ := h
  exact ⟨a, c, h1, h2, h3.below hb hB⟩

theorem Part.src {w : World} {B : Nat} {v : Value} {l : List Tk} (h : Part w B v l) : SrcIs w v l.length 2 (cellsT l) := by
  obtain ⟨a, c, rfl, h2, h3⟩ := h
  refine ⟨cellsT_length l, cellsT_one l, ?_⟩
  cases a with
  | none =>
    obtain rfl := h2 rfl
    have hl : l = [] := by
      cases l with
      | nil => rfl
      | cons x r => obtain ⟨_, _, h, _⟩ := h3 0 x rfl; cases h
    subst hl
    exact .inl ⟨rfl, rfl⟩
  | some ad =>
    refine .inr ⟨ad, c, rfl, fun j u hu => ?_⟩
    have hj : j < (cellsT l).length := (List.getElem?_eq_some_iff.1 hu).1
    rw [cellsT_length] at hj
    have hi : l[j / 2]? = some (l[j / 2]'(by omega)) := List.getElem?_eq_getElem _
    obtain ⟨b, o, e, _, q0, q1⟩ := h3 _ _ hi
    obtain ⟨z0, z1⟩ := cellsT_at hi
    cases e
    have hadd : (⟨b, o, none⟩ : Addr).add j = ⟨b, o + j, none⟩ := by unfold Addr.add; split <;> simp_all
    rw [hadd]
    rcases Nat.mod_two_eq_zero_or_one j with h | h
    · have ej : j / 2 * 2 = j := by omega
      rw [ej] at z0 q0
      rw [q0, ← z0, hu]
    · have ej : j / 2 * 2 + 1 = j := by omega
      rw [Nat.add_assoc, ej] at q1
      rw [ej] at z1
      rw [q1, ← z1, hu]

/-- The lists, one behind the other. -/
def joined (ls : List (Value × List Tk)) : List Tk := ls.flatMap fun x => x.2

theorem joined_next {ls : List (Value × List Tk)} {k : Nat} {x : Value × List Tk} (h : ls[k]? = some x) : joined (ls.take (k + 1)) = joined (ls.take k) ++ x.2 := by
  unfold joined
  rw [List.take_add_one, h]
  simp

theorem joined_le (ls : List (Value × List Tk)) (k : Nat) : (joined (ls.take k)).length ≤ (joined ls).length := by
  have e : joined ls = joined (ls.take k) ++ joined (ls.drop k) := by
    unfold joined
    rw [← List.flatMap_append, List.take_append_drop]
  rw [e, List.length_append]
  omega

set_option maxHeartbeats 2000000 in
set_option maxRecDepth 100000 in
theorem concat_any (ls : List (Value × List Tk)) (g : Nat) (w : World) (hn : ls.length ≤ 1000) (hsum : (joined ls).length ≤ 100000) (hg : g < w.heap.size)
    (hc : ∀ i x, ls[i]? = some x → w.cell? ⟨g, i, none⟩ = some x.1) (hp : ∀ x ∈ ls, Part w w.heap.size x.1 x.2) :
    Calls Tryz.prog 28 #[.slice (some ⟨g, 0, none⟩) ls.length ls.length] w fun e w' => ∃ v, e = .returned v ∧ Hid (OwnsT w' w.heap.size v (joined ls)) ∧ Below w.heap.size w w' := by
  obtain ⟨i0, hi, hz0, hz1, hz2⟩ := info_parts info_tok
  have HC := Lib.hid hc
  have HP := Lib.hid hp
  have HN := Lib.hid (fun k x h => @joined_next ls k x h)
  have HLE := Lib.hid (joined_le ls)
  have KG := Lib.hid (fun W => grow_nil (joined ls).length W hsum)
  clear hc hp
  go_enter Tryz.func28, Tryz.ntmps28
  go_wp2_with fail
  go_loopw [3, 11] (fun s i wr => ∃ k : Nat, k ≤ ls.length ∧ i = .int .i64 k ∧ s = .int .i64 (joined (ls.take k)).length ∧ Below w.heap.size w wr)
    (fun _ i _ => ls.length - (intOf i).toNat)
  case atStart => exact ⟨0, Nat.zero_le _, rfl, rfl, Below.refl _ _⟩
  case round =>
    obtain ⟨k, hk, rfl, rfl, hb⟩ := hrel
    by_cases hlt : k < ls.length
    · have hx : ls[k]? = some ls[k] := List.getElem?_eq_getElem hlt
      obtain ⟨x, hX⟩ : ∃ x, x = ls[k] := ⟨_, rfl⟩
      have hxm : x ∈ ls := by rw [hX]; exact List.getElem_mem hlt
      rw [← hX] at hx
      clear hX
      have p0 := (hb.cell (p := ⟨g, k, none⟩) hg).trans (HC.out k x hx)
      obtain ⟨a, c, hv, _, _⟩ := HP.out x hxm
      have hj := congrArg List.length (HN.out k x hx)
      rw [List.length_append] at hj
      have HJ := Lib.hid hj
      have hle := HLE.out (k + 1)
      rw [hv] at p0
      have g0 : ((joined (ls.take k)).length : Int) + x.2.length ≤ 100000 := by omega
      have hk0 : (0 : Int) ≤ (k : Int) := by omega
      have hk1 : (k : Int) < (ls.length : Int) := by omega
      clear hx hxm hj hle hv
      obtain ⟨q, hq⟩ : ∃ q, q = (joined (ls.take k)).length := ⟨_, rfl⟩
      have HQ := Lib.hid hq
      rw [← hq] at g0 ⊢
      clear hq
      obtain ⟨m, hm⟩ : ∃ m, m = x.2.length := ⟨_, rfl⟩
      have HM := Lib.hid hm
      rw [← hm] at g0 p0
      clear hm
      have g1 : ¬ ((q : Int) + m < 0) := by omega
      go_wp2_with fail
      go_roundw
      case rel => exact ⟨k + 1, by omega, by go_num, by rw [HJ.out, ← HQ.out, ← HM.out]; go_num, hb⟩
      case measure => simp [intOf]; omega
    · obtain rfl : k = ls.length := by omega
      have hsz := hb.size
      rw [List.take_length]
      clear hlt hk
      go_wp2_with fail
      refine (KG.out wr).mono ?_
      rintro e w1 ⟨v0, rfl, hown0, hb1⟩
      have hb2 := hb.trans (hb1.mono hsz)
      have hown1 : Hid (OwnsT w1 w.heap.size v0 []) := hown0.out.lower hsz
      have hsz1 := hb2.size
      clear hown0 hb1 hb hsz KG
      go_wp2_with fail
      go_loopw [6, 27] (fun v i wr => ∃ k : Nat, k ≤ ls.length ∧ i = .int .i64 k ∧ Hid (OwnsT wr w.heap.size v (joined (ls.take k))) ∧ Below w.heap.size w wr)
        (fun _ i _ => ls.length - (intOf i).toNat)
      case atStart => exact ⟨0, Nat.zero_le _, rfl, hown1, hb2⟩
      case round =>
        obtain ⟨k, hk, rfl, hown, hb⟩ := hrel
        have hzw := hb.size
        by_cases hlt : k < ls.length
        · have hx : ls[k]? = some ls[k] := List.getElem?_eq_getElem hlt
          obtain ⟨x, hX⟩ : ∃ x, x = ls[k] := ⟨_, rfl⟩
          have hxm : x ∈ ls := by rw [hX]; exact List.getElem_mem hlt
          rw [← hX] at hx
          clear hX
          have p0 := (hb.cell (p := ⟨g, k, none⟩) hg).trans (HC.out k x hx)
          have HS := Lib.hid ((HP.out x hxm).below hb hzw).src
          have HJ := Lib.hid (HN.out k x hx)
          have hj := congrArg List.length HJ.out
          rw [List.length_append] at hj
          have hle := HLE.out (k + 1)
          have hle2 : (joined (ls.take k)).length + x.2.length ≤ 100000 := by omega
          have HM := Lib.hid hle2
          have hk0 : (0 : Int) ≤ (k : Int) := by omega
          have hk1 : (k : Int) < (ls.length : Int) := by omega
          obtain ⟨sv, sl⟩ := x
          clear hx hxm hj hle hle2
          simp only at p0
          go_wp2_with (at_builtin; refine wpList_append_src rfl (.tmp 31) (.tmp 32) 24 rfl w.heap.size 32 i0 _ 2 24 Tryz.underlying24 hi hz0 hz1 hz2 rfl (by decide) _ _ _ rfl hown.out sv _ _ rfl HS.out (by have := HM.out; unfold maxLen; omega) (by have := HM.out; omega) hzw ?_)
          intro v' w5 hown' hgrow
          have hown5 : Hid (OwnsT w5 w.heap.size v' (joined (ls.take (k + 1)))) := by
            show World.ownsRow _ _ _ _ _ _ _
            rw [HJ.out, cellsT_append, List.length_append]
            exact hown'
          have hb5 : Below w.heap.size w w5 := hb.grown hgrow hzw (fun j hj => (hown.out.lt j hj).1)
          clear hown' hgrow hown HS
          go_wp2_with fail
          go_roundw
          case rel => exact ⟨k + 1, by omega, by go_num, hown5, hb5⟩
          case measure => simp [intOf]; omega
        · obtain rfl : k = ls.length := by omega
          have hown2 : Hid (OwnsT wr w.heap.size u6 (joined ls)) := by have := hown; rwa [List.take_length] at this
          clear hown
          go_wp2_with fail
          go_ret
          exact ⟨_, rfl, hown2, hb⟩
end Go.Proofs.YtbomilleckgalaaGreat.Lx

namespace Go.Proofs.YtbomilleckgalaaGreat.Lx
open Go.RowKit Go.Proofs.YtbomilleckgalaaGreat.Te

/-- The string behind one edit. -/
def next (l : List UInt8) (x : Ed) : List UInt8 := l.take x.s.toNat ++ (L x.t ++ l.drop x.e.toNat)

theorem next_apply (s : ByteArray) (x : Ed) : applyL s.data.toList [x] = next (L s) x := by
  simp [applyL, applyFrom, next, L]

/-- The edit lies within a source, and the result is not too long. -/
def Fit (n : Nat) (x : Ed) : Prop := 0 ≤ x.s ∧ x.s ≤ x.e ∧ x.e ≤ n ∧ n ≤ 2000 ∧ (n : Int) - (x.e - x.s) + x.t.size ≤ 2000

theorem Fit.errV {n : Nat} {x : Ed} (h : Fit n x) : errV n [x] = 0 := by
  obtain ⟨h1, h2, h3, h4, h5⟩ := h
  have e1 : sepFrom (n : Int) (-1) [x] = true := by
    unfold sepFrom
    rw [if_neg (by omega)]
    rfl
  have e2 : fitsB (n : Int) [x] = true := by
    unfold fitsB
    exact decide_eq_true (by simp only [tsum, dsum]; omega)
  unfold Te.errV
  rw [e1, e2, if_neg (by simp; omega), if_neg (by simp), if_neg (by simp)]

theorem Fit.ok {n : Nat} {x : Ed} (h : Fit n x) : x.ok := by
  obtain ⟨h1, h2, h3, h4, h5⟩ := h
  exact ⟨by omega, by omega, by omega, by omega, by unfold maxLen; omega⟩

theorem Fit.len {s : ByteArray} {x : Ed} (h : Fit s.size x) : ((next (L s) x).length : Int) = s.size - (x.e - x.s) + x.t.size := by
  obtain ⟨h1, h2, h3, h4, h5⟩ := h
  unfold next
  rw [List.length_append, List.length_append, List.length_take, List.length_drop, L_len, L_len]
  omega

/-- One edit in a block of its own. -/
theorem eds_one (w : World) (x : Ed) (hok : x.ok) : Eds (w.alloc (.cells #[.int .i64 x.s, .int .i64 x.e, .string x.t] 23)) (w.alloc (.cells #[.int .i64 x.s, .int .i64 x.e, .string x.t] 23)).heap.size (some ⟨w.heap.size, 0, none⟩) [x] := by
  intro i y hy
  cases i with
  | succ i => simp at hy
  | zero =>
    simp at hy
    subst hy
    have hb := heap_alloc_new w (.cells #[.int .i64 x.s, .int .i64 x.e, .string x.t] 23)
    refine ⟨hok, w.heap.size, 0, rfl, by simp, ?_, ?_, ?_⟩
    · rw [Lib.cell_of_heap hb]; rfl
    · rw [Lib.cell_of_heap hb]; rfl
    · rw [Lib.cell_of_heap hb]; rfl

/-- The block n holds the edit x. -/
def BoxAt (w : World) (n : Nat) (x : Ed) : Prop :=
  n < w.heap.size ∧ w.cell? ⟨n, 0, none⟩ = some (.int .i64 x.s) ∧ w.cell? ⟨n, 1, none⟩ = some (.int .i64 x.e) ∧ w.cell? ⟨n, 2, none⟩ = some (.string x.t)

theorem BoxAt.to {w w' : World} {n : Nat} {x : Ed} (h : BoxAt w n x) (hb : Below w.heap.size w w') : BoxAt w' n x := by
  obtain ⟨h0, h1, h2, h3⟩ := h
  exact ⟨Nat.lt_of_lt_of_le h0 hb.size, (hb.cell (p := ⟨n, 0, none⟩) h0).trans h1, (hb.cell (p := ⟨n, 1, none⟩) h0).trans h2, (hb.cell (p := ⟨n, 2, none⟩) h0).trans h3⟩

theorem BoxAt.new (w : World) (x : Ed) : BoxAt (w.alloc (.cells #[.int .i64 x.s, .int .i64 x.e, .string x.t] 23)) w.heap.size x := by
  have hb := heap_alloc_new w (.cells #[.int .i64 x.s, .int .i64 x.e, .string x.t] 23)
  refine ⟨by simp, ?_, ?_, ?_⟩
  · rw [Lib.cell_of_heap hb]; rfl
  · rw [Lib.cell_of_heap hb]; rfl
  · rw [Lib.cell_of_heap hb]; rfl

theorem OwnsT.part {w : World} {B : Nat} {v : Value} {l : List Tk} (h : OwnsT w B v l) : Part w w.heap.size v l := by
  rcases h.2 with ⟨rfl, h0⟩ | ⟨g, cap, cur, rfl, hb, hg, h1, h2, h3, h4⟩
  · obtain rfl : l = [] := List.eq_nil_of_length_eq_zero h0
    exact ⟨none, 0, rfl, fun _ => rfl, Tks.nil⟩
  · obtain ⟨a, c, hv, _, ht, _⟩ := h.tks
    cases hv
    exact ⟨_, _, rfl, (fun e => by cases e), ht⟩

/-- An owned list, with all that is known of its slice. -/
theorem OwnsT.whole {w : World} {B : Nat} {v : Value} {l : List Tk} (h : OwnsT w B v l) : ∃ a cap, v = .slice a l.length cap ∧ l.length ≤ cap ∧ (a = none → cap = 0) ∧ (l ≠ [] → ∃ b o, a = some ⟨b, o, none⟩) ∧ Tks w w.heap.size a l := by
  obtain ⟨a, c, hv, hc, ht, hs⟩ := h.tks
  obtain ⟨a', c', hv', hc', _⟩ := h.part
  rw [hv'] at hv
  cases hv
  exact ⟨_, _, hv', hc, hc', hs, ht⟩

theorem Part.to {w w' : World} {v : Value} {l : List Tk} (h : Part w w.heap.size v l) (hb : Below w.heap.size w w') : Part w' w'.heap.size v l := h.below hb hb.size

theorem Tks.take {w : World} {B : Nat} {a : Option Addr} {l : List Tk} (h : Tks w B a l) (m : Nat) : Tks w B a (l.take m) := by
  intro i x hx
  rw [List.getElem?_take] at hx
  split at hx
  · exact h i x hx
  · cases hx

theorem sizeOf_tok (W : World) : (sizeOf 32).run Tryz.prog W = .ok 2 W := by
  obtain ⟨i0, hi, hz0, hz1, hz2⟩ := info_parts info_tok
  simp [sizeOf, typeInfo, hi, hz1]

set_option maxRecDepth 100000 in
/-- The leading part. -/
theorem part_head {w : World} {a : Option Addr} {cap : Nat} {l : List Tk} (hc : a = none → cap = 0) (ht : Tks w w.heap.size a l) (hcap : l.length ≤ cap) (p : Nat) (hp : p ≤ l.length) (p' : Int) (e : p' = p) :
    ∃ xv, (∀ W : World, (Instr.slice 24 (.slice a l.length cap) none (some (.int .i64 p')) none).run Tryz.prog W = .ok xv W) ∧ Part w w.heap.size xv (l.take p) := by
  subst e
  refine ⟨sliced a 0 p cap 2, fun W => ?_, ?_⟩
  · rw [run_slice_h W 24 a l.length cap Tryz.underlying24 .i64 p (by omega) (by omega), show Tryz.prog.elem 24 = 32 from rfl, sizeOf_tok]
    rfl
  · refine ⟨a, cap, ?_, hc, ht.take p⟩
    rw [List.length_take, Nat.min_eq_left hp]
    cases a with
    | none => simp [sliced, hc rfl]
    | some ad =>
      have : ad.add 0 = ad := by unfold Addr.add; split <;> simp_all
      by_cases h : cap = 0
      · subst h; obtain rfl : p = 0 := by omega
        simp [sliced]
      · simp [sliced, h, this]

set_option maxRecDepth 100000 in
/-- The trailing part. -/
theorem part_tail {w : World} {a : Option Addr} {cap : Nat} {l : List Tk} (hc : a = none → cap = 0) (hs : l ≠ [] → ∃ b o, a = some ⟨b, o, none⟩) (ht : Tks w w.heap.size a l) (hcap : l.length ≤ cap) (p : Nat) (hp : p ≤ l.length) (p' : Int) (e : p' = p) :
    ∃ xv, (∀ W : World, (Instr.slice 24 (.slice a l.length cap) (some (.int .i64 p')) none none).run Tryz.prog W = .ok xv W) ∧ Part w w.heap.size xv (l.drop p) := by
  subst e
  refine ⟨sliced a p l.length cap 2, fun W => ?_, ?_⟩
  · rw [run_slice_l W 24 a l.length cap Tryz.underlying24 .i64 p (by omega) (by omega), show Tryz.prog.elem 24 = 32 from rfl, sizeOf_tok]
    rfl
  · by_cases h0 : l = []
    · subst h0
      obtain rfl : p = 0 := by simpa using hp
      cases a with
      | none => exact ⟨none, cap, by simp [sliced, hc rfl], hc, by rw [List.drop_nil]; exact Tks.nil⟩
      | some ad =>
        by_cases h : cap = 0
        · subst h; exact ⟨some ad, 0, by simp [sliced], (fun e => by cases e), by rw [List.drop_nil]; exact Tks.nil⟩
        · exact ⟨some (ad.add 0), cap, by simp [sliced, h], (fun e => by cases e), by rw [List.drop_nil]; exact Tks.nil⟩
    · obtain ⟨b, o, rfl⟩ := hs h0
      by_cases h : cap = p
      · have hd : l.drop p = [] := List.drop_eq_nil_of_le (by omega)
        refine ⟨some ⟨b, o, none⟩, 0, ?_, (fun e => by cases e), by rw [hd]; exact Tks.nil⟩
        rw [hd]
        simp [sliced, h]
        omega
      · refine ⟨some ⟨b, o + p * 2, none⟩, cap - p, ?_, (fun e => by cases e), ht.drop p⟩
        have : (⟨b, o, none⟩ : Addr).add (p * 2) = ⟨b, o + p * 2, none⟩ := by unfold Addr.add; split <;> simp_all
        rw [List.length_drop]
        simp [sliced, h, this]

/-- How many tokens are reused. -/
def Reused (l : List UInt8) (x : Ed) (p k : Nat) : Prop :=
  p ≤ (T l).length ∧ (p = 0 ∨ ((glue ((T l).take p)).length : Int) < x.s) ∧ (p = (T l).length ∨ x.s ≤ (glue ((T l).take (p + 1))).length) ∧
  Common (T l) (T ((next l x).drop (glue ((T l).take p)).length)) (l.length - x.e) k ∧ Last (T l) (T ((next l x).drop (glue ((T l).take p)).length)) (l.length - x.e) k

theorem Reused.all {l : List UInt8} {x : Ed} {p k : Nat} (h : Reused l x p k) (h0 : 0 ≤ x.s) (h1 : x.s ≤ x.e) (h2 : x.e ≤ l.length) :
    (T l).take p ++ ((T ((next l x).drop (glue ((T l).take p)).length)).take ((T ((next l x).drop (glue ((T l).take p)).length)).length - k) ++ (T l).drop ((T l).length - k)) = T (next l x) ∧
    p + k ≤ (T l).length ∧ p + k ≤ (T (next l x)).length := by
  obtain ⟨g1, g2, _, ⟨g3, g4, g5, g6⟩, _⟩ := h
  have hup := T_update (l := l) (t := L x.t) (s := x.s.toNat) (e := x.e.toNat) (p := p) (k := k) (old := T l) rfl (by omega) (by omega) rfl g5
  have hgl := glue_T _ l (Nat.le_refl _)
  refine ⟨hup.1, apart (T_some _ l (Nat.le_refl _)) g1 g3 ?_, ?_⟩
  · rw [hgl]
    rcases g2 with rfl | g2
    · have : (glue ((T l).take 0)).length = 0 := by simp [glue]
      omega
    · omega
  · have e := hup.2
    unfold next at g4 ⊢
    rw [e, List.length_take, Nat.min_eq_left g1]
    omega
end Go.Proofs.YtbomilleckgalaaGreat.Lx

namespace Go.Proofs.YtbomilleckgalaaGreat.Lx
open Go.RowKit Go.Proofs.YtbomilleckgalaaGreat.Te

/-- The string made of a list, read from an offset on. -/
theorem next_from {l : List UInt8} {z : ByteArray} (h : L z = l) (q : Nat) : L (z.extract q z.size) = l.drop q := by
  rw [drop_is, L_bs, h]

theorem three_cells (w : World) (u1 u2 u3 : Value) (l1 l2 l3 : List Tk) (i : Nat) (x : Value × List Tk) (hx : [(u1, l1), (u2, l2), (u3, l3)][i]? = some x) :
    (w.alloc (.cells #[u1, u2, u3] 24)).drew.cell? ⟨w.heap.size, i, none⟩ = some x.1 := by
  have hb : (w.alloc (.cells #[u1, u2, u3] 24)).drew.heap[w.heap.size]? = some (.cells #[u1, u2, u3] 24) := heap_alloc_new w _
  rw [Lib.cell_of_heap hb]
  match i, hx with
  | 0, hx => cases hx; rfl
  | 1, hx => cases hx; rfl
  | 2, hx => cases hx; rfl

theorem three_joined (u1 u2 u3 : Value) (l1 l2 l3 : List Tk) : joined [(u1, l1), (u2, l2), (u3, l3)] = l1 ++ (l2 ++ l3) := by simp [joined]

theorem apply_next (s : ByteArray) (x : Ed) (a : Option Addr) (w : World) (hf : Fit s.size x) (h : Eds w w.heap.size a [x]) :
    Calls Tryz.prog 24 #[.string s, .slice a 1 1] w fun e w' => ∃ z, e = .returned (.tuple #[.string z, .int .i64 0]) ∧ L z = next (L s) x ∧ Below w.heap.size w w' := by
  have he := hf.errV
  obtain ⟨h1, h2, h3, h4, h5⟩ := hf
  refine (apply_ok s a 1 [x] w (by unfold maxLen; omega) (by unfold maxLen; simp) h he).mono ?_
  rintro e w' ⟨rfl, hb⟩
  exact ⟨bs (next (L s) x), by rw [next_apply]; rfl, L_bs _, hb⟩

set_option maxHeartbeats 2000000 in
set_option maxRecDepth 100000 in
theorem update_ok (s : ByteArray) (v : Value) (x : Ed) (w : World) (hf : Fit s.size x) (hv : Part w w.heap.size v (T (L s))) :
    Calls Tryz.prog 9 #[.string s, v, .agg #[.int .i64 x.s, .int .i64 x.e, .string x.t]] w fun e w' => ∃ v' p k, e = .returned (.tuple #[v', .int .i64 ((p + k : Nat) : Int), .int .i64 0]) ∧ Hid (Reused (L s) x p k) ∧
      Hid (OwnsT w' w.heap.size v' (T (next (L s) x))) ∧ Below w.heap.size w w' := by
  have HF := Lib.hid hf
  have hlen := hf.len
  have hok := hf.ok
  obtain ⟨h0, h1, h2, h3, h4⟩ := hf
  have hlT := T_length _ (L s) (Nat.le_refl _)
  have hgT := glue_T _ (L s) (Nat.le_refl _)
  have hgl := congrArg List.length hgT
  rw [L_len] at hlT hgl
  have hnT := T_length _ (next (L s) x) (Nat.le_refl _)
  obtain ⟨l, hl⟩ : ∃ l, l = T (L s) := ⟨_, rfl⟩
  have KT := Lib.hid (fun W => tokenize_any s W h3)
  unfold Toks at KT
  have HR : Hid (∀ p k, Reused (L s) x p k ↔ p ≤ l.length ∧ (p = 0 ∨ ((glue (l.take p)).length : Int) < x.s) ∧ (p = l.length ∨ x.s ≤ (glue (l.take (p + 1))).length) ∧
      Common l (T ((next (L s) x).drop (glue (l.take p)).length)) (s.size - x.e) k ∧ Last l (T ((next (L s) x).drop (glue (l.take p)).length)) (s.size - x.e) k) := by
    show ∀ p k, _
    intro p k
    unfold Reused
    rw [hl, L_len]
  have HA : Hid (∀ p k, Reused (L s) x p k → l.take p ++ ((T ((next (L s) x).drop (glue (l.take p)).length)).take ((T ((next (L s) x).drop (glue (l.take p)).length)).length - k) ++ l.drop (l.length - k)) = T (next (L s) x) ∧
      p + k ≤ l.length ∧ p + k ≤ (T (next (L s) x)).length) := by
    show ∀ p k, _
    intro p k h
    rw [hl]
    exact h.all h0 h1 (by rw [L_len]; exact h2)
  rw [← hl] at hv hlT hgl KT
  clear hgT hl
  obtain ⟨a, cap, rfl, hc0, ht⟩ := hv
  have HT := Lib.hid ht
  clear ht
  go_enter Tryz.func9, Tryz.ntmps9
  go_wp2_with fail
  have hbx := BoxAt.new w x
  have hb1 : Below w.heap.size w (w.alloc (.cells #[.int .i64 x.s, .int .i64 x.e, .string x.t] 23)) := (Below.refl _ _).alloc (Nat.le_refl _) _
  have HT1 := Lib.hid (HT.out.to hb1)
  have HB1 := Lib.hid hbx
  clear HT hbx
  generalize w.alloc (.cells #[.int .i64 x.s, .int .i64 x.e, .string x.t] 23) = w1 at *
  refine (KT.out w1).mono ?_
  rintro e w2 ⟨v2, rfl, ho2, hb⟩
  have B2 := hb1.trans (hb.mono hb1.size)
  have HT2 := Lib.hid (HT1.out.to hb)
  have HB2 := Lib.hid (HB1.out.to hb)
  have HO2 : Hid (OwnsT w2 w.heap.size v2 l) := ho2.out.lower hb1.size
  clear HT1 HB1 hb1 hb ho2 KT
  obtain ⟨c00, c0, c1, c2⟩ := HB2.out
  have KA := Lib.hid (fun W h => apply_next s x (some ⟨w2.heap.size, 0, none⟩) W HF.out h)
  have hE := eds_one w2 x hok
  have hbA : Below w2.heap.size w2 (w2.alloc (.cells #[.int .i64 x.s, .int .i64 x.e, .string x.t] 23)) := (Below.refl _ _).alloc (Nat.le_refl _) _
  have HEd := Lib.hid hE
  clear hE
  go_wp2_with fail
  change Calls _ _ _ (w2.alloc (.cells #[.int .i64 x.s, .int .i64 x.e, .string x.t] 23)) _
  have HT3 := Lib.hid (HT2.out.to hbA)
  have HB3 := Lib.hid (HB2.out.to hbA)
  have HO3 : Hid (OwnsT _ w.heap.size v2 l) := ownsT_below HO2.out hbA
  have B3 := B2.trans (hbA.mono B2.size)
  clear HT2 HB2 HO2 hbA B2 c00 c0 c1 c2
  generalize w2.alloc (.cells #[.int .i64 x.s, .int .i64 x.e, .string x.t] 23) = w3 at *
  refine (KA.out w3 HEd.out).mono ?_
  rintro e w4 ⟨z, rfl, hz, hb⟩
  have HT4 := Lib.hid (HT3.out.to hb)
  have HB4 := Lib.hid (HB3.out.to hb)
  have HO4 : Hid (OwnsT _ w.heap.size v2 l) := ownsT_below HO3.out hb
  have B4 := B3.trans (hb.mono B3.size)
  have hzs : (z.size : Int) = s.size - (x.e - x.s) + x.t.size := by rw [← hlen, ← hz, L_len]
  have HZ := Lib.hid hz
  clear HT3 HB3 HO3 B3 hb KA HEd hz
  obtain ⟨a2, cap2, rfl, hcap2, hc2, hs2, ht2⟩ := HO4.out.whole
  have H2 := Lib.hid ht2
  have HC2 := Lib.hid hc2
  have HS2 := Lib.hid hs2
  clear hc2 hs2 ht2
  go_wp2_with fail
  refine (same_any l l a cap a2 cap2 w4 (by omega) (by omega) HT4.out H2.out).mono ?_
  rintro e w5 ⟨r, rfl, hr, hb⟩
  obtain rfl : r = true := hr.2 rfl
  have HB5 := Lib.hid (HB4.out.to hb)
  have HO5 : Hid (OwnsT _ w.heap.size (.slice a2 l.length cap2) l) := ownsT_below HO4.out hb
  have H5 := Lib.hid (H2.out.to hb)
  have B5 := B4.trans (hb.mono B4.size)
  clear HT4 HB4 HO4 H2 B4 hb hr
  obtain ⟨c00, c0, c1, c2⟩ := HB5.out
  go_wp2_with fail
  refine (before_any l a2 cap2 x.s w5 (by omega) (by omega) H5.out).mono ?_
  rintro e w6 ⟨p, hp, rfl, hp1, hp2, hb⟩
  have HB6 := Lib.hid (HB5.out.to hb)
  have HO6 : Hid (OwnsT _ w.heap.size (.slice a2 l.length cap2) l) := ownsT_below HO5.out hb
  have H6 := Lib.hid (H5.out.to hb)
  have B6 := B5.trans (hb.mono B5.size)
  clear HB5 HO5 H5 B5 hb c00 c0 c1 c2
  have hq0 : ((glue (l.take p)).length : Int) ≤ x.s := by
    rcases hp1 with rfl | h
    · have : (glue (l.take 0)).length = 0 := by simp [glue]
      omega
    · omega
  have HP : Hid ((p = 0 ∨ ((glue (l.take p)).length : Int) < x.s) ∧ (p = l.length ∨ x.s ≤ (glue (l.take (p + 1))).length)) := ⟨hp1, hp2⟩
  have HRp := Lib.hid (HR.out p)
  have HAp := Lib.hid (HA.out p)
  clear HR HA hp1 hp2
  generalize hq : (glue (l.take p)).length = q at *
  have HQ := Lib.hid hq
  clear hq
  have HN : Hid (L (z.extract q z.size) = (next (L s) x).drop q) := next_from HZ.out q
  have hzx : (z.extract q z.size).size = z.size - q := by simp
  have K7 := Lib.hid (fun W => tokenize_any (z.extract q z.size) W (by omega))
  unfold Toks at K7
  rw [HN.out] at K7
  have hfl := T_length _ ((next (L s) x).drop q) (Nat.le_refl _)
  rw [← HN.out, L_len, hzx, HN.out] at hfl
  generalize T ((next (L s) x).drop q) = f at *
  have hq1 : (q : Int) ≤ z.size := by omega
  clear hzx
  go_wp2_with fail
  refine (K7.out w6).mono ?_
  rintro e w7 ⟨v7, rfl, ho7, hb⟩
  have HB7 := Lib.hid (HB6.out.to hb)
  have H7 := Lib.hid (H6.out.to hb)
  have HF7 : Hid (OwnsT _ w.heap.size v7 f) := ho7.out.lower B6.size
  have B7 := B6.trans (hb.mono B6.size)
  clear HB6 HO6 H6 B6 hb ho7 K7
  obtain ⟨a3, cap3, rfl, hcap3, hc3, hs3, ht3⟩ := HF7.out.whole
  have H3 := Lib.hid ht3
  have HC3 := Lib.hid hc3
  clear hc3 hs3 ht3
  obtain ⟨c00, c0, c1, c2⟩ := HB7.out
  go_wp2_with fail
  refine (tail_any l f a2 cap2 a3 cap3 ((s.size : Int) - x.e) w7 (by omega) (by omega) (by omega) (by omega) (by omega) H7.out H3.out).mono ?_
  rintro e w8 ⟨k, rfl, hcom, hlast, hb⟩
  have HRD := Lib.hid ((HRp.out k).2 ⟨hp, HP.out.1, HP.out.2, hcom, hlast⟩)
  have HALL := Lib.hid (HAp.out k HRD.out)
  have hk1 := hcom.1
  have hk2 := hcom.2.1
  have hpk := HALL.out.2.1
  have H8 := Lib.hid (H7.out.to hb)
  have H38 := Lib.hid (H3.out.to hb)
  have B8 := B7.trans (hb.mono B7.size)
  clear HB7 H7 H3 HF7 B7 hb HRp HAp hcom hlast HP c00 c0 c1 c2
  obtain ⟨x1, hx1, q1⟩ := part_head HC2.out H8.out hcap2 p hp p rfl
  obtain ⟨x2, hx2, q2⟩ := part_head HC3.out H38.out hcap3 (f.length - k) (by omega) ((f.length : Int) - k) (by omega)
  obtain ⟨x3, hx3, q3⟩ := part_tail HC2.out HS2.out H8.out hcap2 (l.length - k) (by omega) ((l.length : Int) - k) (by omega)
  have hw1 : IntKind.i64.wrap ((f.length : Int) - k) = (f.length : Int) - k := by rw [IntKind.wrap_i64]; omega
  have hw2 : IntKind.i64.wrap ((l.length : Int) - k) = (l.length : Int) - k := by rw [IntKind.wrap_i64]; omega
  have HP1 := Lib.hid q1
  have HP2 := Lib.hid q2
  have HP3 := Lib.hid q3
  obtain ⟨y1, d1, e1, _, _⟩ := q1
  obtain ⟨y2, d2, e2, _, _⟩ := q2
  obtain ⟨y3, d3, e3, _, _⟩ := q3
  generalize (l.take p).length = n1 at e1
  generalize (f.take (f.length - k)).length = n2 at e2
  generalize (l.drop (l.length - k)).length = n3 at e3
  subst e1 e2 e3
  go_wp2_with fail
  go_still_tail 15, (by kernel_rfl)
  change wpList _ _ _ _ _ w8.drew
  go_wp2_with fail
  change Calls _ _ _ (w8.alloc (.cells #[.slice y1 n1 d1, .slice y2 n2 d2, .slice y3 n3 d3] 24)).drew _
  have hb : Below w8.heap.size w8 (w8.alloc (.cells #[.slice y1 n1 d1, .slice y2 n2 d2, .slice y3 n3 d3] 24)).drew := below_drewN' ((Below.refl _ _).alloc (Nat.le_refl _) _) 1
  have hcs := three_cells w8 (.slice y1 n1 d1) (.slice y2 n2 d2) (.slice y3 n3 d3) (l.take p) (f.take (f.length - k)) (l.drop (l.length - k))
  have hlt : w8.heap.size < (w8.alloc (.cells #[.slice y1 n1 d1, .slice y2 n2 d2, .slice y3 n3 d3] 24)).drew.heap.size := by simp
  have hR1 := HP1.out.to hb
  have hR2 := HP2.out.to hb
  have hR3 := HP3.out.to hb
  have B9 := B8.trans (hb.mono B8.size)
  generalize (w8.alloc (.cells #[.slice y1 n1 d1, .slice y2 n2 d2, .slice y3 n3 d3] 24)).drew = w9 at *
  have hj := three_joined (.slice y1 n1 d1) (.slice y2 n2 d2) (.slice y3 n3 d3) (l.take p) (f.take (f.length - k)) (l.drop (l.length - k))
  rw [HALL.out.1] at hj
  have KC := concat_any [(.slice y1 n1 d1, l.take p), (.slice y2 n2 d2, f.take (f.length - k)), (.slice y3 n3 d3, l.drop (l.length - k))] w8.heap.size w9 (by simp) (by rw [hj]; omega) hlt hcs (by
    intro x hx
    simp only [List.mem_cons, List.not_mem_nil, or_false] at hx
    rcases hx with rfl | rfl | rfl
    · exact hR1
    · exact hR2
    · exact hR3)
  rw [hj] at KC
  have g1 : (p : Int) + (k : Int) ≤ 2000 := by omega
  clear hR1 hR2 hR3 hcs hj HP1 HP2 HP3 hb hlt hx1 hx2 hx3
  refine KC.mono ?_
  rintro e w10 ⟨v', rfl, hown, hb⟩
  have B10 := B9.trans (hb.mono B9.size)
  have HOW : Hid (OwnsT w10 w.heap.size v' (T (next (L s) x))) := hown.out.lower B9.size
  clear KC hown hb
  go_wp2_with fail
  go_ret3
  exact ⟨v', p, k, by simp, HRD.out, HOW, B10⟩
end Go.Proofs.YtbomilleckgalaaGreat.Lx

namespace Go.Proofs.YtbomilleckgalaaGreat.Lx
open Go.RowKit Go.Proofs.YtbomilleckgalaaGreat.Te

set_option maxHeartbeats 1000000 in
set_option maxRecDepth 100000 in
theorem update_long (s : ByteArray) (v : Value) (x : Ed) (w : World) (hs : 2000 < s.size) (hmax : s.size ≤ maxLen) :
    Calls Tryz.prog 9 #[.string s, v, .agg #[.int .i64 x.s, .int .i64 x.e, .string x.t]] w fun e w' => e = .returned (.tuple #[.slice none 0 0, .int .i64 0, .int .i64 2]) ∧ Below w.heap.size w w' := by
  have K := Lib.hid (fun W => tokenize_long s W hs hmax)
  clear hs hmax
  go_enter Tryz.func9, Tryz.ntmps9
  go_wp2_with fail
  have hb : Below w.heap.size w (w.alloc (.cells #[.int .i64 x.s, .int .i64 x.e, .string x.t] 23)) := (Below.refl _ _).alloc (Nat.le_refl _) _
  change Calls _ _ _ (w.alloc (.cells #[.int .i64 x.s, .int .i64 x.e, .string x.t] 23)) _
  generalize w.alloc (.cells #[.int .i64 x.s, .int .i64 x.e, .string x.t] 23) = w1 at *
  refine (K.out w1).mono ?_
  rintro e w2 ⟨rfl, rfl⟩
  go_wp2_with fail
  go_ret3
  exact ⟨rfl, hb⟩

set_option maxHeartbeats 1000000 in
set_option maxRecDepth 100000 in
theorem update_bad (s : ByteArray) (v : Value) (x : Ed) (w : World) (hs : s.size ≤ 2000) (hok : x.ok) (he : errV s.size [x] ≠ 0) :
    Calls Tryz.prog 9 #[.string s, v, .agg #[.int .i64 x.s, .int .i64 x.e, .string x.t]] w fun e w' => e = .returned (.tuple #[.slice none 0 0, .int .i64 0, .int .i64 (errV s.size [x])]) ∧ Below w.heap.size w w' := by
  have KT := Lib.hid (fun W => tokenize_any s W hs)
  unfold Toks at KT
  have KA := Lib.hid (fun W a h => apply_bad s a 1 [x] W (by unfold maxLen; omega) (by unfold maxLen; simp) h he)
  generalize errV s.size [x] = er at *
  have hv1 : (er != 0) = true := by simpa using he
  clear he
  go_enter Tryz.func9, Tryz.ntmps9
  go_wp2_with fail
  have hbx := BoxAt.new w x
  have hb1 : Below w.heap.size w (w.alloc (.cells #[.int .i64 x.s, .int .i64 x.e, .string x.t] 23)) := (Below.refl _ _).alloc (Nat.le_refl _) _
  have HB1 := Lib.hid hbx
  clear hbx
  change Calls _ _ _ (w.alloc (.cells #[.int .i64 x.s, .int .i64 x.e, .string x.t] 23)) _
  generalize w.alloc (.cells #[.int .i64 x.s, .int .i64 x.e, .string x.t] 23) = w1 at *
  refine (KT.out w1).mono ?_
  rintro e w2 ⟨v2, rfl, _, hb⟩
  have B2 := hb1.trans (hb.mono hb1.size)
  have HB2 := Lib.hid (HB1.out.to hb)
  clear HB1 hb1 hb KT
  obtain ⟨c00, c0, c1, c2⟩ := HB2.out
  have hE := eds_one w2 x hok
  have hbA : Below w2.heap.size w2 (w2.alloc (.cells #[.int .i64 x.s, .int .i64 x.e, .string x.t] 23)) := (Below.refl _ _).alloc (Nat.le_refl _) _
  have HEd := Lib.hid hE
  clear hE
  go_wp2_with fail
  change Calls _ _ _ (w2.alloc (.cells #[.int .i64 x.s, .int .i64 x.e, .string x.t] 23)) _
  have B3 := B2.trans (hbA.mono B2.size)
  clear HB2 hbA B2 c00 c0 c1 c2
  generalize w2.alloc (.cells #[.int .i64 x.s, .int .i64 x.e, .string x.t] 23) = w3 at *
  refine (KA.out w3 _ HEd.out).mono ?_
  rintro e w4 ⟨rfl, hb⟩
  have B4 := B3.trans (hb.mono B3.size)
  clear B3 hb KA HEd
  go_wp2_with fail
  go_ret3
  exact ⟨rfl, B4⟩

set_option maxHeartbeats 1000000 in
set_option maxRecDepth 100000 in
theorem update_other (s : ByteArray) (v : Value) (m : List Tk) (x : Ed) (w : World) (hf : Fit s.size x) (hv : Part w w.heap.size v m) (hm : m.length ≤ 9223372036854775807) (hne : m ≠ T (L s)) :
    Calls Tryz.prog 9 #[.string s, v, .agg #[.int .i64 x.s, .int .i64 x.e, .string x.t]] w fun e w' => e = .returned (.tuple #[.slice none 0 0, .int .i64 0, .int .i64 3]) ∧ Below w.heap.size w w' := by
  have HF := Lib.hid hf
  have hok := hf.ok
  obtain ⟨h0, h1, h2, h3, h4⟩ := hf
  have KT := Lib.hid (fun W => tokenize_any s W h3)
  unfold Toks at KT
  have hlT := T_length _ (L s) (Nat.le_refl _)
  rw [L_len] at hlT
  have HNE := Lib.hid hne
  generalize T (L s) = l at *
  obtain ⟨a, cap, rfl, hc0, ht⟩ := hv
  have HT := Lib.hid ht
  clear ht hne
  go_enter Tryz.func9, Tryz.ntmps9
  go_wp2_with fail
  have hbx := BoxAt.new w x
  have hb1 : Below w.heap.size w (w.alloc (.cells #[.int .i64 x.s, .int .i64 x.e, .string x.t] 23)) := (Below.refl _ _).alloc (Nat.le_refl _) _
  have HB1 := Lib.hid hbx
  have HT1 := Lib.hid (HT.out.to hb1)
  clear hbx HT
  change Calls _ _ _ (w.alloc (.cells #[.int .i64 x.s, .int .i64 x.e, .string x.t] 23)) _
  generalize w.alloc (.cells #[.int .i64 x.s, .int .i64 x.e, .string x.t] 23) = w1 at *
  refine (KT.out w1).mono ?_
  rintro e w2 ⟨v2, rfl, ho2, hb⟩
  have B2 := hb1.trans (hb.mono hb1.size)
  have HB2 := Lib.hid (HB1.out.to hb)
  have HT2 := Lib.hid (HT1.out.to hb)
  have HO2 : Hid (OwnsT w2 w.heap.size v2 l) := ho2.out.lower hb1.size
  clear HB1 hb1 hb KT HT1 ho2
  obtain ⟨c00, c0, c1, c2⟩ := HB2.out
  have KA := Lib.hid (fun W h => apply_next s x (some ⟨w2.heap.size, 0, none⟩) W HF.out h)
  have hE := eds_one w2 x hok
  have hbA : Below w2.heap.size w2 (w2.alloc (.cells #[.int .i64 x.s, .int .i64 x.e, .string x.t] 23)) := (Below.refl _ _).alloc (Nat.le_refl _) _
  have HEd := Lib.hid hE
  clear hE
  go_wp2_with fail
  change Calls _ _ _ (w2.alloc (.cells #[.int .i64 x.s, .int .i64 x.e, .string x.t] 23)) _
  have B3 := B2.trans (hbA.mono B2.size)
  have HT3 := Lib.hid (HT2.out.to hbA)
  have HO3 : Hid (OwnsT _ w.heap.size v2 l) := ownsT_below HO2.out hbA
  clear HB2 hbA B2 c00 c0 c1 c2 HT2 HO2
  generalize w2.alloc (.cells #[.int .i64 x.s, .int .i64 x.e, .string x.t] 23) = w3 at *
  refine (KA.out w3 HEd.out).mono ?_
  rintro e w4 ⟨z, rfl, _, hb⟩
  have B4 := B3.trans (hb.mono B3.size)
  have HT4 := Lib.hid (HT3.out.to hb)
  have HO4 : Hid (OwnsT _ w.heap.size v2 l) := ownsT_below HO3.out hb
  clear B3 hb KA HEd HT3 HO3
  obtain ⟨a2, cap2, rfl, _, _, _, ht2⟩ := HO4.out.whole
  have H2 := Lib.hid ht2
  clear ht2
  go_wp2_with fail
  refine (same_any m l a cap a2 cap2 w4 hm (by omega) HT4.out H2.out).mono ?_
  rintro e w5 ⟨r, rfl, hr, hb⟩
  have B5 := B4.trans (hb.mono B4.size)
  obtain rfl : r = false := by
    cases r with
    | false => rfl
    | true => exact absurd (hr.1 rfl) HNE.out
  clear B4 hb hr HT4 HO4 H2
  go_wp2_with fail
  go_ret3
  exact ⟨rfl, B5⟩
end Go.Proofs.YtbomilleckgalaaGreat.Lx

namespace Go.Proofs.YtbomilleckgalaaGreat.Lx
open Go.RowKit Go.Proofs.YtbomilleckgalaaGreat.Te

/-- Where token number i of a list starts. -/
def at0 (t : List Tk) (i : Nat) : Nat := (glue (t.take i)).length

theorem at0_drop (t : List Tk) (i : Nat) : at0 t i + (glue (t.drop i)).length = (glue t).length := (glue_split t i).symm

theorem at0_mono (t : List Tk) {i j : Nat} (h : i ≤ j) : at0 t i ≤ at0 t j := by
  have := glue_split (t.take j) i
  rw [List.take_take, Nat.min_eq_left h] at this
  unfold at0
  omega

theorem at0_lt {t : List Tk} (hn : ∀ x ∈ t, x.2 ≠ []) {i j : Nat} (h : i < j) (hi : i < t.length) : at0 t i < at0 t j := by
  have := glue_split (t.take j) i
  rw [List.take_take, Nat.min_eq_left (Nat.le_of_lt h)] at this
  have hp : 1 ≤ (glue ((t.take j).drop i)).length := by
    refine glue_pos ?_ fun x hx => hn x (List.mem_of_mem_take (List.mem_of_mem_drop hx))
    intro e
    have := congrArg List.length e
    rw [List.length_drop, List.length_take, List.length_nil] at this
    omega
  unfold at0
  omega

theorem glue_drop_T (l : List UInt8) (i : Nat) : glue ((T l).drop i) = l.drop (at0 (T l) i) := by
  have h : glue (T l) = glue ((T l).take i) ++ glue ((T l).drop i) := by rw [← glue_append, List.take_append_drop]
  rw [glue_T _ l (Nat.le_refl _)] at h
  have e := congrArg (fun z => List.drop (glue ((T l).take i)).length z) h
  simp only [List.drop_left] at e
  exact e.symm

/-- The boundary i of the old tokens is a start of a new token, too, and lies behind the edit. -/
def Hit (l : List UInt8) (x : Ed) (i : Nat) : Prop :=
  x.e ≤ at0 (T l) i ∧ ∃ j, j < (T (next l x)).length ∧ (at0 (T (next l x)) j : Int) = at0 (T l) i + ((next l x).length - l.length)

section
variable {l : List UInt8} {x : Ed} {p k : Nat}

theorem lead_iff (h : Reused l x p k) {i : Nat} (hi : i < (T l).length) : (at0 (T l) (i + 1) : Int) < x.s ↔ i < p := by
  obtain ⟨h1, h2, h3, _, _⟩ := h
  constructor
  · intro g
    rcases Nat.lt_or_ge i p with hlt | hge
    · exact hlt
    · rcases h3 with h3 | h3
      · omega
      · have := at0_mono (T l) (i := p + 1) (j := i + 1) (by omega)
        unfold at0 at this g
        omega
  · intro g
    rcases h2 with h2 | h2
    · omega
    · have := at0_mono (T l) (i := i + 1) (j := p) (by omega)
      unfold at0 at this ⊢
      omega

theorem next_len (h0 : 0 ≤ x.s) (h1 : x.s ≤ x.e) (h2 : x.e ≤ l.length) : ((next l x).length : Int) = x.s + (L x.t).length + (l.length - x.e) := by
  unfold next
  rw [List.length_append, List.length_append, List.length_take, List.length_drop]
  omega

theorem next_drop (h0 : 0 ≤ x.s) (h1 : x.s ≤ x.e) (h2 : x.e ≤ l.length) {a b : Nat} (ha : x.e ≤ a) (hb : (b : Int) = a + ((next l x).length - l.length)) : (next l x).drop b = l.drop a := by
  rw [next_len h0 h1 h2] at hb
  obtain ⟨d, hd⟩ : ∃ d : Nat, a = x.e.toNat + d := ⟨a - x.e.toNat, by omega⟩
  have eb : b = x.s.toNat + ((L x.t).length + d) := by omega
  subst hd eb
  have e1 : (next l x).drop x.s.toNat = L x.t ++ l.drop x.e.toNat := by
    unfold next
    rw [List.drop_append_of_le_length (by rw [List.length_take]; omega), List.drop_eq_nil_of_le (by rw [List.length_take]; omega), List.nil_append]
  have e2 : (L x.t ++ l.drop x.e.toNat).drop (L x.t).length = l.drop x.e.toNat := List.drop_left
  rw [← List.drop_drop (j := x.s.toNat), e1, ← List.drop_drop (j := (L x.t).length), e2, List.drop_drop]

theorem fresh_is (h : Reused l x p k) (h0 : 0 ≤ x.s) (h1 : x.s ≤ x.e) (h2 : x.e ≤ l.length) : T (next l x) = (T l).take p ++ T ((next l x).drop (at0 (T l) p)) := by
  obtain ⟨g1, g2, _, _, _⟩ := h
  have := T_keep (b := l.drop x.s.toNat) (L x.t ++ l.drop x.e.toNat) ((T l).drop p) ((T l).take p) (l.take x.s.toNat) (by rw [List.take_append_drop, List.take_append_drop]) (by
    rcases g2 with rfl | g2
    · left; rw [List.take_zero]
    · right; rw [List.length_take]; omega)
  exact this

theorem hit_le (h : Reused l x p k) (h0 : 0 ≤ x.s) (h1 : x.s ≤ x.e) (h2 : x.e ≤ l.length) {i : Nat} (hi : i < (T l).length) (hit : Hit l x i) : (T l).length - k ≤ i := by
  obtain ⟨he, j, hj, hat⟩ := hit
  have hfr := fresh_is h h0 h1 h2
  obtain ⟨g1, g2, g3, ⟨c1, c2, c3, c4⟩, hlast⟩ := h
  have hsame : (T l).drop i = (T (next l x)).drop j := by
    have e1 := glue_drop_T l i
    have e2 := glue_drop_T (next l x) j
    rw [next_drop h0 h1 h2 he hat, ← e1] at e2
    have r1 := T_resumes i l
    have r2 := T_resumes j (next l x)
    rw [← r1, ← r2, e2]
  have hq : at0 (T l) p ≤ x.s := by
    rcases g2 with rfl | g2
    · have : at0 (T l) 0 = 0 := by simp [at0, glue]
      omega
    · unfold at0; omega
  have hpj : p ≤ j := by
    rcases Nat.lt_or_ge j p with hlt | hge
    · exfalso
      have e : at0 (T (next l x)) p = at0 (T l) p := by
        unfold at0
        rw [hfr, List.take_append_of_le_length (by rw [List.length_take]; omega), List.take_take, Nat.min_self]
      have h3 := at0_lt (t := T (next l x)) (T_some _ _ (Nat.le_refl _)) hlt hj
      rw [next_len h0 h1 h2] at hat
      omega
    · exact hge
  generalize hf : T ((next l x).drop (at0 (T l) p)) = f at *
  have hf2 : T ((next l x).drop (glue ((T l).take p)).length) = f := hf
  rw [hf2] at c2 c3 hlast
  have hml : (T (next l x)).length = p + f.length := by rw [hfr, List.length_append, List.length_take]; omega
  have hfd : (T l).drop i = f.drop (j - p) := by
    rw [hsame, hfr, List.drop_append, List.drop_eq_nil_of_le (by rw [List.length_take]; omega), List.nil_append, List.length_take, Nat.min_eq_left g1]
  have hlen := congrArg List.length hfd
  rw [List.length_drop, List.length_drop] at hlen
  rcases Nat.lt_or_ge i ((T l).length - k) with hlt | hge
  · exfalso
    have hd : ∀ m, k < m → m ≤ (T l).length - i → (T l).drop ((T l).length - m) = f.drop (f.length - m) := by
      intro m _ hm
      have := congrArg (List.drop ((T l).length - m - i)) hfd
      rw [List.drop_drop, List.drop_drop] at this
      rw [show i + ((T l).length - m - i) = (T l).length - m from by omega, show j - p + ((T l).length - m - i) = f.length - m from by omega] at this
      exact this
    rcases hlast with h | h | h | h
    · omega
    · omega
    · have e1 := at0_drop (T l) ((T l).length - (k + 1))
      have e2 := at0_mono (T l) (i := i) (j := (T l).length - (k + 1)) (by omega)
      rw [glue_T _ l (Nat.le_refl _)] at e1
      omega
    · exact h (hd (k + 1) (by omega) (by omega))
  · exact hge

theorem hit_at (h : Reused l x p k) (h0 : 0 ≤ x.s) (h1 : x.s ≤ x.e) (h2 : x.e ≤ l.length) (hk : 0 < k) : Hit l x ((T l).length - k) := by
  have hfr := fresh_is h h0 h1 h2
  obtain ⟨g1, g2, g3, ⟨c1, c2, c3, c4⟩, _⟩ := h
  have e1 := at0_drop (T l) ((T l).length - k)
  rw [glue_T _ l (Nat.le_refl _)] at e1
  refine ⟨by omega, (T (next l x)).length - k, ?_, ?_⟩
  · have hml := congrArg List.length hfr
    rw [List.length_append] at hml
    have e : at0 (T l) p = (glue ((T l).take p)).length := rfl
    rw [e] at hml
    omega
  · have e2 := at0_drop (T (next l x)) ((T (next l x)).length - k)
    rw [glue_T _ (next l x) (Nat.le_refl _)] at e2
    have e3 : (T (next l x)).drop ((T (next l x)).length - k) = (T l).drop ((T l).length - k) := by
      have e : at0 (T l) p = (glue ((T l).take p)).length := rfl
      rw [c3]
      rw [e] at hfr
      generalize T ((next l x).drop (glue ((T l).take p)).length) = f at *
      rw [hfr, List.length_append, List.drop_append, List.drop_eq_nil_of_le (by omega), List.nil_append]
      congr 1
      omega
    rw [e3] at e2
    omega
end
end Go.Proofs.YtbomilleckgalaaGreat.Lx
