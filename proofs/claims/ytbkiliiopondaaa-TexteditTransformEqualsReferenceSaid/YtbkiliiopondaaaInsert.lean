/-
  merger.insertLeft and merger.insertRight by their contracts.
-/
import Derived.Test.YtbkiliiopondaaaMerger
import Derived.Deep.DeepCutAuto
namespace Go.Proofs.Ytbkiliiopondaaa
open Go.RowKit

theorem piece_step {t : ByteArray} {m : Nat} {ll : Int} (h : m < t.size) : (traceFrom ll t.data.toList).take (m + 1) = (traceFrom ll t.data.toList).take m ++ [⟨t[m], ll + m⟩] := by
  have h1 : (traceFrom ll t.data.toList)[m]? = some ⟨t[m], ll + m⟩ := by
    have hl : m < (traceFrom ll t.data.toList).length := by rw [trace_length, Array.length_toList]; exact h
    have hx : (traceFrom ll t.data.toList)[m]? = some ((traceFrom ll t.data.toList)[m]) := List.getElem?_eq_getElem hl
    obtain ⟨q1, q2⟩ := trace_at hx
    rw [hx]
    have q3 := (str_at t m h).symm.trans q2
    simp only [Option.some.injEq] at q3 ⊢
    cases hc : (traceFrom ll t.data.toList)[m] with
    | mk v o => rw [hc] at q1 q3; simp only at q1 q3; rw [q1, q3]
  rw [List.take_add_one, h1]; rfl

set_option maxHeartbeats 2000000 in
set_option maxRecDepth 100000 in
theorem left_any (B bm : Nat) (fl fr : List Tb) (ll rl : Int) (t : ByteArray) (w : World) (h : Hid (Mg w B bm fl fr ll rl)) (h1 : fl.length + t.size ≤ 1000000000) (h2 : fr.length + t.size ≤ 1000000000) (hll0 : 0 ≤ ll) (hll : ll + t.size ≤ 1000000000) (hBw : B ≤ w.heap.size) :
    Calls Try.prog 42 #[.pointer (some ⟨bm, 0, none⟩), .string t] w fun e w' => e = .returned (.tuple #[]) ∧ Hid (Mg w' B bm (fl ++ traceFrom ll t.data.toList) (fr ++ insT t) (ll + t.size) rl) ∧ Below B w w' ∧ Hid (Lib.OthersKept 71 (some bm) w w') := by
  obtain ⟨i0, hi, hz0, hz1, hz2⟩ := info_parts info_tb
  go_enter Try.func42, Try.ntmps42
  go_wp2_with fail
  go_loopw [7] (fun i wr => ∃ (m : Nat) (fl' fr' : List Tb), m ≤ t.size ∧ i = .int .i64 m ∧ fl'.length ≤ fl.length + m ∧ fr'.length ≤ fr.length + m ∧ Hid (fl' = fl ++ (traceFrom ll t.data.toList).take m) ∧ Hid (fr' = fr ++ (insT t).take m) ∧ Hid (Mg wr B bm fl' fr' (ll + m) rl) ∧ Below B w wr ∧ Hid (Lib.OthersKept 71 (some bm) w wr))
    (fun i _ => t.size - (intOf i).toNat)
  case atStart => exact ⟨0, fl, fr, Nat.zero_le _, rfl, Nat.le_refl _, Nat.le_refl _, by show _ = _; simp, by show _ = _; simp, by simpa using h, Below.refl _ _, Lib.OthersKept.refl _ _ _⟩
  case round =>
    clear h
    obtain ⟨m, fl', fr', hm, rfl, hfl, hfr, e1, e2, hM, hb, hk⟩ := hrel
    have hzw := hb.size
    by_cases hmt : m < t.size
    · have e3 : Hid (fl' ++ [⟨t[m], ll + m⟩] = fl ++ (traceFrom ll t.data.toList).take (m + 1)) := by show _ = _; rw [e1.out, piece_step hmt, List.append_assoc]
      have e4 : Hid (fr' ++ [⟨t[m], -1⟩] = fr ++ (insT t).take (m + 1)) := by show _ = _; rw [e2.out, ins_step hmt, List.append_assoc]
      have hm0 : (0 : Int) ≤ (m : Int) := by omega
      have hm1 : (m : Int) < (t.size : Int) := by omega
      clear e1 e2
      obtain ⟨v1, v2, hbk, ho1, ho2, hne, hB⟩ := hM.out
      obtain ⟨c0, c1, c2, c3, f0, f1, f2, f3⟩ := mg_cells hbk
      have ca0 := fun o => (mg_alloc hbk o).1
      have HBK := Lib.hid hbk
      have HO1 := Lib.hid ho1
      have HO2 := Lib.hid ho2
      have HNE := Lib.hid hne
      clear hbk ho1 ho2 hne hM
      go_upto_region 3 with (fail)
      go_cut [] (fun W => Hid (Mg W B bm (fl' ++ [⟨t[m], ll + m⟩]) fr' (ll + m) rl) ∧ Below B w W ∧ Hid (Lib.OthersKept 71 (some bm) w W) ∧ wr.heap.size ≤ W.heap.size)
      case first =>
        go_region_law (refine step_append_lies _ (by rfl) _ _ _ (by rfl) B 71 i0 _ 2 16 Try.underlying56 hi hz0 hz1 hz2 rfl (by omega) _ _ _ (by rfl) ((HO1.out.drew).alloc _) ⟨wr.heap.size, 0, none⟩ 1 1 (Tb.cells ⟨t[m], ll + m⟩) (by rfl) (by rfl) (World.news_of_block (heap_alloc_new _ _)) (by simp [Value.oneCell', Tb.cells]) (by omega) (by unfold maxLen; omega) (by omega) (by simp; omega) (wr.heap.size + 1) (by simp) ?_; intro gg cap w3 hown3 hgrow3 hat hlt3; obtain ⟨d0, d1, d2, d3, g0, g1, g2, g3⟩ := mg_cells (mg_kept (.inr rfl) HO1.out HBK.out hgrow3))
        all_goals
          go_wp2
          go_meet
          case rel =>
            obtain ⟨q1, q2, q3⟩ := mg_push0 (.inr rfl) HBK.out HO1.out HO2.out HNE.out hB hgrow3 hown3 hat
            exact ⟨q1, hb.trans q2, hk.out.trans q3, q2.size⟩
      case rest =>
        clear c0 c1 c2 c3 f0 f1 f2 f3 ca0 HBK HO1 HO2 HNE hb hk
        obtain ⟨hM, hb, hk, hz3⟩ := hcut
        obtain ⟨v1, v2, hbk, ho1, ho2, hne, hB⟩ := hM.out
        obtain ⟨c0, c1, c2, c3, f0, f1, f2, f3⟩ := mg_cells hbk
        have ca1 := fun o => (mg_alloc hbk o).2
        have HBK := Lib.hid hbk
        have HO1 := Lib.hid ho1
        have HO2 := Lib.hid ho2
        have HNE := Lib.hid hne
        clear hbk ho1 ho2 hne hM
        go_upto_region 4 with (fail)
        go_cut [] (fun W => Hid (Mg W B bm (fl' ++ [⟨t[m], ll + m⟩]) (fr' ++ [⟨t[m], -1⟩]) (ll + m) rl) ∧ Below B w W ∧ Hid (Lib.OthersKept 71 (some bm) w W) ∧ wr.heap.size ≤ W.heap.size)
        case first =>
          go_region_law (refine step_append_lies _ (by rfl) _ _ _ (by rfl) B 71 i0 _ 2 16 Try.underlying56 hi hz0 hz1 hz2 rfl (by omega) _ _ _ (by rfl) ((HO2.out.drew).alloc _) ⟨wc.heap.size, 0, none⟩ 1 1 (Tb.cells ⟨t[m], -1⟩) (by rfl) (by rfl) (World.news_of_block (heap_alloc_new _ _)) (by simp [Value.oneCell', Tb.cells]) (by omega) (by unfold maxLen; omega) (by omega) (by simp; omega) (wc.heap.size + 1) (by simp) ?_; intro gg cap w3 hown3 hgrow3 hat hlt3; obtain ⟨d0, d1, d2, d3, g0, g1, g2, g3⟩ := mg_cells (mg_kept (.inr rfl) HO2.out HBK.out hgrow3))
          all_goals
            go_wp2
            go_meet
            case rel =>
              obtain ⟨q1, q2, q3⟩ := mg_push1 (.inr rfl) HBK.out HO1.out HO2.out HNE.out hB hgrow3 hown3 hat
              exact ⟨q1, hb.trans q2, hk.out.trans q3, Nat.le_trans hz3 q2.size⟩
        case rest =>
          clear c0 c1 c2 c3 f0 f1 f2 f3 ca1 HBK HO1 HO2 HNE hb hk hz3
          obtain ⟨hM, hb, hk, hz3⟩ := hcut
          obtain ⟨v1, v2, hbk, _⟩ := hM.out
          obtain ⟨c0, c1, c2, c3, f0, f1, f2, f3⟩ := mg_cells hbk
          clear hbk
          go_wp2_with fail
          go_roundw
          case rel =>
            obtain ⟨q1, q2, q3⟩ := mg_count hM.out (ll + (m + 1 : Nat))
            have e5 : ll + (m : Int) + 1 = ll + ((m + 1 : Nat) : Int) := by omega
            exact ⟨m + 1, _, _, by omega, by go_num, by simp; omega, by simp; omega, e3, e4, by rw [e5]; exact q1, by rw [e5]; exact hb.trans q2, by rw [e5]; exact hk.out.trans q3⟩
          case measure => simp [intOf]; omega
    · have e3 : Hid (Mg wr B bm (fl ++ traceFrom ll t.data.toList) (fr ++ insT t) (ll + t.size) rl) := by
        obtain rfl : m = t.size := by omega
        have h1 := hM.out
        rw [e1.out, e2.out, List.take_of_length_le (by rw [trace_length, Array.length_toList]; exact Nat.le_refl _), List.take_of_length_le (by rw [insT_length]; exact Nat.le_refl _)] at h1
        exact h1
      clear hM e1 e2
      go_wp2_with fail
      go_end0
      exact ⟨rfl, e3, hb, hk⟩
end Go.Proofs.Ytbkiliiopondaaa
