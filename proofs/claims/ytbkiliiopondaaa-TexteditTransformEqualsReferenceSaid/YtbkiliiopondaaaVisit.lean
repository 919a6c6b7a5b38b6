/-
  merger.visit by its contract.
-/
import Derived.Test.YtbkiliiopondaaaInsert
namespace Go.Proofs.Ytbkiliiopondaaa
open Go.RowKit

set_option maxHeartbeats 2000000 in
set_option maxRecDepth 100000 in
theorem visit_keep (B bm : Nat) (fl fr : List Tb) (ll rl : Int) (c : UInt8) (w : World) (h : Hid (Mg w B bm fl fr ll rl)) (h1 : fl.length ≤ 1000000000) (h2 : fr.length ≤ 1000000000) (hll0 : 0 ≤ ll) (hll : ll ≤ 1000000000) (hrl0 : 0 ≤ rl) (hrl : rl ≤ 1000000000) (hBw : B ≤ w.heap.size) :
    Calls Try.prog 44 #[.pointer (some ⟨bm, 0, none⟩), .int .u8 c.toNat, .bool false, .bool false] w fun e w' => e = .returned (.tuple #[]) ∧ Hid (Mg w' B bm (fl ++ [⟨c, ll⟩]) (fr ++ [⟨c, rl⟩]) (ll + 1) (rl + 1)) ∧ Below B w w' ∧ Hid (Lib.OthersKept 71 (some bm) w w') := by
  obtain ⟨i0, hi, hz0, hz1, hz2⟩ := info_parts info_tb
  obtain ⟨v1, v2, hbk, ho1, ho2, hne, hB⟩ := h.out
  obtain ⟨c0, c1, c2, c3, f0, f1, f2, f3⟩ := mg_cells hbk
  have ca0 := fun o => (mg_alloc hbk o).1
  have HBK := Lib.hid hbk
  have HO1 := Lib.hid ho1
  have HO2 := Lib.hid ho2
  have HNE := Lib.hid hne
  clear hbk ho1 ho2 hne h
  go_enter Try.func44, Try.ntmps44
  go_upto_region 1 with (fail)
  go_cut [] (fun W => Hid (Mg W B bm (fl ++ [⟨c, ll⟩]) fr ll rl) ∧ Below B w W ∧ Hid (Lib.OthersKept 71 (some bm) w W) ∧ w.heap.size ≤ W.heap.size)
  case first =>
    go_region_law (refine step_append_lies _ (by rfl) _ _ _ (by rfl) B 71 i0 _ 2 16 Try.underlying56 hi hz0 hz1 hz2 rfl (by omega) _ _ _ (by rfl) ((HO1.out.drew).alloc _) ⟨w.heap.size, 0, none⟩ 1 1 (Tb.cells ⟨c, ll⟩) (by rfl) (by rfl) (World.news_of_block (heap_alloc_new _ _)) (by simp [Value.oneCell', Tb.cells]) (by omega) (by unfold maxLen; omega) (by omega) (by simp; omega) (w.heap.size + 1) (by simp) ?_; intro gg cap w3 hown3 hgrow3 hat hlt3; obtain ⟨d0, d1, d2, d3, g0, g1, g2, g3⟩ := mg_cells (mg_kept (.inr rfl) HO1.out HBK.out hgrow3))
    all_goals
      go_wp2
      go_meet
      case rel =>
        obtain ⟨q1, q2, q3⟩ := mg_push0 (.inr rfl) HBK.out HO1.out HO2.out HNE.out hB hgrow3 hown3 hat
        exact ⟨q1, q2, q3, q2.size⟩
  case rest =>
    clear c0 c1 c2 c3 f0 f1 f2 f3 ca0 HBK HO1 HO2 HNE
    obtain ⟨hM, hb, hk, hz3⟩ := hcut
    obtain ⟨v1, v2, hbk, ho1, ho2, hne, hB⟩ := hM.out
    obtain ⟨c0, c1, c2, c3, f0, f1, f2, f3⟩ := mg_cells hbk
    have ca1 := fun o => (mg_alloc hbk o).2
    have HBK := Lib.hid hbk
    have HO1 := Lib.hid ho1
    have HO2 := Lib.hid ho2
    have HNE := Lib.hid hne
    clear hbk ho1 ho2 hne hM
    go_upto_region 2 with (fail)
    go_cut [] (fun W => Hid (Mg W B bm (fl ++ [⟨c, ll⟩]) (fr ++ [⟨c, rl⟩]) ll rl) ∧ Below B w W ∧ Hid (Lib.OthersKept 71 (some bm) w W) ∧ w.heap.size ≤ W.heap.size)
    case first =>
      go_region_law (refine step_append_lies _ (by rfl) _ _ _ (by rfl) B 71 i0 _ 2 16 Try.underlying56 hi hz0 hz1 hz2 rfl (by omega) _ _ _ (by rfl) ((HO2.out.drew).alloc _) ⟨wc.heap.size, 0, none⟩ 1 1 (Tb.cells ⟨c, rl⟩) (by rfl) (by rfl) (World.news_of_block (heap_alloc_new _ _)) (by simp [Value.oneCell', Tb.cells]) (by omega) (by unfold maxLen; omega) (by omega) (by simp; omega) (wc.heap.size + 1) (by simp) ?_; intro gg cap w3 hown3 hgrow3 hat hlt3; obtain ⟨d0, d1, d2, d3, g0, g1, g2, g3⟩ := mg_cells (mg_kept (.inr rfl) HO2.out HBK.out hgrow3))
      all_goals
        go_wp2
        go_meet
        case rel =>
          obtain ⟨q1, q2, q3⟩ := mg_push1 (.inr rfl) HBK.out HO1.out HO2.out HNE.out hB hgrow3 hown3 hat
          exact ⟨q1, hb.trans q2, hk.out.trans q3, Nat.le_trans hz3 q2.size⟩
    case rest =>
      clear c0 c1 c2 c3 f0 f1 f2 f3 ca1 HBK HO1 HO2 HNE hb hk hz3
      obtain ⟨hM, hb, hk, hz3⟩ := hcut
      obtain ⟨v1, v2, hbk, _⟩ := hM.out
      obtain ⟨c0, c1, c2, c3, f0, f1, f2, f3⟩ := mg_cells hbk
      obtain ⟨q1, q2, q3⟩ := mg_count hM.out (ll + 1)
      obtain ⟨r1, r2, r3⟩ := mg_count3 q1.out (rl + 1)
      have HQ := Lib.hid (And.intro r1 (And.intro (hb.trans (q2.trans r2)) (hk.out.trans (q3.trans r3))))
      clear hbk q1 q2 q3 r1 r2 r3 hb hk hM
      go_wp2
      go_end0
      exact ⟨rfl, HQ.out.1, HQ.out.2.1, HQ.out.2.2⟩

set_option maxHeartbeats 1000000 in
set_option maxRecDepth 100000 in
theorem visit_drop (B bm : Nat) (fl fr : List Tb) (ll rl : Int) (c : UInt8) (ld rd : Bool) (hd : (ld || rd) = true) (w : World) (h : Hid (Mg w B bm fl fr ll rl)) (hll0 : 0 ≤ ll) (hll : ll ≤ 1000000000) (hrl0 : 0 ≤ rl) (hrl : rl ≤ 1000000000) :
    Calls Try.prog 44 #[.pointer (some ⟨bm, 0, none⟩), .int .u8 c.toNat, .bool ld, .bool rd] w fun e w' => e = .returned (.tuple #[]) ∧ Hid (Mg w' B bm fl fr (if ld then ll else ll + 1) (if rd then rl else rl + 1)) ∧ Below B w w' ∧ Hid (Lib.OthersKept 71 (some bm) w w') := by
  obtain ⟨v1, v2, hbk, _⟩ := h.out
  obtain ⟨c0, c1, c2, c3, f0, f1, f2, f3⟩ := mg_cells hbk
  obtain ⟨q1, q2, q3⟩ := mg_count h.out (ll + 1)
  obtain ⟨r1, r2, r3⟩ := mg_count3 h.out (rl + 1)
  have HQ := Lib.hid (And.intro q1 (And.intro q2 q3))
  have HR := Lib.hid (And.intro r1 (And.intro r2 r3))
  have H2 := Lib.hid h
  clear hbk q1 q2 q3 r1 r2 r3 h
  cases ld with
  | true =>
    cases rd with
    | true =>
      clear hd
      go_enter Try.func44, Try.ntmps44
      go_wp2
      go_end0
      exact ⟨rfl, H2.out, Below.refl _ _, Lib.OthersKept.refl _ _ _⟩
    | false =>
      clear hd
      go_enter Try.func44, Try.ntmps44
      go_wp2
      go_end0
      exact ⟨rfl, HR.out.1, HR.out.2.1, HR.out.2.2⟩
  | false =>
    cases rd with
    | true =>
      clear hd
      go_enter Try.func44, Try.ntmps44
      go_wp2
      go_end0
      exact ⟨rfl, HQ.out.1, HQ.out.2.1, HQ.out.2.2⟩
    | false => simp at hd
end Go.Proofs.Ytbkiliiopondaaa
