/-
  kindOf, isStatement, isBareOperand, from, by their contracts.
  mutable, part, sequence, list, by their contracts.
  bracketed, nonempty, printMembers, optional, grouped, operand, printDefinition, by their contracts.
  QuoteString, Itoa and FormatBool, by their contracts.
-/
import Derived.Test.YtcpojagfnpajeaaGreatDoorRZPrLow
import Derived.Laws.Bits64b
import Derived.Test.YtcpojagfnpajeaaGreatDoorRZShelf
import Derived.Laws.IdiomStrings
import Derived.Lib.ItoaLen
namespace Go.Proofs.YtcpojagfnpajeaaGreatDoorR.Ps
open Go.RowKit

theorem NV.none {w : World} {n0 m : Nat} {a : Option Addr} {cap : Nat} (h1 : cap ≤ maxLen) (h2 : a = none → cap = 0) (h3 : 4 ≤ n0) (h4 : Tab w) : NV w n0 m a cap [] := ⟨Nds.nil _ _ _ _ _, Nat.zero_le _, h1, h2, by simp [nsizes], h3, h4⟩

set_option maxHeartbeats 1000000 in
theorem kind_any (k v : Int) (t : List UInt8) (s e ns : Int) (c : List Nd) (a : Option Addr) (cap n0 m i : Nat) (w : World) (h : NV w n0 m a cap c) (hn : n0 ≤ w.heap.size) (hi : i ≤ 100000) :
    Calls Tryz.prog 209 #[nw k v t s e ns c a cap, .int .i64 i] w fun e w' => e = .returned (.int .i64 (kAt c i)) ∧ Below w.heap.size w w' := by
  have hl := h.len
  have hi0 : (0 : Int) ≤ (i : Int) := by omega
  by_cases hlt : i < c.length
  · have hlt' : (i : Int) < (c.length : Int) := by omega
    obtain ⟨y, hy⟩ : ∃ y, c[i]? = some y := ⟨_, List.getElem?_eq_getElem hlt⟩
    obtain ⟨m', b', o', sa, cap', rfl, hc⟩ := h.at hy
    have HK : Hid (kAt c i = y.k) := by show _ = _; unfold kAt; rw [hy]
    rw [HK.out]
    have q0 := ((below_box w (nbx k v t s e ns c (some ⟨b', o', none⟩) cap)).cell (p := ⟨b', o' + i * 7, none⟩) (by have := hc.lt; show b' < w.heap.size; omega)).trans hc.sv.c0
    clear hy
    go_enter Tryz.func209, Tryz.ntmps209
    go_wp2_with fail
    go_ret
    exact ⟨rfl, below_box _ _⟩
  · have hlt' : (c.length : Int) ≤ (i : Int) := by omega
    have HK : Hid (kAt c i = 0) := by show _ = _; unfold kAt; rw [List.getElem?_eq_none (by omega)]
    rw [HK.out]
    go_enter Tryz.func209, Tryz.ntmps209
    go_wp2_with fail
    go_ret
    exact ⟨rfl, below_box _ _⟩

theorem isStmt_any (k : Int) (w : World) : Calls Tryz.prog 208 #[.int .i64 k] w fun e w' => e = .returned (.bool (stmtB k)) ∧ w' = w := by
  have hcs : k = 37 ∨ k = 35 ∨ k = 21 ∨ (¬ k = 37 ∧ ¬ k = 35 ∧ ¬ k = 21) := by omega
  rcases hcs with rfl | rfl | rfl | ⟨h1, h2, h3⟩
  all_goals
    go_enter Tryz.func208, Tryz.ntmps208
    go_wp2_with fail
    go_ret
    exact ⟨rfl, rfl⟩

theorem bare_cases (k : Int) : k = 27 ∨ k = 28 ∨ k = 29 ∨ k = 17 ∨ k = 30 ∨ k = 31 ∨ k = 32 ∨ k = 42 ∨ (¬ k = 27 ∧ ¬ k = 28 ∧ ¬ k = 29 ∧ ¬ k = 17 ∧ ¬ k = 30 ∧ ¬ k = 31 ∧ ¬ k = 32 ∧ ¬ k = 42) := by omega
set_option maxHeartbeats 2000000 in
theorem isBare_any (k : Int) (w : World) : Calls Tryz.prog 241 #[.int .i64 k] w fun e w' => e = .returned (.bool (bareB k)) ∧ w' = w := by
  rcases bare_cases k with rfl | rfl | rfl | rfl | rfl | rfl | rfl | rfl | ⟨h1, h2, h3, h4, h5, h6, h7, h8⟩
  case inr.inr.inr.inr.inr.inr.inr.inr =>
    have HB : Hid (bareB k = false) := by show _ = _; simp [bareB, h1, h2, h3, h4, h5, h6, h7, h8]
    rw [HB.out]
    go_enter Tryz.func241, Tryz.ntmps241
    go_wp2_with fail
    go_ret
    exact ⟨rfl, rfl⟩
  all_goals
    go_enter Tryz.func241, Tryz.ntmps241
    go_wp2_with fail
    go_ret
    exact ⟨rfl, rfl⟩

set_option maxHeartbeats 1000000 in
theorem from_any (k v : Int) (t : List UInt8) (s e ns : Int) (c : List Nd) (a : Option Addr) (cap n0 m i : Nat) (w : World) (h : NV w n0 m a cap c) (hn : n0 ≤ w.heap.size) (hi : i ≤ 100000) :
    Calls Tryz.prog 199 #[nw k v t s e ns c a cap, .int .i64 i] w fun e w' => Below w.heap.size w w' ∧ ∃ a' cap' m', e = .returned (.slice a' (c.drop i).length cap') ∧ NV w' n0 m' a' cap' (c.drop i) := by
  have hl := h.len
  have hc1 := h.cap1
  have hi0 : (0 : Int) ≤ (i : Int) := by omega
  have HH := Lib.hid h
  obtain ⟨M, hM⟩ : ∃ M, M = min i c.length := ⟨_, rfl⟩
  have hmin : (min (i : Int) (c.length : Int)) = (M : Int) := by omega
  have hMt : ((M : Int)).toNat = M := by omega
  have hM0 : (0 : Int) ≤ (M : Int) := by omega
  have hM1 : (M : Int) ≤ (c.length : Int) := by omega
  have hdl : c.length - M = (c.drop i).length := by rw [List.length_drop]; omega
  have HDL := Lib.hid hdl
  have HM := Lib.hid hM
  clear hdl hM h
  go_enter Tryz.func199, Tryz.ntmps199
  go_wp2_with fail
  all_goals
    have hM := HM.out
    go_ret
    refine ⟨below_box _ _, ?_⟩
  · have hcap : cap = M := by omega
    have h0 : c.drop i = [] := List.drop_eq_nil_of_le (by omega)
    refine ⟨a, 0, ?_, 0, ?_⟩
    · rw [show c.length - M = c.length - i from by omega]
      rfl
    · rw [h0]; exact NV.none (Nat.zero_le _) (fun _ => rfl) HH.out.n4 (HH.out.tab.below (below_box _ _))
  · have hlm : c.length - M = c.length - i := by omega
    by_cases hc : c = []
    · subst hc
      refine ⟨a.map (fun x => x.add (M * 7)), cap - M, ?_, 0, ?_⟩
      · rw [← hlm]
        rfl
      · rw [List.drop_nil]
        refine NV.none (by have := HH.out.cap2; omega) (fun e => ?_) HH.out.n4 (HH.out.tab.below (below_box _ _))
        cases a with
        | none => have := HH.out.an rfl; omega
        | some p => cases e
    · obtain ⟨y, hy⟩ : ∃ y, c[0]? = some y := ⟨_, List.getElem?_eq_getElem (List.length_pos_iff.2 hc)⟩
      obtain ⟨m', b', o', sa, cap', rfl, _⟩ := HH.out.at hy
      refine ⟨some ⟨b', o' + M * 7, none⟩, cap - M, ?_, m, ?_⟩
      · rw [← hlm]
        have hadd : (⟨b', o', none⟩ : Addr).add (M * 7) = ⟨b', o' + M * 7, none⟩ := by unfold Addr.add; split <;> simp_all
        rw [← hadd]
        rfl
      · have hd : c.drop i = c.drop M := by
          rcases Nat.le_total i c.length with q | q
          · rw [show M = i from by omega]
          · rw [List.drop_eq_nil_of_le q, List.drop_eq_nil_of_le (by omega)]
        rw [hd]
        exact (HH.out.drop M (by omega)).below hn (below_box _ _)
end Go.Proofs.YtcpojagfnpajeaaGreatDoorR.Ps

namespace Go.Proofs.YtcpojagfnpajeaaGreatDoorR.Ps
open Go.RowKit

theorem ofInt_nat (v : Int) : (BitVec.ofInt 64 v).toNat = (v % 18446744073709551616).toNat := by
  rw [BitVec.toNat_ofInt]
  rfl
theorem wrap_small (n : Nat) (h : n ≤ 2) : IntKind.i64.wrap (n : Int) = n := by
  simp only [IntKind.wrap, IntKind.bits, IntKind.signed, Bool.true_and]
  split <;> rename_i hc <;> simp at hc <;> omega
theorem and_one (v : Int) : bits .and .i64 v 1 = v % 2 := by
  show IntKind.i64.wrap ((BitVec.ofInt 64 v &&& BitVec.ofInt 64 1).toNat : Int) = v % 2
  rw [BitVec.toNat_and, ofInt_nat, show (BitVec.ofInt 64 1).toNat = 1 from rfl, Nat.and_one_is_mod, wrap_small _ (by omega)]
  omega
theorem nat_and_two (n : Nat) : n &&& 2 = 2 * (n / 2 % 2) := by
  apply Nat.eq_of_testBit_eq
  intro i
  rw [Nat.testBit_and]
  match i with
  | 0 => simp [Nat.testBit_zero]
  | 1 =>
    simp [Nat.testBit_succ, Nat.testBit_zero]
  | i + 2 =>
    simp only [Nat.testBit_succ]
    have h1 : 2 / 2 / 2 = 0 := rfl
    have h2 : 2 * (n / 2 % 2) / 2 / 2 = 0 := by omega
    rw [h1, h2]
    simp
theorem and_two (v : Int) : bits .and .i64 v 2 = if (v / 2) % 2 = 1 then 2 else 0 := by
  show IntKind.i64.wrap ((BitVec.ofInt 64 v &&& BitVec.ofInt 64 2).toNat : Int) = _
  rw [BitVec.toNat_and, ofInt_nat, show (BitVec.ofInt 64 2).toNat = 2 from rfl, nat_and_two, wrap_small _ (by omega)]
  split <;> omega
theorem bit1 {v : Int} (h : v % 2 = 1) : (bits .and .i64 v 1 != 0) = true := by rw [and_one, h]; rfl
theorem bit0 {v : Int} (h : ¬ v % 2 = 1) : (bits .and .i64 v 1 != 0) = false := by rw [and_one, show v % 2 = 0 from by omega]; rfl
theorem bit2 {v : Int} (h : (v / 2) % 2 = 1) : (bits .and .i64 v 2 != 0) = true := by rw [and_two, if_pos h]; rfl
theorem bit3 {v : Int} (h : ¬ (v / 2) % 2 = 1) : (bits .and .i64 v 2 != 0) = false := by rw [and_two, if_neg h]; rfl

section
variable {b n0 m : Nat} {kd vl : Int} {tx : List UInt8} {st en nm : Int} {c : List Nd} {a : Option Addr} {cap : Nat} {w : World} {v0 : Value} {text : List UInt8}

set_option maxHeartbeats 1000000 in
theorem mutable_any (hN : NV w n0 m a cap c) (h : PrIn w b n0 v0 text) (hn : n0 ≤ w.heap.size) :
    Calls Tryz.prog 206 #[.pointer (some ⟨b, 0, none⟩), nw kd vl tx st en nm c a cap] w (PW b n0 text (mutT vl) v0 w) := by
  by_cases hv : vl % 2 = 1
  · have HT : Hid (mutT vl = [[109, 117, 116]]) := by show _ = _; unfold mutT; rw [if_pos hv]
    have hb1 := bit1 hv
    clear hv
    go_enter Tryz.func206, Tryz.ntmps206
    have HR0 := Lib.hid (PrRun.start h hn)
    have HN0 := Lib.hid hN
    go_upto_region 1 with fail
    obtain ⟨w1, hw1⟩ : ∃ w1, w1 = w.alloc (nbx kd vl tx st en nm c a cap) := ⟨_, rfl⟩
    rw [show World.alloc w _ = w1 from hw1.symm]
    have HR1 : Hid (PrRun b n0 w v0 text [] w1 v0) := by rw [hw1]; exact HR0.out.below (below_box _ _)
    have HX1 : Hid (BoxIn w1 v0 b w.heap.size (nbx kd vl tx st en nm c a cap)) := by rw [hw1]; exact BoxIn.made h
    have HN1 : Hid (NV w1 n0 m a cap c) := by rw [hw1]; exact HN0.out.below hn (below_box _ _)
    clear hw1 h hN
    obtain ⟨x0, x1, x2, x3, x4, x5, x6⟩ := cells7 HX1.out.h
    have K1 := Lib.hid (tok1_call HR1.out ⟨#[109, 117, 116]⟩ [109, 117, 116] rfl (by decide))
    go_wp2_with fail
    refine K1.out.mono ?_
    rintro e w2 ⟨rfl, v2, hp, hr⟩
    have HR2 := Lib.hid (HR1.out.step hp.out hr.out)
    have HN2 := Lib.hid (HN1.out.rep HR1.out.n HR1.out.pr hr.out)
    have HX2 := Lib.hid (HX1.out.rep hr.out)
    clear hp hr K1 HR1 HN1 HX1 x0 x1 x2 x3 x4 x5 x6
    obtain ⟨x0, x1, x2, x3, x4, x5, x6⟩ := cells7 HX2.out.h
    go_wp2_with fail
    first | go_end0 | refine bodyPost_ret (results_none rfl _ _ _) rfl ?_
    exact HR2.out.done (by rw [HT.out]; rfl)
  · have HT : Hid (mutT vl = []) := by show _ = _; unfold mutT; rw [if_neg hv]
    have hb1 := bit0 hv
    clear hv
    go_enter Tryz.func206, Tryz.ntmps206
    have HR0 := Lib.hid (PrRun.start h hn)
    have HN0 := Lib.hid hN
    go_upto_region 1 with fail
    obtain ⟨w1, hw1⟩ : ∃ w1, w1 = w.alloc (nbx kd vl tx st en nm c a cap) := ⟨_, rfl⟩
    rw [show World.alloc w _ = w1 from hw1.symm]
    have HR1 : Hid (PrRun b n0 w v0 text [] w1 v0) := by rw [hw1]; exact HR0.out.below (below_box _ _)
    have HX1 : Hid (BoxIn w1 v0 b w.heap.size (nbx kd vl tx st en nm c a cap)) := by rw [hw1]; exact BoxIn.made h
    have HN1 : Hid (NV w1 n0 m a cap c) := by rw [hw1]; exact HN0.out.below hn (below_box _ _)
    clear hw1 h hN
    obtain ⟨x0, x1, x2, x3, x4, x5, x6⟩ := cells7 HX1.out.h
    go_wp2_with fail
    first | go_end0 | refine bodyPost_ret (results_none rfl _ _ _) rfl ?_
    exact HR1.out.done (by rw [HT.out])

theorem partT_none {i : Nat} (h : kAt c i = 0) : partT c (tokss c) i = [] := by unfold partT; rw [if_pos h]
theorem partT_some {i : Nat} (h : ¬ kAt c i = 0) {y : Nd} (hy : c[i]? = some y) : partT c (tokss c) i = toks y := by unfold partT; rw [if_neg h, tokss_map, List.getElem?_map, hy]; rfl
theorem kAt_some {i : Nat} (h : ¬ kAt c i = 0) : ∃ y, c[i]? = some y ∧ i < c.length := by
  cases hc : c[i]? with
  | none => exact absurd (show kAt c i = 0 from by unfold kAt; rw [hc]) h
  | some y => exact ⟨y, rfl, (List.getElem?_eq_some_iff.1 hc).1⟩

set_option maxHeartbeats 1000000 in
theorem part_any (i : Nat) (hi : i ≤ 100000) (hN : NV w n0 m a cap c) (HP : Hid (∀ y, y ∈ c → PT b n0 y)) (h : PrIn w b n0 v0 text) (hn : n0 ≤ w.heap.size) :
    Calls Tryz.prog 197 #[.pointer (some ⟨b, 0, none⟩), nw kd vl tx st en nm c a cap, .int .i64 i] w (PW b n0 text (partT c (tokss c) i) v0 w) := by
  have hlen := hN.len
  by_cases hk : kAt c i = 0
  · have HT := Lib.hid (partT_none hk)
    have HK := Lib.hid hk
    clear hk
    go_enter Tryz.func197, Tryz.ntmps197
    have HR0 := Lib.hid (PrRun.start h hn)
    have HN0 := Lib.hid hN
    go_upto_region 1 with fail
    obtain ⟨w1, hw1⟩ : ∃ w1, w1 = w.alloc (nbx kd vl tx st en nm c a cap) := ⟨_, rfl⟩
    rw [show World.alloc w _ = w1 from hw1.symm]
    have HR1 : Hid (PrRun b n0 w v0 text [] w1 v0) := by rw [hw1]; exact HR0.out.below (below_box _ _)
    have HX1 : Hid (BoxIn w1 v0 b w.heap.size (nbx kd vl tx st en nm c a cap)) := by rw [hw1]; exact BoxIn.made h
    have HN1 : Hid (NV w1 n0 m a cap c) := by rw [hw1]; exact HN0.out.below hn (below_box _ _)
    clear hw1 h hN
    obtain ⟨x0, x1, x2, x3, x4, x5, x6⟩ := cells7 HX1.out.h
    have KK := kind_any kd vl tx st en nm c a cap n0 m i w1 HN1.out HR1.out.n hi
    rw [HK.out] at KK
    have K1 := Lib.hid (KK)
    go_wp2_with fail
    refine K1.out.mono ?_
    rintro e w2 ⟨rfl, hb⟩
    have HR2 := Lib.hid (HR1.out.below hb)
    have HN2 := Lib.hid (HN1.out.below HR1.out.n hb)
    have HX2 := Lib.hid (HX1.out.below hb)
    obtain ⟨x0, x1, x2, x3, x4, x5, x6⟩ := cells7 HX2.out.h
    go_wp2_with fail
    first | go_end0 | refine bodyPost_ret (results_none rfl _ _ _) rfl ?_
    exact HR2.out.done (by rw [HT.out])
  · obtain ⟨y, hy, hil⟩ := kAt_some hk
    have HT := Lib.hid (partT_some hk hy)
    have HM := Lib.hid (List.mem_of_getElem? hy)
    have hkb : (kAt c i != 0) = true := by simpa using hk
    have HY := Lib.hid hy
    have hi0 : (0 : Int) ≤ (i : Int) := by omega
    have hi1 : (i : Int) < (c.length : Int) := by omega
    clear hk hy
    go_enter Tryz.func197, Tryz.ntmps197
    have HR0 := Lib.hid (PrRun.start h hn)
    have HN0 := Lib.hid hN
    go_upto_region 1 with fail
    obtain ⟨w1, hw1⟩ : ∃ w1, w1 = w.alloc (nbx kd vl tx st en nm c a cap) := ⟨_, rfl⟩
    rw [show World.alloc w _ = w1 from hw1.symm]
    have HR1 : Hid (PrRun b n0 w v0 text [] w1 v0) := by rw [hw1]; exact HR0.out.below (below_box _ _)
    have HX1 : Hid (BoxIn w1 v0 b w.heap.size (nbx kd vl tx st en nm c a cap)) := by rw [hw1]; exact BoxIn.made h
    have HN1 : Hid (NV w1 n0 m a cap c) := by rw [hw1]; exact HN0.out.below hn (below_box _ _)
    clear hw1 h hN
    obtain ⟨x0, x1, x2, x3, x4, x5, x6⟩ := cells7 HX1.out.h
    have K1 := Lib.hid (kind_any kd vl tx st en nm c a cap n0 m i w1 HN1.out HR1.out.n hi)
    go_wp2_with fail
    refine K1.out.mono ?_
    rintro e w2 ⟨rfl, hb⟩
    have HR2 := Lib.hid (HR1.out.below hb)
    have HN2 := Lib.hid (HN1.out.below HR1.out.n hb)
    have HX2 := Lib.hid (HX1.out.below hb)
    clear hb K1 HR1 HN1 HX1 x0 x1 x2 x3 x4 x5 x6
    obtain ⟨x0, x1, x2, x3, x4, x5, x6⟩ := cells7 HX2.out.h
    obtain ⟨m2, b2, o2, sa, cap2, rfl, hcv⟩ := HN2.out.at HY.out
    have HCV := Lib.hid hcv
    obtain ⟨r0, r1, r2, r3, r4, r5, r6⟩ := hcv.sv
    clear hcv
    have K2 := Lib.hid (HP.out y HM.out sa cap2 m2 w2 v0 _ HCV.out.nv HCV.out.ok HCV.out.tl HR2.out.pr HR2.out.n)
    go_wp2_with fail
    refine K2.out.mono ?_
    rintro e w3 ⟨rfl, v3, hp, hr⟩
    have HR3 := Lib.hid (HR2.out.step hp.out hr.out)
    have HN3 := Lib.hid (HN2.out.rep HR2.out.n HR2.out.pr hr.out)
    have HX3 := Lib.hid (HX2.out.rep hr.out)
    clear hp hr K2 HR2 HN2 HX2 x0 x1 x2 x3 x4 x5 x6
    obtain ⟨x0, x1, x2, x3, x4, x5, x6⟩ := cells7 HX3.out.h
    clear r0 r1 r2 r3 r4 r5 r6
    go_wp2_with fail
    first | go_end0 | refine bodyPost_ret (results_none rfl _ _ _) rfl ?_
    exact HR3.out.done (by rw [HT.out]; rfl)

/-- Nodes one after the other. -/
theorem seq_take {i : Nat} {y : Nd} (hy : c[i]? = some y) : (tokss (c.take (i + 1))).flatten = (tokss (c.take i)).flatten ++ toks y := by
  rw [tokss_map, tokss_map, List.take_add_one, hy]; simp
set_option maxHeartbeats 2000000 in
theorem sequence_any (hN : NV w n0 m a cap c) (HP : Hid (∀ y, y ∈ c → PT b n0 y)) (h : PrIn w b n0 v0 text) (hn : n0 ≤ w.heap.size) :
    Calls Tryz.prog 194 #[.pointer (some ⟨b, 0, none⟩), .slice a c.length cap] w (PW b n0 text (tokss c).flatten v0 w) := by
  have hlen := hN.len
  have HN0 := Lib.hid hN
  have HR0 := Lib.hid (PrRun.start h hn)
  clear hN h
  go_enter Tryz.func194, Tryz.ntmps194
  go_wp2_with fail
  go_loopw [8] (fun i wr => ∃ k : Nat, k ≤ c.length ∧ i = .int .i64 k ∧ ∃ v', Hid (PrRun b n0 w v0 text (tokss (c.take k)).flatten wr v') ∧ Hid (NV wr n0 m a cap c))
    (fun i _ => c.length - (intOf i).toNat)
  case atStart => exact ⟨0, Nat.zero_le _, rfl, v0, HR0, HN0⟩
  case round =>
    obtain ⟨k, hk, rfl, v1, HR1, HN1⟩ := hrel
    by_cases hlt : k < c.length
    · obtain ⟨y, hy⟩ : ∃ y, c[k]? = some y := ⟨_, List.getElem?_eq_getElem hlt⟩
      have HT := Lib.hid (seq_take hy)
      have HM := Lib.hid (List.mem_of_getElem? hy)
      obtain ⟨m', b', o', sa, cap', rfl, hc⟩ := HN1.out.at hy
      have HC := Lib.hid hc
      obtain ⟨r0, r1, r2, r3, r4, r5, r6⟩ := hc.sv
      have hk0 : (0 : Int) ≤ (k : Int) := by omega
      have hk1 : (k : Int) < (c.length : Int) := by omega
      have HKL : Hid (k < c.length) := hlt
      clear hy hc
      go_upto_region 3 with fail
      obtain ⟨w2, hw2⟩ : ∃ w2, w2 = wr.alloc (nbx y.k y.v y.t y.s y.e y.ns y.c sa cap') := ⟨_, rfl⟩
      rw [show World.alloc wr _ = w2 from hw2.symm]
      have hb2 : Below wr.heap.size wr w2 := by rw [hw2]; exact below_box _ _
      have hbx : w2.heap[wr.heap.size]? = some (nbx y.k y.v y.t y.s y.e y.ns y.c sa cap') := by rw [hw2]; exact heap_alloc_new _ _
      have HR2 := Lib.hid (HR1.out.below hb2)
      have HN2 := Lib.hid (HN1.out.below HR1.out.n hb2)
      have HC2 := Lib.hid (HC.out.nv.below HR1.out.n hb2)
      obtain ⟨x0, x1, x2, x3, x4, x5, x6⟩ := cells7 hbx
      have K := Lib.hid (HP.out y HM.out sa cap' m' w2 v1 _ HC2.out HC.out.ok HC.out.tl HR2.out.pr HR2.out.n)
      clear hw2 hb2 hbx r0 r1 r2 r3 r4 r5 r6 HR1 HN1
      go_wp2_with fail
      refine K.out.mono ?_
      rintro e w3 ⟨rfl, v3, hp, hr⟩
      have HR3 := Lib.hid (HR2.out.step hp.out hr.out)
      have HN3 := Lib.hid (HN2.out.rep HR2.out.n HR2.out.pr hr.out)
      clear hp hr K x0 x1 x2 x3 x4 x5 x6 HR2 HN2
      go_wp2_with fail
      go_round
      case rel => exact ⟨k + 1, HKL.out, (by go_num), v3, by rw [HT.out]; exact HR3, HN3⟩
      case measure => have := HKL.out; simp [intOf]; omega
    · have hkl : k = c.length := by omega
      subst hkl
      go_wp2_with fail
      first | go_end0 | refine bodyPost_ret (results_none rfl _ _ _) rfl ?_
      exact HR1.out.done (by rw [List.take_length])

theorem list_take {sep : Tok} {i : Nat} {y : Nd} (hy : c[i]? = some y) : listT sep (tokss (c.take (i + 1))) = listT sep (tokss (c.take i)) ++ ((if i = 0 then [] else [sep]) ++ toks y) := by
  have key : ∀ (l : List (List Tok)) (z : List Tok), listT sep (l ++ [z]) = listT sep l ++ ((if l.length = 0 then [] else [sep]) ++ z) := by
    intro l z
    induction l with
    | nil => rfl
    | cons x r ih =>
      cases r with
      | nil => simp [listT]
      | cons q r => simp only [List.cons_append, listT] at ih ⊢; rw [ih]; simp
  have hi := (List.getElem?_eq_some_iff.1 hy).1
  rw [tokss_map, tokss_map, List.take_add_one, hy]
  simp only [Option.toList_some, List.map_append, List.map_cons, List.map_nil]
  rw [key, List.length_map, List.length_take, Nat.min_eq_left (by omega)]
set_option maxHeartbeats 4000000 in
theorem list_any (sep : ByteArray) (sepT : Tok) (hsep : Hid (Lx.L sep = sepT)) (hseps : Hid (sep.size ≤ 2200010)) (hN : NV w n0 m a cap c) (HP : Hid (∀ y, y ∈ c → PT b n0 y)) (h : PrIn w b n0 v0 text) (hn : n0 ≤ w.heap.size) :
    Calls Tryz.prog 204 #[.pointer (some ⟨b, 0, none⟩), .slice a c.length cap, .string sep] w (PW b n0 text (listT sepT (tokss c)) v0 w) := by
  have hlen := hN.len
  have HN0 := Lib.hid hN
  have HR0 := Lib.hid (PrRun.start h hn)
  clear hN h
  go_enter Tryz.func204, Tryz.ntmps204
  go_wp2_with fail
  go_loopw [10] (fun i wr => ∃ k : Nat, k ≤ c.length ∧ i = .int .i64 k ∧ ∃ v', Hid (PrRun b n0 w v0 text (listT sepT (tokss (c.take k))) wr v') ∧ Hid (NV wr n0 m a cap c))
    (fun i _ => c.length - (intOf i).toNat)
  case atStart => exact ⟨0, Nat.zero_le _, rfl, v0, HR0, HN0⟩
  case round =>
    obtain ⟨k, hk, rfl, v1, HR1, HN1⟩ := hrel
    by_cases hlt : k < c.length
    · obtain ⟨y, hy⟩ : ∃ y, c[k]? = some y := ⟨_, List.getElem?_eq_getElem hlt⟩
      have HT := Lib.hid (list_take (sep := sepT) hy)
      have HM := Lib.hid (List.mem_of_getElem? hy)
      obtain ⟨m', b', o', sa, cap', rfl, hc⟩ := HN1.out.at hy
      have HC := Lib.hid hc
      obtain ⟨r0, r1, r2, r3, r4, r5, r6⟩ := hc.sv
      have hk0 : (0 : Int) ≤ (k : Int) := by omega
      have hk1 : (k : Int) < (c.length : Int) := by omega
      have HKL : Hid (k < c.length) := hlt
      clear hy hc
      go_upto_region 3 with fail
      obtain ⟨w2, hw2⟩ : ∃ w2, w2 = wr.alloc (nbx y.k y.v y.t y.s y.e y.ns y.c sa cap') := ⟨_, rfl⟩
      rw [show World.alloc wr _ = w2 from hw2.symm]
      have hb2 : Below wr.heap.size wr w2 := by rw [hw2]; exact below_box _ _
      have HX2 : Hid (BoxIn w2 v1 b wr.heap.size (nbx y.k y.v y.t y.s y.e y.ns y.c sa cap')) := by rw [hw2]; exact BoxIn.made HR1.out.pr
      have HR2 := Lib.hid (HR1.out.below hb2)
      have HN2 := Lib.hid (HN1.out.below HR1.out.n hb2)
      have HC2 := Lib.hid (HC.out.nv.below HR1.out.n hb2)
      clear hw2 hb2 r0 r1 r2 r3 r4 r5 r6 HR1 HN1
      by_cases h0 : k = 0
      · have HS : Hid ((if k = 0 then [] else [sepT]) = ([] : List Tok)) := by show _ = _; rw [if_pos h0]
        subst h0
        obtain ⟨x0, x1, x2, x3, x4, x5, x6⟩ := cells7 HX2.out.h
        have K := Lib.hid (HP.out y HM.out sa cap' m' w2 v1 _ HC2.out HC.out.ok HC.out.tl HR2.out.pr HR2.out.n)
        go_wp2_with fail
        refine K.out.mono ?_
        rintro e w3 ⟨rfl, v3, hp, hr⟩
        have HR3 := Lib.hid (HR2.out.step hp.out hr.out)
        have HN3 := Lib.hid (HN2.out.rep HR2.out.n HR2.out.pr hr.out)
        clear hp hr K x0 x1 x2 x3 x4 x5 x6 HR2 HN2
        go_wp2_with fail
        go_round
        case rel => exact ⟨0 + 1, HKL.out, (by go_num), v3, by rw [HT.out, HS.out]; exact HR3, HN3⟩
        case measure => have := HKL.out; simp [intOf]; omega
      · have HS : Hid ((if k = 0 then [] else [sepT]) = [sepT]) := by show _ = _; rw [if_neg h0]
        have h0' : (0 : Int) < (k : Int) := by omega
        have K := Lib.hid (tok1_call HR2.out sep sepT hsep.out hseps.out)
        go_wp2_with fail
        refine K.out.mono ?_
        rintro e w3 ⟨rfl, v3, hp, hr⟩
        have HR3 := Lib.hid (HR2.out.step hp.out hr.out)
        have HN3 := Lib.hid (HN2.out.rep HR2.out.n HR2.out.pr hr.out)
        have HX3 := Lib.hid (HX2.out.rep hr.out)
        have HC3 := Lib.hid (HC2.out.rep HR2.out.n HR2.out.pr hr.out)
        clear hp hr K HR2 HN2 HX2
        obtain ⟨x0, x1, x2, x3, x4, x5, x6⟩ := cells7 HX3.out.h
        have K := Lib.hid (HP.out y HM.out sa cap' m' w3 v3 _ HC3.out HC.out.ok HC.out.tl HR3.out.pr HR3.out.n)
        go_wp2_with fail
        refine K.out.mono ?_
        rintro e w4 ⟨rfl, v4, hp, hr⟩
        have HR4 := Lib.hid (HR3.out.step hp.out hr.out)
        have HN4 := Lib.hid (HN3.out.rep HR3.out.n HR3.out.pr hr.out)
        clear hp hr K x0 x1 x2 x3 x4 x5 x6 HR3 HN3
        go_wp2_with fail
        go_round
        case rel => exact ⟨k + 1, HKL.out, (by go_num), v4, by rw [HT.out, HS.out, ← List.append_assoc]; exact HR4, HN4⟩
        case measure => have := HKL.out; simp [intOf]; omega
    · have hkl : k = c.length := by omega
      subst hkl
      go_wp2_with fail
      first | go_end0 | refine bodyPost_ret (results_none rfl _ _ _) rfl ?_
      exact HR1.out.done (by rw [List.take_length])
end
end Go.Proofs.YtcpojagfnpajeaaGreatDoorR.Ps

namespace Go.Proofs.YtcpojagfnpajeaaGreatDoorR.Ps
open Go.RowKit

section
variable {b n0 m : Nat} {kd vl : Int} {tx : List UInt8} {st en nm : Int} {c : List Nd} {a : Option Addr} {cap : Nat} {w : World} {v0 : Value} {text : List UInt8}

set_option maxHeartbeats 2000000 in
theorem bracketed_any (op cl : ByteArray) (opT clT : Tok) (hop : Hid (Lx.L op = opT)) (hcl : Hid (Lx.L cl = clT)) (hops : Hid (op.size ≤ 2200010)) (hcls : Hid (cl.size ≤ 2200010)) (hN : NV w n0 m a cap c) (HP : Hid (∀ y, y ∈ c → PT b n0 y)) (h : PrIn w b n0 v0 text) (hn : n0 ≤ w.heap.size) :
    Calls Tryz.prog 198 #[.pointer (some ⟨b, 0, none⟩), .string op, .slice a c.length cap, .string cl] w (PW b n0 text (brackT opT (tokss c) clT) v0 w) := by
  have hlen := hN.len
  go_enter Tryz.func198, Tryz.ntmps198
  have HR0 := Lib.hid (PrRun.start h hn)
  have HN0 := Lib.hid hN
  have HR1 := HR0
  have HN1 := HN0
  clear h hN
  have K1 := Lib.hid (tok1_call HR1.out op opT hop.out hops.out)
  go_wp2_with fail
  refine K1.out.mono ?_
  rintro e w2 ⟨rfl, v2, hp, hr⟩
  have HR2 := Lib.hid (HR1.out.step hp.out hr.out)
  have HN2 := Lib.hid (HN1.out.rep HR1.out.n HR1.out.pr hr.out)
  clear hp hr K1 HR1 HN1
  have K2 := Lib.hid (list_any ⟨#[44]⟩ [44] rfl (by show _ ≤ _; decide) HN2.out HP HR2.out.pr HR2.out.n)
  go_wp2_with fail
  refine K2.out.mono ?_
  rintro e w3 ⟨rfl, v3, hp, hr⟩
  have HR3 := Lib.hid (HR2.out.step hp.out hr.out)
  have HN3 := Lib.hid (HN2.out.rep HR2.out.n HR2.out.pr hr.out)
  clear hp hr K2 HR2 HN2
  have K3 := Lib.hid (tok1_call HR3.out cl clT hcl.out hcls.out)
  go_wp2_with fail
  refine K3.out.mono ?_
  rintro e w4 ⟨rfl, v4, hp, hr⟩
  have HR4 := Lib.hid (HR3.out.step hp.out hr.out)
  have HN4 := Lib.hid (HN3.out.rep HR3.out.n HR3.out.pr hr.out)
  clear hp hr K3 HR3 HN3
  go_wp2_with fail
  first | go_end0 | refine bodyPost_ret (results_none rfl _ _ _) rfl ?_
  exact HR4.out.done rfl

set_option maxHeartbeats 2000000 in
theorem nonempty_any (op cl : ByteArray) (opT clT : Tok) (hop : Hid (Lx.L op = opT)) (hcl : Hid (Lx.L cl = clT)) (hops : Hid (op.size ≤ 2200010)) (hcls : Hid (cl.size ≤ 2200010)) (hN : NV w n0 m a cap c) (HP : Hid (∀ y, y ∈ c → PT b n0 y)) (h : PrIn w b n0 v0 text) (hn : n0 ≤ w.heap.size) :
    Calls Tryz.prog 203 #[.pointer (some ⟨b, 0, none⟩), .string op, .slice a c.length cap, .string cl] w (PW b n0 text (nonT opT (tokss c) clT) v0 w) := by
  have hlen := hN.len
  by_cases hc : c.length = 0
  · obtain rfl : c = [] := List.eq_nil_of_length_eq_zero hc
    have HT : Hid (nonT opT (tokss []) clT = []) := rfl
    clear hc
    go_enter Tryz.func203, Tryz.ntmps203
    have HR0 := Lib.hid (PrRun.start h hn)
    have HN0 := Lib.hid hN
    have HR1 := HR0
    have HN1 := HN0
    clear h hN
    go_wp2_with fail
    first | go_end0 | refine bodyPost_ret (results_none rfl _ _ _) rfl ?_
    exact HR1.out.done (by rw [HT.out])
  · have HT : Hid (nonT opT (tokss c) clT = brackT opT (tokss c) clT) := by
      show _ = _
      unfold nonT
      rw [if_neg]
      rw [tokss_map, List.isEmpty_iff]
      intro e
      exact hc (by simpa using congrArg List.length e)
    have hc0 : (0 : Int) < (c.length : Int) := by omega
    clear hc
    go_enter Tryz.func203, Tryz.ntmps203
    have HR0 := Lib.hid (PrRun.start h hn)
    have HN0 := Lib.hid hN
    have HR1 := HR0
    have HN1 := HN0
    clear h hN
    have K1 := Lib.hid (bracketed_any op cl opT clT hop hcl hops hcls HN1.out HP HR1.out.pr HR1.out.n)
    go_wp2_with fail
    refine K1.out.mono ?_
    rintro e w2 ⟨rfl, v2, hp, hr⟩
    have HR2 := Lib.hid (HR1.out.step hp.out hr.out)
    have HN2 := Lib.hid (HN1.out.rep HR1.out.n HR1.out.pr hr.out)
    clear hp hr K1 HR1 HN1
    go_wp2_with fail
    first | go_end0 | refine bodyPost_ret (results_none rfl _ _ _) rfl ?_
    exact HR2.out.done (by rw [HT.out]; rfl)

set_option maxHeartbeats 2000000 in
theorem members_any  (hN : NV w n0 m a cap c) (HP : Hid (∀ y, y ∈ c → PT b n0 y)) (h : PrIn w b n0 v0 text) (hn : n0 ≤ w.heap.size) :
    Calls Tryz.prog 200 #[.pointer (some ⟨b, 0, none⟩), .slice a c.length cap] w (PW b n0 text (memT (tokss c)) v0 w) := by
  go_enter Tryz.func200, Tryz.ntmps200
  have HR0 := Lib.hid (PrRun.start h hn)
  have HN0 := Lib.hid hN
  have HR1 := HR0
  have HN1 := HN0
  clear h hN
  have K1 := Lib.hid (tok1_call HR1.out ⟨#[123]⟩ [123] rfl (by decide))
  go_wp2_with fail
  refine K1.out.mono ?_
  rintro e w2 ⟨rfl, v2, hp, hr⟩
  have HR2 := Lib.hid (HR1.out.step hp.out hr.out)
  have HN2 := Lib.hid (HN1.out.rep HR1.out.n HR1.out.pr hr.out)
  clear hp hr K1 HR1 HN1
  have K2 := Lib.hid (sequence_any  HN2.out HP HR2.out.pr HR2.out.n)
  go_wp2_with fail
  refine K2.out.mono ?_
  rintro e w3 ⟨rfl, v3, hp, hr⟩
  have HR3 := Lib.hid (HR2.out.step hp.out hr.out)
  have HN3 := Lib.hid (HN2.out.rep HR2.out.n HR2.out.pr hr.out)
  clear hp hr K2 HR2 HN2
  have K3 := Lib.hid (tok1_call HR3.out ⟨#[125]⟩ [125] rfl (by decide))
  go_wp2_with fail
  refine K3.out.mono ?_
  rintro e w4 ⟨rfl, v4, hp, hr⟩
  have HR4 := Lib.hid (HR3.out.step hp.out hr.out)
  have HN4 := Lib.hid (HN3.out.rep HR3.out.n HR3.out.pr hr.out)
  clear hp hr K3 HR3 HN3
  go_wp2_with fail
  first | go_end0 | refine bodyPost_ret (results_none rfl _ _ _) rfl ?_
  exact HR4.out.done (by simp [memT])

set_option maxHeartbeats 2000000 in
theorem optional_any (before : ByteArray) (beforeT : Tok) (hbefore : Hid (Lx.L before = beforeT)) (hbefores : Hid (before.size ≤ 2200010)) (i : Nat) (hi : i ≤ 100000) (hN : NV w n0 m a cap c) (HP : Hid (∀ y, y ∈ c → PT b n0 y)) (h : PrIn w b n0 v0 text) (hn : n0 ≤ w.heap.size) :
    Calls Tryz.prog 205 #[.pointer (some ⟨b, 0, none⟩), .string before, nw kd vl tx st en nm c a cap, .int .i64 i] w (PW b n0 text (optT beforeT c (tokss c) i) v0 w) := by
  have hlen := hN.len
  by_cases hk : kAt c i = 0
  · have HT : Hid (optT beforeT c (tokss c) i = []) := by show _ = _; unfold optT; rw [if_pos hk]
    have HK := Lib.hid hk
    clear hk
    go_enter Tryz.func205, Tryz.ntmps205
    have HR0 := Lib.hid (PrRun.start h hn)
    have HN0 := Lib.hid hN
    go_upto_region 1 with fail
    obtain ⟨w1, hw1⟩ : ∃ w1, w1 = w.alloc (nbx kd vl tx st en nm c a cap) := ⟨_, rfl⟩
    rw [show World.alloc w _ = w1 from hw1.symm]
    have HR1 : Hid (PrRun b n0 w v0 text [] w1 v0) := by rw [hw1]; exact HR0.out.below (below_box _ _)
    have HX1 : Hid (BoxIn w1 v0 b w.heap.size (nbx kd vl tx st en nm c a cap)) := by rw [hw1]; exact BoxIn.made h
    have HN1 : Hid (NV w1 n0 m a cap c) := by rw [hw1]; exact HN0.out.below hn (below_box _ _)
    clear hw1 h hN
    obtain ⟨x0, x1, x2, x3, x4, x5, x6⟩ := cells7 HX1.out.h
    have KK := kind_any kd vl tx st en nm c a cap n0 m i w1 HN1.out HR1.out.n hi
    rw [HK.out] at KK
    have K1 := Lib.hid (KK)
    go_wp2_with fail
    refine K1.out.mono ?_
    rintro e w2 ⟨rfl, hb⟩
    have HR2 := Lib.hid (HR1.out.below hb)
    have HN2 := Lib.hid (HN1.out.below HR1.out.n hb)
    have HX2 := Lib.hid (HX1.out.below hb)
    clear hb K1 HR1 HN1 HX1 x0 x1 x2 x3 x4 x5 x6
    obtain ⟨x0, x1, x2, x3, x4, x5, x6⟩ := cells7 HX2.out.h
    go_wp2_with fail
    first | go_end0 | refine bodyPost_ret (results_none rfl _ _ _) rfl ?_
    exact HR2.out.done (by rw [HT.out])
  · have HT : Hid (optT beforeT c (tokss c) i = beforeT :: partT c (tokss c) i) := by show _ = _; unfold optT; rw [if_neg hk]
    have hkb : (kAt c i != 0) = true := by simpa using hk
    clear hk
    go_enter Tryz.func205, Tryz.ntmps205
    have HR0 := Lib.hid (PrRun.start h hn)
    have HN0 := Lib.hid hN
    go_upto_region 1 with fail
    obtain ⟨w1, hw1⟩ : ∃ w1, w1 = w.alloc (nbx kd vl tx st en nm c a cap) := ⟨_, rfl⟩
    rw [show World.alloc w _ = w1 from hw1.symm]
    have HR1 : Hid (PrRun b n0 w v0 text [] w1 v0) := by rw [hw1]; exact HR0.out.below (below_box _ _)
    have HX1 : Hid (BoxIn w1 v0 b w.heap.size (nbx kd vl tx st en nm c a cap)) := by rw [hw1]; exact BoxIn.made h
    have HN1 : Hid (NV w1 n0 m a cap c) := by rw [hw1]; exact HN0.out.below hn (below_box _ _)
    clear hw1 h hN
    obtain ⟨x0, x1, x2, x3, x4, x5, x6⟩ := cells7 HX1.out.h
    have K1 := Lib.hid (kind_any kd vl tx st en nm c a cap n0 m i w1 HN1.out HR1.out.n hi)
    go_wp2_with fail
    refine K1.out.mono ?_
    rintro e w2 ⟨rfl, hb⟩
    have HR2 := Lib.hid (HR1.out.below hb)
    have HN2 := Lib.hid (HN1.out.below HR1.out.n hb)
    have HX2 := Lib.hid (HX1.out.below hb)
    clear hb K1 HR1 HN1 HX1 x0 x1 x2 x3 x4 x5 x6
    obtain ⟨x0, x1, x2, x3, x4, x5, x6⟩ := cells7 HX2.out.h
    have K2 := Lib.hid (tok1_call HR2.out before beforeT hbefore.out hbefores.out)
    go_wp2_with fail
    refine K2.out.mono ?_
    rintro e w3 ⟨rfl, v3, hp, hr⟩
    have HR3 := Lib.hid (HR2.out.step hp.out hr.out)
    have HN3 := Lib.hid (HN2.out.rep HR2.out.n HR2.out.pr hr.out)
    have HX3 := Lib.hid (HX2.out.rep hr.out)
    clear hp hr K2 HR2 HN2 HX2 x0 x1 x2 x3 x4 x5 x6
    obtain ⟨x0, x1, x2, x3, x4, x5, x6⟩ := cells7 HX3.out.h
    have K3 := Lib.hid (part_any (kd := kd) (vl := vl) (tx := tx) (st := st) (en := en) (nm := nm) i hi HN3.out HP HR3.out.pr HR3.out.n)
    go_wp2_with fail
    refine K3.out.mono ?_
    rintro e w4 ⟨rfl, v4, hp, hr⟩
    have HR4 := Lib.hid (HR3.out.step hp.out hr.out)
    have HN4 := Lib.hid (HN3.out.rep HR3.out.n HR3.out.pr hr.out)
    have HX4 := Lib.hid (HX3.out.rep hr.out)
    clear hp hr K3 HR3 HN3 HX3 x0 x1 x2 x3 x4 x5 x6
    obtain ⟨x0, x1, x2, x3, x4, x5, x6⟩ := cells7 HX4.out.h
    go_wp2_with fail
    first | go_end0 | refine bodyPost_ret (results_none rfl _ _ _) rfl ?_
    exact HR4.out.done (by rw [HT.out]; simp)

set_option maxHeartbeats 2000000 in
theorem grouped_any (i : Nat) (hi : i ≤ 100000) (bare : Bool) (hN : NV w n0 m a cap c) (HP : Hid (∀ y, y ∈ c → PT b n0 y)) (h : PrIn w b n0 v0 text) (hn : n0 ≤ w.heap.size) :
    Calls Tryz.prog 207 #[.pointer (some ⟨b, 0, none⟩), nw kd vl tx st en nm c a cap, .int .i64 i, .bool bare] w (PW b n0 text (groupT c (tokss c) i bare) v0 w) := by
  cases bare with
  | true =>
    go_enter Tryz.func207, Tryz.ntmps207
    have HR0 := Lib.hid (PrRun.start h hn)
    have HN0 := Lib.hid hN
    go_upto_region 1 with fail
    obtain ⟨w1, hw1⟩ : ∃ w1, w1 = w.alloc (nbx kd vl tx st en nm c a cap) := ⟨_, rfl⟩
    rw [show World.alloc w _ = w1 from hw1.symm]
    have HR1 : Hid (PrRun b n0 w v0 text [] w1 v0) := by rw [hw1]; exact HR0.out.below (below_box _ _)
    have HX1 : Hid (BoxIn w1 v0 b w.heap.size (nbx kd vl tx st en nm c a cap)) := by rw [hw1]; exact BoxIn.made h
    have HN1 : Hid (NV w1 n0 m a cap c) := by rw [hw1]; exact HN0.out.below hn (below_box _ _)
    clear hw1 h hN
    obtain ⟨x0, x1, x2, x3, x4, x5, x6⟩ := cells7 HX1.out.h
    have K1 := Lib.hid (part_any (kd := kd) (vl := vl) (tx := tx) (st := st) (en := en) (nm := nm) i hi HN1.out HP HR1.out.pr HR1.out.n)
    go_wp2_with fail
    refine K1.out.mono ?_
    rintro e w2 ⟨rfl, v2, hp, hr⟩
    have HR2 := Lib.hid (HR1.out.step hp.out hr.out)
    have HN2 := Lib.hid (HN1.out.rep HR1.out.n HR1.out.pr hr.out)
    have HX2 := Lib.hid (HX1.out.rep hr.out)
    clear hp hr K1 HR1 HN1 HX1 x0 x1 x2 x3 x4 x5 x6
    obtain ⟨x0, x1, x2, x3, x4, x5, x6⟩ := cells7 HX2.out.h
    go_wp2_with fail
    first | go_end0 | refine bodyPost_ret (results_none rfl _ _ _) rfl ?_
    exact HR2.out.done (by simp [groupT])
  | false =>
    go_enter Tryz.func207, Tryz.ntmps207
    have HR0 := Lib.hid (PrRun.start h hn)
    have HN0 := Lib.hid hN
    go_upto_region 1 with fail
    obtain ⟨w1, hw1⟩ : ∃ w1, w1 = w.alloc (nbx kd vl tx st en nm c a cap) := ⟨_, rfl⟩
    rw [show World.alloc w _ = w1 from hw1.symm]
    have HR1 : Hid (PrRun b n0 w v0 text [] w1 v0) := by rw [hw1]; exact HR0.out.below (below_box _ _)
    have HX1 : Hid (BoxIn w1 v0 b w.heap.size (nbx kd vl tx st en nm c a cap)) := by rw [hw1]; exact BoxIn.made h
    have HN1 : Hid (NV w1 n0 m a cap c) := by rw [hw1]; exact HN0.out.below hn (below_box _ _)
    clear hw1 h hN
    obtain ⟨x0, x1, x2, x3, x4, x5, x6⟩ := cells7 HX1.out.h
    have K1 := Lib.hid (tok1_call HR1.out ⟨#[40]⟩ [40] rfl (by decide))
    go_wp2_with fail
    refine K1.out.mono ?_
    rintro e w2 ⟨rfl, v2, hp, hr⟩
    have HR2 := Lib.hid (HR1.out.step hp.out hr.out)
    have HN2 := Lib.hid (HN1.out.rep HR1.out.n HR1.out.pr hr.out)
    have HX2 := Lib.hid (HX1.out.rep hr.out)
    clear hp hr K1 HR1 HN1 HX1 x0 x1 x2 x3 x4 x5 x6
    obtain ⟨x0, x1, x2, x3, x4, x5, x6⟩ := cells7 HX2.out.h
    have K2 := Lib.hid (part_any (kd := kd) (vl := vl) (tx := tx) (st := st) (en := en) (nm := nm) i hi HN2.out HP HR2.out.pr HR2.out.n)
    go_wp2_with fail
    refine K2.out.mono ?_
    rintro e w3 ⟨rfl, v3, hp, hr⟩
    have HR3 := Lib.hid (HR2.out.step hp.out hr.out)
    have HN3 := Lib.hid (HN2.out.rep HR2.out.n HR2.out.pr hr.out)
    have HX3 := Lib.hid (HX2.out.rep hr.out)
    clear hp hr K2 HR2 HN2 HX2 x0 x1 x2 x3 x4 x5 x6
    obtain ⟨x0, x1, x2, x3, x4, x5, x6⟩ := cells7 HX3.out.h
    have K3 := Lib.hid (tok1_call HR3.out ⟨#[41]⟩ [41] rfl (by decide))
    go_wp2_with fail
    refine K3.out.mono ?_
    rintro e w4 ⟨rfl, v4, hp, hr⟩
    have HR4 := Lib.hid (HR3.out.step hp.out hr.out)
    have HN4 := Lib.hid (HN3.out.rep HR3.out.n HR3.out.pr hr.out)
    have HX4 := Lib.hid (HX3.out.rep hr.out)
    clear hp hr K3 HR3 HN3 HX3 x0 x1 x2 x3 x4 x5 x6
    obtain ⟨x0, x1, x2, x3, x4, x5, x6⟩ := cells7 HX4.out.h
    go_wp2_with fail
    first | go_end0 | refine bodyPost_ret (results_none rfl _ _ _) rfl ?_
    exact HR4.out.done (by simp [groupT])

set_option maxHeartbeats 4000000 in
theorem operand_any (i : Nat) (hi : i ≤ 100000) (hN : NV w n0 m a cap c) (HP : Hid (∀ y, y ∈ c → PT b n0 y)) (h : PrIn w b n0 v0 text) (hn : n0 ≤ w.heap.size) :
    Calls Tryz.prog 213 #[.pointer (some ⟨b, 0, none⟩), nw kd vl tx st en nm c a cap, .int .i64 i] w (PW b n0 text (operT c (tokss c) i) v0 w) := by
  go_enter Tryz.func213, Tryz.ntmps213
  have HR0 := Lib.hid (PrRun.start h hn)
  have HN0 := Lib.hid hN
  go_upto_region 1 with fail
  obtain ⟨w1, hw1⟩ : ∃ w1, w1 = w.alloc (nbx kd vl tx st en nm c a cap) := ⟨_, rfl⟩
  rw [show World.alloc w _ = w1 from hw1.symm]
  have HR1 : Hid (PrRun b n0 w v0 text [] w1 v0) := by rw [hw1]; exact HR0.out.below (below_box _ _)
  have HX1 : Hid (BoxIn w1 v0 b w.heap.size (nbx kd vl tx st en nm c a cap)) := by rw [hw1]; exact BoxIn.made h
  have HN1 : Hid (NV w1 n0 m a cap c) := by rw [hw1]; exact HN0.out.below hn (below_box _ _)
  clear hw1 h hN
  obtain ⟨x0, x1, x2, x3, x4, x5, x6⟩ := cells7 HX1.out.h
  have hbd : Below w1.heap.size w1 w1.drew := (Below.refl _ _).drew
  have K1 : Hid (Calls Tryz.prog 209 #[nw kd vl tx st en nm c a cap, .int .i64 i] w1.drew fun e w' => e = .returned (.int .i64 (kAt c i)) ∧ Hid (Below w1.heap.size w1 w') ∧ (w'.cell? ⟨w.heap.size, 0, none⟩ = some (.int .i64 kd) ∧ w'.cell? ⟨w.heap.size, 1, none⟩ = some (.int .i64 vl) ∧ w'.cell? ⟨w.heap.size, 2, none⟩ = some (.string (Lx.bs tx)) ∧ w'.cell? ⟨w.heap.size, 3, none⟩ = some (.int .i64 st) ∧ w'.cell? ⟨w.heap.size, 4, none⟩ = some (.int .i64 en) ∧ w'.cell? ⟨w.heap.size, 5, none⟩ = some (.int .i64 nm) ∧ w'.cell? ⟨w.heap.size, 6, none⟩ = some (.slice a c.length cap)) ∧ Hid (∀ bare, Calls Tryz.prog 207 #[.pointer (some ⟨b, 0, none⟩), nw kd vl tx st en nm c a cap, .int .i64 i, .bool bare] w' (PW b n0 text (groupT c (tokss c) i bare) v0 w')) ∧ Hid (PrRun b n0 w v0 text [] w' v0)) := by
    refine (kind_any kd vl tx st en nm c a cap n0 m i w1.drew (HN1.out.below HR1.out.n hbd) (Nat.le_trans HR1.out.n hbd.size) hi).mono ?_
    rintro e w' ⟨rfl, hb⟩
    have hb' := hbd.trans hb
    have hr' := HR1.out.below hb'
    exact ⟨rfl, hb', cells7 (HX1.out.below hb').h, fun bare => grouped_any i hi bare (HN1.out.below HR1.out.n hb') HP hr'.pr hr'.n, hr'⟩
  have K2 := Lib.hid (fun k W => isBare_any k W)
  go_region_with (first
    | (go_at_call 209; refine K1.out.mono ?_; rintro e w2 ⟨rfl, HB2, ⟨y0, y1, y2, y3, y4, y5, y6⟩, K3, HR2⟩)
    | (go_at_call 241; refine (K2.out _ _).mono ?_; rintro e w3 ⟨rfl, rfl⟩)
    | (go_at_call 207; refine (K3.out _).mono ?_; rintro e w4 ⟨rfl, v4, hp4, hr4⟩))
  all_goals
    have HR4 := Lib.hid (HR2.out.step hp4.out hr4.out)
    go_wp2_with fail
    first | go_end0 | refine bodyPost_ret (results_none rfl _ _ _) rfl ?_
    exact HR4.out.done rfl

set_option maxHeartbeats 2000000 in
theorem def_any  (hN : NV w n0 m a cap c) (HP : Hid (∀ y, y ∈ c → PT b n0 y)) (h : PrIn w b n0 v0 text) (hn : n0 ≤ w.heap.size) :
    Calls Tryz.prog 202 #[.pointer (some ⟨b, 0, none⟩), nw kd vl tx st en nm c a cap] w (PW b n0 text (defT c (tokss c)) v0 w) := by
  go_enter Tryz.func202, Tryz.ntmps202
  have HR0 := Lib.hid (PrRun.start h hn)
  have HN0 := Lib.hid hN
  go_upto_region 1 with fail
  obtain ⟨w1, hw1⟩ : ∃ w1, w1 = w.alloc (nbx kd vl tx st en nm c a cap) := ⟨_, rfl⟩
  rw [show World.alloc w _ = w1 from hw1.symm]
  have HR1 : Hid (PrRun b n0 w v0 text [] w1 v0) := by rw [hw1]; exact HR0.out.below (below_box _ _)
  have HX1 : Hid (BoxIn w1 v0 b w.heap.size (nbx kd vl tx st en nm c a cap)) := by rw [hw1]; exact BoxIn.made h
  have HN1 : Hid (NV w1 n0 m a cap c) := by rw [hw1]; exact HN0.out.below hn (below_box _ _)
  clear hw1 h hN
  obtain ⟨x0, x1, x2, x3, x4, x5, x6⟩ := cells7 HX1.out.h
  have K1 := Lib.hid (tok1_call HR1.out ⟨#[61]⟩ [61] rfl (by decide))
  go_wp2_with fail
  refine K1.out.mono ?_
  rintro e w2 ⟨rfl, v2, hp, hr⟩
  have HR2 := Lib.hid (HR1.out.step hp.out hr.out)
  have HN2 := Lib.hid (HN1.out.rep HR1.out.n HR1.out.pr hr.out)
  have HX2 := Lib.hid (HX1.out.rep hr.out)
  clear hp hr K1 HR1 HN1 HX1 x0 x1 x2 x3 x4 x5 x6
  obtain ⟨x0, x1, x2, x3, x4, x5, x6⟩ := cells7 HX2.out.h
  have K2 := Lib.hid (part_any (kd := kd) (vl := vl) (tx := tx) (st := st) (en := en) (nm := nm) 1 (by decide) HN2.out HP HR2.out.pr HR2.out.n)
  go_wp2_with fail
  refine K2.out.mono ?_
  rintro e w3 ⟨rfl, v3, hp, hr⟩
  have HR3 := Lib.hid (HR2.out.step hp.out hr.out)
  have HN3 := Lib.hid (HN2.out.rep HR2.out.n HR2.out.pr hr.out)
  have HX3 := Lib.hid (HX2.out.rep hr.out)
  clear hp hr K2 HR2 HN2 HX2 x0 x1 x2 x3 x4 x5 x6
  obtain ⟨x0, x1, x2, x3, x4, x5, x6⟩ := cells7 HX3.out.h
  have K3 := Lib.hid (tok1_call HR3.out ⟨#[59]⟩ [59] rfl (by decide))
  go_wp2_with fail
  refine K3.out.mono ?_
  rintro e w4 ⟨rfl, v4, hp, hr⟩
  have HR4 := Lib.hid (HR3.out.step hp.out hr.out)
  have HN4 := Lib.hid (HN3.out.rep HR3.out.n HR3.out.pr hr.out)
  have HX4 := Lib.hid (HX3.out.rep hr.out)
  clear hp hr K3 HR3 HN3 HX3 x0 x1 x2 x3 x4 x5 x6
  obtain ⟨x0, x1, x2, x3, x4, x5, x6⟩ := cells7 HX4.out.h
  go_wp2_with fail
  first | go_end0 | refine bodyPost_ret (results_none rfl _ _ _) rfl ?_
  exact HR4.out.done (by simp [defT])

end
end Go.Proofs.YtcpojagfnpajeaaGreatDoorR.Ps

namespace Go.Proofs.YtcpojagfnpajeaaGreatDoorR.Ps
open Go.RowKit

def escL : List UInt8 → List UInt8
  | [] => []
  | c :: r => if c == 10 then 92 :: 110 :: escL r else if c == 34 || c == 92 then 92 :: c :: escL r else c :: escL r
theorem quoteL_esc (l : List UInt8) : quoteL l = escL l ++ [34] := by
  induction l with
  | nil => rfl
  | cons c r ih =>
    simp only [quoteL, escL]
    split
    · simp [ih]
    · split <;> simp [ih]
theorem escL_append (a b : List UInt8) : escL (a ++ b) = escL a ++ escL b := by
  induction a with
  | nil => rfl
  | cons c r ih =>
    simp only [List.cons_append, escL]
    split
    · simp [ih]
    · split <;> simp [ih]
theorem escL_len (a : List UInt8) : (escL a).length ≤ 2 * a.length := by
  induction a with
  | nil => simp [escL]
  | cons c r ih =>
    simp only [escL]
    split
    · simp; omega
    · split <;> simp <;> omega
theorem escL_take {l : List UInt8} {k : Nat} {c : UInt8} (h : l[k]? = some c) : escL (l.take (k + 1)) = escL (l.take k) ++ escL [c] := by
  rw [List.take_add_one, h, escL_append]; rfl
theorem quoteS_len (l : List UInt8) : (quoteS l).length ≤ 2 * l.length + 2 := by
  have := escL_len l
  unfold quoteS
  rw [quoteL_esc]
  simp; omega
theorem esc_nl {c : UInt8} (h : (c == 10) = true) : escL [c] = [92, 110] := by simp [escL, h]
theorem esc_q {c : UInt8} (h : (c == 10) = false) (h2 : (c == 34 || c == 92) = true) : escL [c] = [92, c] := by simp only [escL, h, h2]; rfl
theorem esc_o {c : UInt8} (h : (c == 10) = false) (h2 : (c == 34 || c == 92) = false) : escL [c] = [c] := by simp only [escL, h, h2]; rfl

theorem below_grown {w w' : World} {B : Nat} {e : TypeId} {size n : Nat} {v : Value} {xs : List Value} {o : Obj} (hg : (w.alloc o).grownBy w' v.ownBlock) (h : w.ownsRow B e size v n xs) (hB : B ≤ w.heap.size) : Below B w w' := by
  refine ⟨hg.os, hg.tape, hg.output, by have := hg.size; simp at this; omega, fun j hj => ?_⟩
  rw [hg.block j (by simp; omega) (fun e => by have := (World.ownsRow.lt h j e.symm).1; omega), Lib.alloc_old w _ j (by omega)]

/-- The cells of a row of bytes give the string. -/
theorem conv_own (w : World) (B : Nat) (v : Value) (n : Nat) (l : List UInt8) (h : w.ownsRow B 5 1 v n (u8s l)) (hl : 0 < l.length) : (convert 97 9 v).run Tryz.prog w = .ok (.string (Lx.bs l)) w := by
  have hn : n = l.length := by have := h.1; rw [u8s_length] at this; omega
  subst hn
  rcases h.2 with ⟨_, h0⟩ | ⟨g, cap, cur, rfl, _⟩
  · omega
  · refine run_convert_bytes_back w 97 9 5 ⟨g, 0, none⟩ cap l Tryz.underlying97 Tryz.underlying5 Tryz.underlying9 (fun j hj => ?_)
    have := h.cells (g := g) rfl j (.int .u8 (l[j].toNat : Int)) (by simp [u8s, List.getElem?_map, List.getElem?_eq_getElem hj])
    exact this

theorem lit_own (w : World) (l : List UInt8) (hl : l.length ≤ 1000) : (w.alloc (.cells (u8s l).toArray 5)).ownsRow w.heap.size 5 1 (.slice (some ⟨w.heap.size, 0, none⟩) l.length l.length) l.length (u8s l) := by
  refine ⟨by rw [u8s_length]; omega, Or.inr ⟨w.heap.size, l.length, (u8s l).toArray, rfl, Nat.le_refl _, heap_alloc_new _ _, Nat.le_refl _, by unfold maxLen; omega, by simp [u8s_length], ?_⟩⟩
  rw [List.take_of_length_le (by simp [u8s_length])]

set_option maxHeartbeats 4000000 in
set_option maxRecDepth 100000 in
theorem quote_any (s : ByteArray) (w : World) (hs : s.size ≤ 1100000) : Calls Tryz.prog 48 #[.string s] w fun e w' => e = .returned (.string (Lx.bs (quoteS (Lx.L s)))) ∧ Below w.heap.size w w' := by
  obtain ⟨i0, hi, hz0, hz1, hz2⟩ := info_parts info_u8
  have HLEN : Hid ((Lx.L s).length = s.size) := Lx.L_len s
  have HLO := Lib.hid (lit_own w [34] (by decide))
  go_enter Tryz.func48, Tryz.ntmps48
  go_wp2_with fail
  go_loopw [3, 8] (fun v i wr => ∃ k : Nat, k ≤ s.size ∧ i = .int .i64 k ∧ Hid (wr.ownsRow w.heap.size 5 1 v (34 :: escL ((Lx.L s).take k)).length (u8s (34 :: escL ((Lx.L s).take k)))) ∧ Hid (Below w.heap.size w wr))
    (fun _ i _ => s.size - (intOf i).toNat)
  case atStart => exact ⟨0, Nat.zero_le _, rfl, HLO, Lib.hid (below_box _ _)⟩
  case round =>
    obtain ⟨k, hk, rfl, hown, hb⟩ := hrel
    have hBr := hb.out.size
    by_cases hlt : k < s.size
    · obtain ⟨c, hc⟩ : ∃ c, s[k]'hlt = c := ⟨_, rfl⟩
      have hatc := Lx.at_L s k hlt
      rw [hc] at hatc
      have HT := Lib.hid (escL_take hatc)
      have hl1 : (k : Int) < (s.size : Int) := by omega
      have hk0 : (0 : Int) ≤ (k : Int) := by omega
      have HKL : Hid (k < s.size) := hlt
      have hal : (34 :: escL ((Lx.L s).take k)).length ≤ 2200002 := by
        have := escL_len ((Lx.L s).take k)
        rw [List.length_take] at this
        simp only [List.length_cons]
        omega
      obtain ⟨acc, hacc⟩ : ∃ acc, acc = 34 :: escL ((Lx.L s).take k) := ⟨_, rfl⟩
      rw [← hacc] at hown hal
      have HACC : Hid (∀ q, escL [c] = q → 34 :: escL ((Lx.L s).take (k + 1)) = acc ++ q) := fun q hq => by rw [HT.out, hq, hacc]; rfl
      clear hatc HT hacc
      by_cases h10 : (c.toNat : Int) = 10
      · have HE := Lib.hid (HACC.out _ (esc_nl (eq_byte (d := 10) rfl h10)))
        have hown' := hown.out
        go_wp2_with (at_builtin; refine wpList_append_src rfl _ _ 97 rfl w.heap.size 5 i0 _ 1 1 Tryz.underlying97 hi hz0 hz1 hz2 rfl (by decide) _ _ _ rfl (hown'.alloc _) _ 2 (u8s [92, 110]) rfl (src_lit wr (u8s [92, 110]) 5 2 1 2 rfl (fun u hu => by simp [u8s] at hu; rcases hu with rfl | rfl <;> rfl)) ?c3 ?c4 ?c5 ?_)
        case c3 => unfold maxLen; omega
        case c4 => omega
        case c5 => simp; omega
        intro v3 w3 hown3 hgr3 hrow3
        have HO3 : Hid (w3.ownsRow w.heap.size 5 1 v3 (34 :: escL ((Lx.L s).take (k + 1))).length (u8s (34 :: escL ((Lx.L s).take (k + 1))))) := by show World.ownsRow _ _ _ _ _ _ _; rw [HE.out, u8s_append, List.length_append]; exact hown3
        have HB3 : Hid (Below w.heap.size w w3) := hb.out.trans (below_grown hgr3 hown' hBr)
        clear hown3 hgr3 hrow3 hown'
        go_wp2_with fail
        go_round
        case rel => exact ⟨k + 1, HKL.out, (by go_num), HO3, HB3⟩
        case measure => have := HKL.out; simp [intOf]; omega
      · have g10 : ((c.toNat : Int) == 10) = false := by simpa using h10
        have n10 := ne_byte (d := 10) rfl h10
        by_cases h34 : (c.toNat : Int) = 34
        · have HE := Lib.hid (HACC.out _ (esc_q n10 (by rw [eq_byte (d := 34) rfl h34]; rfl)))
          have HC34 : Hid (c = 34) := by show _ = _; have := eq_byte (d := 34) rfl h34; simpa using this
          rw [HC34.out] at HE
          clear h10 g10 n10
          have hown' := hown.out
          go_wp2_with (at_builtin; refine wpList_append_src rfl _ _ 97 rfl w.heap.size 5 i0 _ 1 1 Tryz.underlying97 hi hz0 hz1 hz2 rfl (by decide) _ _ _ rfl (hown'.alloc _) _ 2 (u8s [92, 34]) rfl (src_lit wr (u8s [92, 34]) 5 2 1 2 rfl (fun u hu => by simp [u8s] at hu; rcases hu with rfl | rfl <;> rfl)) ?c3 ?c4 ?c5 ?_)
          case c3 => unfold maxLen; omega
          case c4 => omega
          case c5 => simp; omega
          intro v3 w3 hown3 hgr3 hrow3
          have HO3 : Hid (w3.ownsRow w.heap.size 5 1 v3 (34 :: escL ((Lx.L s).take (k + 1))).length (u8s (34 :: escL ((Lx.L s).take (k + 1))))) := by show World.ownsRow _ _ _ _ _ _ _; rw [HE.out, u8s_append, List.length_append]; exact hown3
          have HB3 : Hid (Below w.heap.size w w3) := hb.out.trans (below_grown hgr3 hown' hBr)
          clear hown3 hgr3 hrow3 hown'
          go_wp2_with fail
          go_round
          case rel => exact ⟨k + 1, HKL.out, (by go_num), HO3, HB3⟩
          case measure => have := HKL.out; simp [intOf]; omega
        · have g34 : ((c.toNat : Int) == 34) = false := by simpa using h34
          by_cases h92 : (c.toNat : Int) = 92
          · have HE := Lib.hid (HACC.out _ (esc_q n10 (by rw [eq_byte (d := 92) rfl h92]; simp)))
            have HC92 : Hid (c = 92) := by show _ = _; have := eq_byte (d := 92) rfl h92; simpa using this
            rw [HC92.out] at HE
            clear h10 h34 n10
            have hown' := hown.out
            go_wp2_with (at_builtin; refine wpList_append_src rfl _ _ 97 rfl w.heap.size 5 i0 _ 1 1 Tryz.underlying97 hi hz0 hz1 hz2 rfl (by decide) _ _ _ rfl (hown'.alloc _) _ 2 (u8s [92, 92]) rfl (src_lit wr (u8s [92, 92]) 5 2 1 2 rfl (fun u hu => by simp [u8s] at hu; rcases hu with rfl | rfl <;> rfl)) ?c3 ?c4 ?c5 ?_)
            case c3 => unfold maxLen; omega
            case c4 => omega
            case c5 => simp; omega
            intro v3 w3 hown3 hgr3 hrow3
            have HO3 : Hid (w3.ownsRow w.heap.size 5 1 v3 (34 :: escL ((Lx.L s).take (k + 1))).length (u8s (34 :: escL ((Lx.L s).take (k + 1))))) := by show World.ownsRow _ _ _ _ _ _ _; rw [HE.out, u8s_append, List.length_append]; exact hown3
            have HB3 : Hid (Below w.heap.size w w3) := hb.out.trans (below_grown hgr3 hown' hBr)
            clear hown3 hgr3 hrow3 hown'
            go_wp2_with fail
            go_round
            case rel => exact ⟨k + 1, HKL.out, (by go_num), HO3, HB3⟩
            case measure => have := HKL.out; simp [intOf]; omega
          · have g92 : ((c.toNat : Int) == 92) = false := by simpa using h92
            have HE := Lib.hid (HACC.out _ (esc_o n10 (by rw [ne_byte (d := 34) rfl h34, ne_byte (d := 92) rfl h92]; rfl)))
            clear h10 h34 h92 n10
            have hown' := hown.out
            go_wp2_with (at_builtin; refine wpList_append_src rfl _ _ 97 rfl w.heap.size 5 i0 _ 1 1 Tryz.underlying97 hi hz0 hz1 hz2 rfl (by decide) _ _ _ rfl (hown'.alloc _) _ 1 (u8s [c]) rfl (src_lit wr (u8s [c]) 5 1 1 1 rfl (fun u hu => by simp [u8s] at hu; subst hu; rfl)) ?c3 ?c4 ?c5 ?_)
            case c3 => unfold maxLen; omega
            case c4 => omega
            case c5 => simp; omega
            intro v3 w3 hown3 hgr3 hrow3
            have HO3 : Hid (w3.ownsRow w.heap.size 5 1 v3 (34 :: escL ((Lx.L s).take (k + 1))).length (u8s (34 :: escL ((Lx.L s).take (k + 1))))) := by show World.ownsRow _ _ _ _ _ _ _; rw [HE.out, u8s_append, List.length_append]; exact hown3
            have HB3 : Hid (Below w.heap.size w w3) := hb.out.trans (below_grown hgr3 hown' hBr)
            clear hown3 hgr3 hrow3 hown'
            go_wp2_with fail
            go_round
            case rel => exact ⟨k + 1, HKL.out, (by go_num), HO3, HB3⟩
            case measure => have := HKL.out; simp [intOf]; omega
    · have hkl : k = s.size := by omega
      subst hkl
      have hall : (Lx.L s).take s.size = Lx.L s := List.take_of_length_le (by rw [HLEN.out]; exact Nat.le_refl _)
      have hq : quoteS (Lx.L s) = (34 :: escL (Lx.L s)) ++ [34] := by unfold quoteS; rw [quoteL_esc]; rfl
      have HQ := Lib.hid hq
      have hal : (34 :: escL (Lx.L s)).length ≤ 2200002 := by
        have := escL_len (Lx.L s)
        have := HLEN.out
        simp only [List.length_cons]
        omega
      rw [hall] at hown
      clear hq hall
      obtain ⟨acc, hacc⟩ : ∃ acc, acc = 34 :: escL (Lx.L s) := ⟨_, rfl⟩
      rw [← hacc] at hown hal HQ
      clear hacc
      have hown' := hown.out
      go_upto_region 13 with fail
      go_wp2_with (at_builtin; refine wpList_append_src rfl _ _ 97 rfl w.heap.size 5 i0 _ 1 1 Tryz.underlying97 hi hz0 hz1 hz2 rfl (by decide) _ _ _ rfl (hown'.alloc _) _ 1 (u8s [34]) rfl (src_lit wr (u8s [34]) 5 1 1 1 rfl (fun u hu => by simp [u8s] at hu; subst hu; rfl)) ?c3 ?c4 ?c5 ?_)
      case c3 => unfold maxLen; omega
      case c4 => omega
      case c5 => simp; omega
      intro v3 w3 hown3 hgr3 hrow3
      have hown4 : w3.ownsRow w.heap.size 5 1 v3 (acc ++ [34]).length (u8s (acc ++ [34])) := by rw [u8s_append, List.length_append]; exact hown3
      have hcv := conv_own w3 w.heap.size v3 _ (acc ++ [34]) hown4 (by simp)
      have HB3 : Hid (Below w.heap.size w w3) := hb.out.trans (below_grown hgr3 hown' hBr)
      clear hown3 hown4 hgr3 hrow3
      go_wp2_with fail
      go_ret
      exact ⟨(by rw [HQ.out]; rfl), HB3.out⟩

theorem itoa_any (n : Int) (w : World) (hn : I64 n) (ht : Tab w) : Calls Tryz.prog 210 #[.int .i64 n] w fun e w' => e = .returned (.string (Lx.bs (Lib.itoa n))) ∧ Below w.heap.size w w' := by
  refine (Tryz.strconv_Itoa n hn.1 hn.2 w ht).mono ?_
  rintro e w' ⟨rfl, k, os, rfl⟩
  refine ⟨rfl, ⟨rfl, rfl, rfl, ?_, fun j hj => ?_⟩⟩
  · show w.heap.size ≤ (w.heap ++ _).size
    simp
  · show (w.heap ++ _)[j]? = _
    rw [Array.getElem?_append_left hj]
theorem fbool_any (b : Bool) (w : World) : Calls Tryz.prog 211 #[.bool b] w fun e w' => e = .returned (.string (Lx.bs (if b then [116, 114, 117, 101] else [102, 97, 108, 115, 101]))) ∧ w' = w := by
  refine (Tryz.strconv_FormatBool b w).mono ?_
  rintro e w' ⟨rfl, rfl⟩
  cases b <;> exact ⟨rfl, rfl⟩
end Go.Proofs.YtcpojagfnpajeaaGreatDoorR.Ps
