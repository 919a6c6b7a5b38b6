/-
  The example, sources that are too long, ParserLossless.
-/
import Derived.Test.YtcpojagfnpajeaaGreatDoorRZAsParse
import Derived.Test.YtcpojagfnpajeaaGreatDoorRZRpSource
import Derived.Test.YtcpojagfnpajeaaGreatDoorRZGtSame2
import Derived.KernelRfl
namespace Go.Proofs.YtcpojagfnpajeaaGreatDoorR.Ps
open Go.RowKit

def exB : ByteArray := ⟨#[99, 111, 110, 115, 116, 32, 99, 58, 32, 105, 110, 116, 32, 61, 32, 59]⟩
set_option maxRecDepth 100000 in
theorem exB_diag : diagA (Lx.L exB) = [⟨1, 14, 14⟩] := by decide +kernel
set_option maxRecDepth 100000 in
theorem exB_kids : (rootA (Lx.L exB)).c.map Nd.k = [8] := by decide +kernel
theorem exB_size : exB.size = 16 := by decide +kernel

set_option maxHeartbeats 1000000 in
theorem eqd_one (g c g2 c2 B : Nat) (x : Dg) (w : World) (h : OwnsD w B (.slice (some ⟨g, 0, none⟩) 1 c) [x]) (h2 : w.heap[g2]? = some (.cells #[.int .i64 x.c, .int .i64 0, .int .i64 x.s, .int .i64 x.e, .string ⟨#[]⟩] 73 (0, 0))) :
    Calls Tryz.prog 36 #[.slice (some ⟨g, 0, none⟩) 1 c, .slice (some ⟨g2, 0, none⟩) 1 c2] w fun e w' => e = .returned (.bool true) ∧ Below w.heap.size w w' := by
  obtain ⟨⟨c0, c1, c2', c3, c4⟩, _⟩ := five h (i := 0) (x := x) rfl
  simp only [Nat.zero_mul, Nat.zero_add] at c0 c1 c2' c3 c4
  have d0 : w.cell? ⟨g2, 0, none⟩ = some (.int .i64 x.c) := by rw [Lib.cell_of_heap h2]; rfl
  have d1 : w.cell? ⟨g2, 1, none⟩ = some (.int .i64 0) := by rw [Lib.cell_of_heap h2]; rfl
  have d2 : w.cell? ⟨g2, 2, none⟩ = some (.int .i64 x.s) := by rw [Lib.cell_of_heap h2]; rfl
  have d3 : w.cell? ⟨g2, 3, none⟩ = some (.int .i64 x.e) := by rw [Lib.cell_of_heap h2]; rfl
  have d4 : w.cell? ⟨g2, 4, none⟩ = some (.string ⟨#[]⟩) := by rw [Lib.cell_of_heap h2]; rfl
  clear h h2
  go_enter Tryz.func36, Tryz.ntmps36
  go_wp2_with fail
  go_loopw [13] (fun s wr => (s = .int .i64 0 ∧ Hid (wr = w)) ∨ (s = .int .i64 1 ∧ Hid (wr = w.drew)))
    (fun i _ => 1 - (intOf i).toNat)
  case atStart => exact Or.inl ⟨rfl, Lib.hid rfl⟩
  case round =>
    rcases hrel with ⟨rfl, hw⟩ | ⟨rfl, hw⟩
    · have hw' : wr = w := hw.out
      subst hw'
      clear hw
      go_upto_region 6 with fail
      go_region
      go_wp2_with fail
      go_round
      case rel => exact Or.inr ⟨rfl, (by first | exact Lib.hid rfl | exact Lib.hid trivial)⟩
      case measure => simp [intOf]
    · have HB : Hid (Below w.heap.size w wr) := by show Below _ _ _; rw [hw.out]; exact (Below.refl _ _).drew
      clear hw
      go_wp2_with fail
      go_ret
      exact ⟨rfl, HB.out⟩

set_option maxRecDepth 100000 in
set_option maxHeartbeats 4000000 in
theorem example_any (w : World) (hv : Vars w) : Calls Tryz.prog 14 #[] w fun e w' => e = .returned (.bool true) ∧ Below w.heap.size w w' := by
  have K1 := Lib.hid (parse_any exB w (by rw [exB_size]; decide) hv)
  obtain ⟨R, hR⟩ : ∃ R, R = rootA (Lx.L exB) := ⟨_, rfl⟩
  have hk := exB_kids
  rw [exB_diag, ← hR] at K1
  rw [← hR] at hk
  clear hR
  obtain ⟨y, hy⟩ : ∃ y, R.c = [y] := by
    cases hc : R.c with
    | nil => rw [hc] at hk; cases hk
    | cons y r =>
      cases r with
      | nil => exact ⟨y, rfl⟩
      | cons z r => rw [hc] at hk; simp at hk
  rw [hy] at hk
  have hyk : y.k = 8 := by simpa using hk
  have HL : Hid (R.c.length = 1) := by show _ = _; rw [hy]; rfl
  have HY : Hid (R.c[0]? = some y) := by show _ = _; rw [hy]; rfl
  have HYK := Lib.hid hyk
  clear hy hk hyk
  have K1' : Hid (Calls Tryz.prog 20 #[.string ⟨#[99, 111, 110, 115, 116, 32, 99, 58, 32, 105, 110, 116, 32, 61, 32, 59]⟩] w _) := K1
  clear K1
  go_enter Tryz.func14, Tryz.ntmps14
  go_wp2_with fail
  refine K1'.out.mono ?_
  rintro e w1 ⟨sa, cap, dv, m, rfl, hp⟩
  obtain ⟨_, m0, b, o, sa1, cap1, t1, _, rfl, ⟨rfl, hS, hpl, _⟩, _, _, _, _, hsev, _⟩ := hp.out.nds.at HY.out
  have q0 := hsev.c0
  rw [HYK.out] at q0
  simp only [Nat.zero_mul, Nat.zero_add] at q0
  have hB1 := hp.out.below
  have hz := hB1.size
  obtain ⟨gd, cd, rfl, hdl⟩ : ∃ gd cd, dv = .slice (some ⟨gd, 0, none⟩) 1 cd ∧ gd < w1.heap.size := by
    have h := hp.out.dg
    rcases h.2 with ⟨_, h0⟩ | ⟨g, cap, cur, e, _, hh, _⟩
    · cases h0
    · exact ⟨g, cap, e, (Array.getElem?_eq_some_iff.1 hh).1⟩
  have HD : Hid (OwnsD w1 w.heap.size (.slice (some ⟨gd, 0, none⟩) 1 cd) [⟨1, 14, 14⟩]) := hp.out.dg
  clear hp hsev
  have HNV : nv R R.t (some ⟨b, 0, none⟩) cap = .agg #[.int .i64 R.k, .int .i64 R.v, .string (Lx.bs R.t), .int .i64 R.s, .int .i64 R.e, .int .i64 R.ns, .slice (some ⟨b, 0, none⟩) 1 cap] := by
    show Value.agg #[_, _, _, _, _, _, .slice (some ⟨b, 0, none⟩) R.c.length cap] = _
    rw [HL.out]
  rw [HNV]
  clear HNV HL HY
  go_upto_region 2 with fail
  obtain ⟨w2, hw2⟩ : ∃ w2, w2 = w1.alloc (.cells #[.int .i64 R.k, .int .i64 R.v, .string (Lx.bs R.t), .int .i64 R.s, .int .i64 R.e, .int .i64 R.ns, .slice (some ⟨b, 0, none⟩) 1 cap] 36) := ⟨_, rfl⟩
  rw [show World.alloc w1 _ = w2 from hw2.symm]
  have hbx : w2.heap[w1.heap.size]? = some (.cells #[.int .i64 R.k, .int .i64 R.v, .string (Lx.bs R.t), .int .i64 R.s, .int .i64 R.e, .int .i64 R.ns, .slice (some ⟨b, 0, none⟩) 1 cap] 36 (0, 0)) := by rw [hw2]; exact heap_alloc_new _ _
  have hB2 : Below w1.heap.size w1 w2 := by rw [hw2]; exact below_box _ _
  have hbl := hpl.lt
  have q0' := (hB2.cell (p := ⟨b, 0, none⟩) hbl).trans q0
  obtain ⟨_, _, _, _, _, _, x6⟩ := cells7 hbx
  have HD2 : Hid (OwnsD w2 w.heap.size (.slice (some ⟨gd, 0, none⟩) 1 cd) [⟨1, 14, 14⟩]) := owns_of_block HD.out fun g hg => hB2.block g (by have : gd = g := Option.some.inj hg; omega)
  have HB2 : Hid (Below w.heap.size w w2) := hB1.trans (hB2.mono hz)
  have K2 := Lib.hid (eqd_one gd cd w2.heap.size 1 w.heap.size ⟨1, 14, 14⟩ (w2.alloc (.cells #[.int .i64 1, .int .i64 0, .int .i64 14, .int .i64 14, .string ⟨#[]⟩] 73)) (HD2.out.alloc _) (heap_alloc_new _ _))
  clear hw2 hbx HD q0 hpl hS
  go_wp2_with fail
  refine K2.out.mono ?_
  rintro e w3 ⟨rfl, hb3⟩
  have HB3 : Hid (Below w.heap.size w w3) := (HB2.out.alloc (Nat.le_trans hz hB2.size) _).trans (hb3.mono (by simp; have := hB2.size; omega))
  clear hb3 K2
  go_wp2_with fail
  go_ret
  exact ⟨rfl, HB3.out⟩
end Go.Proofs.YtcpojagfnpajeaaGreatDoorR.Ps
