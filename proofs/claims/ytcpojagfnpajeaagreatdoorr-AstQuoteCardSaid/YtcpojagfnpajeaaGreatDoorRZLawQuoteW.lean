/-
  AstQuote walked, for every string.
-/
import Derived.Test.YtcpojagfnpajeaaGreatDoorRZPrintEx
import Derived.Test.YtcpojagfnpajeaaGreatDoorRZQuTree
import Derived.Test.YtcpojagfnpajeaaGreatDoorRZGtSlim
namespace Go.Proofs.YtcpojagfnpajeaaGreatDoorR.Ps
open Go.RowKit

theorem quoteL_len : ∀ l : List UInt8, (quoteL l).length ≤ 2 * l.length + 1
  | [] => by simp [quoteL]
  | c :: r => by
    have := quoteL_len r
    unfold quoteL
    split
    · simp only [List.length_cons]; omega
    · split <;> (simp only [List.length_cons]; omega)
theorem bs_app (a b : List UInt8) : Lx.bs a ++ Lx.bs b = Lx.bs (a ++ b) := by
  have h : Lx.L (Lx.bs a ++ Lx.bs b) = Lx.L (Lx.bs a) ++ Lx.L (Lx.bs b) := by simp [Lx.L]
  rw [← Lx.bs_L (Lx.bs a ++ Lx.bs b), h, Lx.L_bs, Lx.L_bs]

set_option maxRecDepth 100000 in
set_option maxHeartbeats 8000000 in
theorem quote_law (s : ByteArray) (w : World) (hs : s.size ≤ maxLen) (hv : Vars w) (ht : Tab w) : Calls Tryz.prog 13 #[.string s] w fun e w' => e = .returned (.bool true) ∧ Below w.heap.size w w' := by
  have KE := Lib.hid (fun W h1 h2 => astExample_any W h1 h2)
  have KS := Lib.hid (fun W => short_any s 300 W hs (by decide))
  obtain ⟨z, hz⟩ : ∃ z, z = cutB 300 s := ⟨_, rfl⟩
  have hzs : z.size ≤ 300 := by rw [hz]; exact cutB_size _ _
  rw [← hz] at KS
  obtain ⟨l, hl⟩ : ∃ l, l = Lx.L z := ⟨_, rfl⟩
  have hll : l.length ≤ 300 := by rw [hl, Lx.L_len]; exact hzs
  have hzl : z = Lx.bs l := by rw [hl, Lx.bs_L]
  have hql := quoteL_len l
  have hqs : (quoteS l).length ≤ 602 := by unfold quoteS; simp only [List.length_cons]; omega
  obtain ⟨q, hq⟩ : ∃ q, q = Lx.bs (quoteS l) := ⟨_, rfl⟩
  have hqz : q.size ≤ 602 := by rw [hq, Lx.bs_size]; exact hqs
  have KQ := Lib.hid (fun W => quote_any z W (by omega))
  rw [← hl, ← hq] at KQ
  have KT := Lib.hid (fun W => Lx.tokenize_any q W (by omega))
  have hTq : Lx.T (Lx.L q) = [(106, quoteS l)] := by
    have h := T_quote l []
    rw [List.append_nil] at h
    rw [hq, Lx.L_bs, h]
    rfl
  obtain ⟨p1, hp1⟩ : ∃ p1, p1 = Lx.bs (quPre ++ quoteS l) := ⟨_, rfl⟩
  obtain ⟨src, hsrc⟩ : ∃ src, src = Lx.bs (quS l) := ⟨_, rfl⟩
  have e1 : ∀ W, (Op.stringOp .add ⟨#[99, 111, 110, 115, 116, 32, 99, 58, 32, 115, 116, 114, 105, 110, 103, 32, 61, 32]⟩ q).run Tryz.prog W = .ok (.string p1) W := fun W => by
    rw [run_string_add W _ _ (by decide) (by omega), hp1, ← bs_app, hq]
    rfl
  have hps : p1.size ≤ 620 := by rw [hp1, Lx.bs_size, List.length_append]; have : quPre.length = 18 := rfl; omega
  have e2 : ∀ W, (Op.stringOp .add p1 ⟨#[59]⟩).run Tryz.prog W = .ok (.string src) W := fun W => by
    rw [run_string_add W _ _ (by omega) (by decide), hsrc, hp1]
    have : Lx.bs (quS l) = Lx.bs (quPre ++ quoteS l) ++ Lx.bs [59] := by rw [bs_app, List.append_assoc]
    rw [this]
    rfl
  have hss : src.size ≤ 621 := by
    rw [hsrc, Lx.bs_size]
    show (quPre ++ (quoteS l ++ [59])).length ≤ 621
    simp only [List.length_append, List.length_singleton]
    have : quPre.length = 18 := rfl
    omega
  have KP := Lib.hid (fun W h => parse_any src W (by omega) h)
  rw [hsrc, Lx.L_bs, root_const, diag_const, ← hsrc] at KP
  obtain ⟨R, hR⟩ : ∃ R, R = rootQ l := ⟨_, rfl⟩
  obtain ⟨y, hy⟩ : ∃ y, y = quC l := ⟨_, rfl⟩
  obtain ⟨x, hx⟩ : ∃ x, x = quN l := ⟨_, rfl⟩
  have HRC : Hid (R.c = [y]) := by show _ = _; rw [hR, hy]; rfl
  have HYC : Hid (y.c.length = 2 ∧ y.c[1]? = some x) := by show _ ∧ _; rw [hy, hx]; exact ⟨rfl, rfl⟩
  have HXK : Hid (x.k = 29 ∧ x.t = l) := by show _ ∧ _; rw [hx]; exact ⟨rfl, rfl⟩
  rw [← hR] at KP
  have HV := Lib.hid hv
  have HT := Lib.hid ht
  have HTQ := Lib.hid hTq
  have HZL := Lib.hid hzl
  clear hR hy hx hz hzs hl hll hzl hql hqs hq hqz hTq hp1 hsrc hps hss hv ht hs
  go_enter Tryz.func13, Tryz.ntmps13
  go_wp2_with fail
  refine (KE.out w HV.out HT.out).mono ?_
  rintro e w1 ⟨rfl, hb1⟩
  have HB1 := Lib.hid hb1
  clear hb1
  go_wp2_with fail
  refine (KS.out w1).mono ?_
  rintro e w1' ⟨rfl, hww⟩
  subst hww
  go_wp2_with fail
  refine (KQ.out w1).mono ?_
  rintro e w2 ⟨rfl, hb2⟩
  have HB2 : Hid (Below w.heap.size w w2) := HB1.out.trans (hb2.mono HB1.out.size)
  clear hb2
  go_wp2_with fail
  refine (KT.out w2).mono ?_
  rintro e w3 ⟨tv, rfl, hown, hb3⟩
  have HB3 : Hid (Below w.heap.size w w3) := HB2.out.trans (hb3.mono HB2.out.size)
  rw [HTQ.out] at hown
  obtain ⟨ta, tc, rfl, _, htk, hta⟩ := hown.out.tks
  obtain ⟨tb, t0, hta, htb, htk0, _⟩ := htk 0 (106, quoteS l) rfl
  subst hta
  simp only [Nat.zero_mul, Nat.add_zero] at htk0
  clear hb3 hown htk
  go_wp2_with fail
  refine (KP.out w3 (HV.out.below HB3.out)).mono ?_
  rintro e w4 ⟨sa, cap, dv, m, rfl, hp⟩
  obtain ⟨ad, cd, rfl⟩ : ∃ ad cd, dv = .slice ad 0 cd := by
    rcases hp.out.dg.2 with ⟨e, _⟩ | ⟨g, cp, cur, e, _⟩
    · exact ⟨none, 0, e⟩
    · exact ⟨_, cp, e⟩
  have hB4 := hp.out.below
  have hs34 := hB4.size
  obtain ⟨_, m1, b1, o1, ya, yc, _, _, rfl, ⟨rfl, _, hpl1, _⟩, rfl, _, _, _, hsv1, hk1⟩ := Nds.at hp.out.nds (i := 0) (x := y) (by rw [HRC.out]; rfl)
  obtain ⟨_, m2, b2, o2, xa, xc, _, _, rfl, ⟨rfl, _, hpl2, _⟩, rfl, _, _, _, hsv2, _⟩ := Nds.at hk1 (i := 1) (x := x) HYC.out.2
  have y6 := hsv1.c6
  have x0 := hsv2.c0
  have x2 := hsv2.c2
  rw [HYC.out.1] at y6
  rw [HXK.out.1] at x0
  rw [HXK.out.2, ← HZL.out] at x2
  simp only [Nat.zero_mul, Nat.zero_add, Nat.one_mul] at y6 x0 x2
  have HL1 : Hid (R.c.length = 1) := by show _ = _; rw [HRC.out]; rfl
  have HB4 : Hid (Below w.heap.size w w4) := HB3.out.trans (hB4.mono HB3.out.size)
  have t4 := (hB4.cell (p := ⟨tb, t0, none⟩) htb).trans htk0
  clear hsv1 hsv2 hk1 hp htk0 hB4
  go_upto_region 7 with fail
  obtain ⟨w5, hw5⟩ : ∃ w5, w5 = w4.alloc (nbxx R (some ⟨b1, 0, none⟩) cap) := ⟨_, rfl⟩
  rw [show World.alloc w4 _ = w5 from hw5.symm]
  have hB45 : Below w4.heap.size w4 w5 := by rw [hw5]; exact below_box _ _
  have hbx : w5.heap[w4.heap.size]? = some (nbxx R (some ⟨b1, 0, none⟩) cap) := by rw [hw5]; exact heap_alloc_new _ _
  have hl5 : w4.heap.size < w5.heap.size := (Array.getElem?_eq_some_iff.1 hbx).1
  have HB5 : Hid (Below w.heap.size w w5) := HB4.out.trans (hB45.mono HB4.out.size)
  have hbl1 := hpl1.lt
  have hbl2 := hpl2.lt
  have y6' := (hB45.cell (p := ⟨b1, 6, none⟩) hbl1).trans y6
  have x0' := (hB45.cell (p := ⟨b2, 7, none⟩) hbl2).trans x0
  have x2' := (hB45.cell (p := ⟨b2, 7 + 2, none⟩) hbl2).trans x2
  have t5 := (hB45.cell (p := ⟨tb, t0, none⟩) (by show tb < w4.heap.size; omega)).trans t4
  clear hw5 hB45 y6 x0 x2 t4 hpl1 hpl2
  go_wp2_with fail
  refine (KE.out w5 (HV.out.below HB5.out) (HT.out.below HB5.out)).mono ?_
  rintro e w6 ⟨rfl, hb6⟩
  have HB6 : Hid (Below w.heap.size w w6) := HB5.out.trans (hb6.mono HB5.out.size)
  have y6 := (hb6.cell (p := ⟨b1, 6, none⟩) (by show b1 < w5.heap.size; omega)).trans y6'
  have x0 := (hb6.cell (p := ⟨b2, 7, none⟩) (by show b2 < w5.heap.size; omega)).trans x0'
  have x2 := (hb6.cell (p := ⟨b2, 7 + 2, none⟩) (by show b2 < w5.heap.size; omega)).trans x2'
  have t6 := (hb6.cell (p := ⟨tb, t0, none⟩) (by show tb < w5.heap.size; omega)).trans t5
  have hbx6 := (hb6.block _ hl5).trans hbx
  rw [show nbxx R (some ⟨b1, 0, none⟩) cap = .cells #[.int .i64 R.k, .int .i64 R.v, .string (Lx.bs R.t), .int .i64 R.s, .int .i64 R.e, .int .i64 R.ns, .slice (some ⟨b1, 0, none⟩) 1 cap] 36 by show Obj.cells #[_, _, _, _, _, _, .slice (some ⟨b1, 0, none⟩) R.c.length cap] _ _ = _; rw [HL1.out]] at hbx6
  obtain ⟨c0, c1, c2, c3, c4, c5, c6⟩ := cells7 hbx6
  clear hb6 hbx hbx6 y6' x0' x2' t5
  go_wp2_with fail
  go_ret
  exact ⟨rfl, HB6.out⟩
end Go.Proofs.YtcpojagfnpajeaaGreatDoorR.Ps
