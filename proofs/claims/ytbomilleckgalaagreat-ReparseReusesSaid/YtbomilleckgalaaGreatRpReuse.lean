/-
  ReparseReuses's law, by its contract.
-/
import Derived.Test.YtbomilleckgalaaGreatRpStarts
import Derived.BigQuiet
namespace Go.Proofs.YtbomilleckgalaaGreat.Ps
open Go.RowKit

/-- What the law's loops read: the edit, the children, the tokens and where they start. -/
structure Rv (n0 : Nat) (st en : Nat) (t : ByteArray) (m : Nat) (ra : Option Addr) (c : List Tree) (ta : Option Addr) (toks : List Tk) (va : Option Addr) (W : World) : Prop where
  e : W.heap[n0]? = some (.cells #[.int .i64 st, .int .i64 en, .string t] 23 (0, 0))
  k : Kids W (Pl W) m ra c
  t : Lx.Tks W W.heap.size ta toks
  s : Ints W (· < W.heap.size) va (tokAt toks toks.length)
theorem Rv.to {n0 st en m : Nat} {t : ByteArray} {ra : Option Addr} {c : List Tree} {ta : Option Addr} {toks : List Tk} {va : Option Addr} {W W' : World} (h : Rv n0 st en t m ra c ta toks va W) (hb : Below W.heap.size W W') : Rv n0 st en t m ra c ta toks va W' :=
  ⟨held_to h.e hb, (h.k.kept (kept_of_below hb fun _ hj => hj.lt)).up (fun _ hj => hj.below hb) (Nat.le_refl _), h.t.below hb hb.size, h.s.to hb⟩

theorem least_stop {toks : List Tk} {st e k : Nat} {c : List Tree} {y : Tree} (hy : c[k]? = some y) (h : 100 ≤ y.k) : leastF toks st e (c.drop k) = 0 := by
  obtain ⟨hk, rfl⟩ := List.getElem?_eq_some_iff.1 hy
  rw [List.drop_eq_getElem_cons hk, leastF, if_pos h]
theorem least_step {toks : List Tk} {st e k : Nat} {c : List Tree} {y : Tree} (hy : c[k]? = some y) (h : ¬ 100 ≤ y.k) : leastF toks st e (c.drop k) = (if 2 ≤ afterF st (e + len y) 0 toks then 1 else 0) + leastF toks st (e + len y) (c.drop (k + 1)) := by
  obtain ⟨hk, rfl⟩ := List.getElem?_eq_some_iff.1 hy
  rw [List.drop_eq_getElem_cons hk, leastF, if_neg h]; rfl
theorem after_step {toks : List Tk} {st e p j : Nat} {t : Tk} (ht : toks[j]? = some t) : afterF st e p (toks.drop j) = (if e ≤ p ∧ p + t.2.length < st ∧ sigB t = true then 1 else 0) + afterF st e (p + t.2.length) (toks.drop (j + 1)) := by
  obtain ⟨hk, rfl⟩ := List.getElem?_eq_some_iff.1 ht
  rw [List.drop_eq_getElem_cons hk, afterF]

set_option maxRecDepth 100000 in
set_option maxHeartbeats 8000000 in
theorem reuse_any (s : ByteArray) (xs xe : Int) (xt : ByteArray) (w : World) (hs : s.size ≤ maxLen) (o1 : I64 xs) (o2 : I64 xe) (o3 : xt.size ≤ maxLen) :
    Calls Tryz.prog 5 #[.string s, .agg #[.int .i64 xs, .int .i64 xe, .string xt]] w fun e w' => e = .returned (.bool true) ∧ Below w.heap.size w w' := by
  have HE := fun W : World => Lib.hid (example_any W)
  have HSH := fun W : World => Lib.hid (short_any s 400 W hs (by omega))
  have KS := fun W : World => Lib.hid (short_any xt 40 W o3 (by omega))
  have hzs := cutB_size 400 s
  have hts := cutB_size 40 xt
  obtain ⟨z, hz⟩ : ∃ z, z = cutB 400 s := ⟨_, rfl⟩
  rw [← hz] at HSH hzs
  clear hz
  obtain ⟨t, ht⟩ : ∃ t, t = cutB 40 xt := ⟨_, rfl⟩
  rw [← ht] at KS hts
  clear ht
  have hz2 : (z.size : Int) ≤ 400 := by omega
  have KM := Lib.hid (fun W => Te.mod_det xs (z.size + 1) W (by omega) (by omega) o1)
  have hst := Te.gm_lt xs (m := z.size + 1) (by omega)
  rw [show ((z.size + 1 : Nat) : Int) = (z.size : Int) + 1 from by omega] at KM
  obtain ⟨st, hst2⟩ : ∃ st, st = Te.gm xs (z.size + 1) := ⟨_, rfl⟩
  rw [← hst2] at KM hst
  clear hst2
  obtain ⟨d, hd⟩ : ∃ d : Nat, d = z.size - st := ⟨_, rfl⟩
  obtain ⟨m, hm⟩ : ∃ m : Nat, m = d + 1 := ⟨_, rfl⟩
  have KN := Lib.hid (fun W => Te.mod_det xe m W (by omega) (by omega) o2)
  have hj := Te.gm_lt xe (m := m) (by omega)
  obtain ⟨j, hj2⟩ : ∃ j, j = Te.gm xe m := ⟨_, rfl⟩
  rw [← hj2] at KN hj
  clear hj2
  obtain ⟨en, hen⟩ : ∃ en : Nat, en = st + j := ⟨_, rfl⟩
  have he1 : st ≤ en := by omega
  have he2 : en ≤ z.size := by omega
  have KU := Lib.hid (fun y ra rc m W hy hk => update_law z t st en y ra rc m W he1 he2 (by omega) (by omega) hy hk)
  have hst2k : st ≤ 2000 := by omega
  have hwa : IntKind.i64.wrap ((z.size : Int) - st) = (d : Int) := by rw [IntKind.wrap_i64]; omega
  have hwb : IntKind.i64.wrap ((d : Int) + 1) = (m : Int) := by rw [IntKind.wrap_i64]; omega
  have hwc : IntKind.i64.wrap ((st : Int) + j) = (en : Int) := by rw [IntKind.wrap_i64]; omega
  have HTS := Lib.hid hts
  have HZS := Lib.hid hzs
  clear hen hj hm hd he1 he2 hst hts hzs
  have HB0 : Hid (Below w.heap.size w (w.alloc (.cells #[.int .i64 xs, .int .i64 xe, .string xt] 23))) := (Below.refl _ _).alloc (Nat.le_refl _) _
  have HE0 : Hid ((w.alloc (.cells #[.int .i64 xs, .int .i64 xe, .string xt] 23)).heap[w.heap.size]? = some (.cells #[.int .i64 xs, .int .i64 xe, .string xt] 23 (0, 0))) := heap_alloc_new w _
  go_enter Tryz.func5, Tryz.ntmps5
  go_wp2_with fail
  change Calls _ _ _ (w.alloc (.cells #[.int .i64 xs, .int .i64 xe, .string xt] 23)) _
  generalize w.alloc (.cells #[.int .i64 xs, .int .i64 xe, .string xt] 23) = V0 at *
  refine (HE V0).out.mono ?_
  rintro e V1 ⟨rfl, hb⟩
  have HB1 : Hid (Below w.heap.size w V1) := HB0.out.trans (hb.mono HB0.out.size)
  have HE1 := Lib.hid (held_to HE0.out hb)
  clear hb
  go_wp2_with fail
  refine (HSH V1).out.mono ?_
  rintro e V2 ⟨rfl, rfl⟩
  obtain ⟨c0, c1, c2, f0, f1, f2⟩ := three_facts HE1.out
  go_wp2_with fail
  refine (KM.out V1).mono ?_
  rintro e V2 ⟨rfl, rfl⟩
  go_wp2_with fail
  have G2 := set_three0 (u := .int .i64 st) HE1.out
  have BW2 := HB1.out.setCell (p := ⟨w.heap.size, 0, none⟩) (Nat.le_refl _) (.int .i64 st)
  clear c0 c1 c2 f0 f1 f2 HB1 HE1 HB0 HE0 KM
  generalize V2.setCell ⟨w.heap.size, 0, none⟩ (.int .i64 st) = V3 at *
  obtain ⟨c0, c1, c2, f0, f1, f2⟩ := three_facts G2
  have HG2 := Lib.hid G2
  clear G2
  go_still_tail 13, (by kernel_rfl)
  still_call (KN.out _)
  repeat still_step
  refine wpStill_nil ?_
  change wpList _ _ _ _ _ V3.drew
  have G3 : (V3.setCell ⟨w.heap.size, 1, none⟩ (.int .i64 en)).drew.heap[w.heap.size]? = some (.cells #[.int .i64 st, .int .i64 en, .string xt] 23 (0, 0)) := set_three1 (u := .int .i64 en) HG2.out
  have BW3 : Below w.heap.size w (V3.setCell ⟨w.heap.size, 1, none⟩ (.int .i64 en)).drew := (BW2.setCell (p := ⟨w.heap.size, 1, none⟩) (Nat.le_refl _) (.int .i64 en)).drew
  have q2 : (V3.setCell ⟨w.heap.size, 1, none⟩ (.int .i64 en)).drew.cell? ⟨w.heap.size, 2, none⟩ = some (.string xt) := (three_facts G3).2.2.1
  have HG3 := Lib.hid G3
  clear BW2 HG2 KN hwa hwb hwc c0 G3 c2 f0 f2
  go_wp2_with fail
  change Calls _ _ _ (V3.setCell ⟨w.heap.size, 1, none⟩ (.int .i64 en)).drew _
  clear c1 f1 q2
  generalize (V3.setCell ⟨w.heap.size, 1, none⟩ (.int .i64 en)).drew = V4 at *
  refine (KS V4).out.mono ?_
  rintro e V5 ⟨rfl, rfl⟩
  obtain ⟨c0, c1, c2, f0, f1, f2⟩ := three_facts HG3.out
  have G4 := set_three2 (u := .string t) HG3.out
  have BW4 := BW3.setCell (p := ⟨w.heap.size, 2, none⟩) (Nat.le_refl _) (.string t)
  clear HG3 BW3
  go_wp2_with fail
  change Calls _ _ _ (V4.setCell ⟨w.heap.size, 2, none⟩ (.string t)) _
  clear c0 c1 c2 f0 f1 f2
  generalize V4.setCell ⟨w.heap.size, 2, none⟩ (.string t) = V6 at *
  have HG4 := Lib.hid G4
  have HB6 := Lib.hid BW4
  clear G4 BW4
  have KT := Lib.hid (fun W => parse_file z W (by have := HZS.out; omega))
  have KR := Lib.hid (fun W => Lx.rtokens_any z W (by have := HZS.out; omega))
  unfold Lx.RToks at KR
  have HWT : Hid (wt (Lx.T (Lx.L z)) ≤ 400) := by show _ ≤ _; rw [wt_T, Lx.L_len]; exact HZS.out
  have HTL : Hid ((Lx.T (Lx.L z)).length ≤ 400) := Nat.le_trans (Lx.T_length _ (Lx.L z) (Nat.le_refl _)) (by rw [Lx.L_len]; exact HZS.out)
  have HLE : Hid (leastF (Lx.T (Lx.L z)) st 0 (parseC (Lx.L z)) ≤ (kept (Lx.L z) st).1) := least_le (by rw [Lx.L_len]; have := HZS.out; omega) st
  have HSC : Hid ((srcs (parseC (Lx.L z))).length ≤ 400) := by show _ ≤ _; rw [parseC_src (by rw [Lx.L_len]; have := HZS.out; omega), Lx.L_len]; exact HZS.out
  obtain ⟨F, hF⟩ : ∃ F, F = fileT (Lx.L z) := ⟨_, rfl⟩
  have HFC : Hid (parseC (Lx.L z) = F.c) := by show _ = _; rw [hF]; rfl
  unfold FilePost at KT
  rw [← hF] at KT KU
  rw [HFC.out] at KT HLE HSC
  clear HFC hF
  generalize (kept (Lx.L z) st).1 = K at *
  generalize fileT (Te.next (Lx.L z) ⟨(st : Nat), (en : Nat), t⟩) = N at *
  generalize Lx.T (Lx.L z) = toks at *
  refine (KT.out V6).mono ?_
  rintro e V7 ⟨hb, m, ra, rc, rfl, hk, hok, _, _⟩
  have hb2 : Below V7.heap.size V7 (V7.alloc (.cells #[.int .i64 F.k, .string F.t, .slice ra F.c.length rc] 40)) := (Below.refl _ _).alloc (Nat.le_refl _) _
  have HB7 := Lib.hid ((HB6.out.trans (hb.mono HB6.out.size)).trans (hb2.mono (by have := HB6.out.size; have := hb.size; omega)))
  have HE7 := Lib.hid (held_to (held_to HG4.out hb) hb2)
  have HF7 : Hid ((V7.alloc (.cells #[.int .i64 F.k, .string F.t, .slice ra F.c.length rc] 40)).heap[V7.heap.size]? = some (.cells #[.int .i64 F.k, .string F.t, .slice ra F.c.length rc] 40 (0, 0))) := heap_alloc_new V7 _
  have HK7 : Hid (Kids (V7.alloc (.cells #[.int .i64 F.k, .string F.t, .slice ra F.c.length rc] 40)) (Pl (V7.alloc (.cells #[.int .i64 F.k, .string F.t, .slice ra F.c.length rc] 40))) m ra F.c) := (hk.kept (kept_of_below hb2 fun _ hj => hj.1.lt)).up (fun _ hj => hj.1.below hb2) (Nat.le_refl _)
  have HOF := Lib.hid hok
  have hlen : F.c.length ≤ maxLen := hok.2.2
  unfold maxLen at hlen
  obtain ⟨c0, c1, c2, _⟩ := three_facts HE7.out
  clear hb hb2 hk hok HB6 HG4 KT
  go_wp2_with fail
  change Calls _ _ _ (V7.alloc (.cells #[.int .i64 F.k, .string F.t, .slice ra F.c.length rc] 40)) _
  clear c0 c1 c2
  generalize hV8 : (V7.alloc (.cells #[.int .i64 F.k, .string F.t, .slice ra F.c.length rc] 40)) = V8 at *
  generalize V7.heap.size = H7 at *
  clear hV8
  refine (KU.out F ra rc m V8 HOF.out (HK7.out.up (fun _ hj => hj.lt) (Nat.le_refl _))).mono ?_
  rintro e V9 ⟨hb, hcase⟩
  rcases hcase with ⟨_, mN, raN, rcN, rfl, _, _⟩ | ⟨hne, _⟩
  case inr => exact absurd rfl hne
  have hb2 : Below V9.heap.size V9 (V9.alloc (.cells #[.int .i64 N.k, .string N.t, .slice raN N.c.length rcN] 40)) := (Below.refl _ _).alloc (Nat.le_refl _) _
  have HB9 := Lib.hid ((HB7.out.trans (hb.mono HB7.out.size)).trans (hb2.mono (by have := HB7.out.size; have := hb.size; omega)))
  have HE9 := Lib.hid (held_to (held_to HE7.out hb) hb2)
  have HF9 := Lib.hid (held_to (held_to HF7.out hb) hb2)
  have HK9 : Hid (Kids (V9.alloc (.cells #[.int .i64 N.k, .string N.t, .slice raN N.c.length rcN] 40)) (Pl (V9.alloc (.cells #[.int .i64 N.k, .string N.t, .slice raN N.c.length rcN] 40))) m ra F.c) := by
    have h1 : Kids V9 (Pl V9) m ra F.c := (HK7.out.kept (kept_of_below hb fun _ hj => hj.lt)).up (fun _ hj => hj.below hb) (Nat.le_refl _)
    exact (h1.kept (kept_of_below hb2 fun _ hj => hj.lt)).up (fun _ hj => hj.below hb2) (Nat.le_refl _)
  clear hb hb2 HB7 HE7 HF7 HK7 KU
  go_wp2_with fail
  change Calls _ _ _ (V9.alloc (.cells #[.int .i64 N.k, .string N.t, .slice raN N.c.length rcN] 40)) _
  generalize hVa : (V9.alloc (.cells #[.int .i64 N.k, .string N.t, .slice raN N.c.length rcN] 40)) = Va at *
  clear hVa
  refine (HE Va).out.mono ?_
  rintro e Vb ⟨rfl, hb⟩
  have HBb := Lib.hid (HB9.out.trans (hb.mono HB9.out.size))
  have HEb := Lib.hid (held_to HE9.out hb)
  have HFb := Lib.hid (held_to HF9.out hb)
  have HKb : Hid (Kids Vb (Pl Vb) m ra F.c) := (HK9.out.kept (kept_of_below hb fun _ hj => hj.lt)).up (fun _ hj => hj.below hb) (Nat.le_refl _)
  clear hb HB9 HE9 HF9 HK9 HE
  go_wp2_with fail
  refine (KR.out Vb).mono ?_
  rintro e Vc ⟨v, rfl, hown, hb⟩
  obtain ⟨ta, tc, rfl, _, htks, _⟩ := hown.out.tks
  have HBc := Lib.hid (HBb.out.trans (hb.mono HBb.out.size))
  have HEc := Lib.hid (held_to HEb.out hb)
  have HFc := Lib.hid (held_to HFb.out hb)
  have HKc : Hid (Kids Vc (Pl Vc) m ra F.c) := (HKb.out.kept (kept_of_below hb fun _ hj => hj.lt)).up (fun _ hj => hj.below hb) (Nat.le_refl _)
  have HTc := Lib.hid htks
  clear hb HBb HEb HFb HKb htks hown KR
  go_wp2_with fail
  refine (rstarts_any toks ta tc Vc HTc.out (by have := HTL.out; omega) (by have := HWT.out; omega)).mono ?_
  rintro e Vd ⟨v, rfl, hown, hb⟩
  obtain ⟨va, vc, hv, hin, _⟩ := OwnsI.ints hown
  subst hv
  have HBd := Lib.hid (HBc.out.trans (hb.mono HBc.out.size))
  have HFd := Lib.hid (held_to HFc.out hb)
  have HRd : Hid (Rv w.heap.size st en t m ra F.c ta toks va Vd) :=
    ⟨held_to HEc.out hb, (HKc.out.kept (kept_of_below hb fun _ hj => hj.lt)).up (fun _ hj => hj.below hb) (Nat.le_refl _), HTc.out.below hb hb.size, hin.sub (fun g hg => (World.ownsRow.lt hown g hg).2)⟩
  have hsl : (tokAt toks toks.length).length = toks.length := by simp [tokAt]
  rw [hsl]
  obtain ⟨f0, f1, f2, _⟩ := three_facts HFd.out
  clear hb HBc HEc HFc HKc HTc hown hin hsl
  have hcl : F.c.length ≤ 9223372036854775807 := by omega
  generalize F.c = c at *
  have htl := HTL.out
  have hwl0 := HWT.out
  have hsc := HSC.out
  go_wp2_with fail
  clear f0 f1 f2 HFd HOF
  go_loopw [12, 13, 77] (fun ls en' i wr => ∃ (k p : Nat), k ≤ c.length ∧ i = .int .i64 k ∧ en' = .int .i64 ((srcs (c.take k)).length : Nat) ∧ ls = .int .i64 p ∧ p ≤ k ∧ Below w.heap.size w wr ∧ Hid (Rv w.heap.size st en t m ra c ta toks va wr) ∧
      Hid (leastF toks st 0 c = p + leastF toks st (srcs (c.take k)).length (c.drop k)))
    (fun _ _ i _ => c.length - (intOf i).toNat)
  case atStart => exact ⟨0, 0, Nat.zero_le _, rfl, by simp [srcs], rfl, Nat.le_refl _, HBd.out, HRd, (by show leastF toks st 0 c = _; simp [srcs])⟩
  case round =>
    clear HRd HBd
    obtain ⟨k, p, hk, rfl, rfl, rfl, hpk, hb, HR, HL⟩ := hrel
    have hzw := hb.size
    by_cases hlt : k < c.length
    · have hx : c[k]? = some c[k] := List.getElem?_eq_getElem hlt
      obtain ⟨y, hY⟩ : ∃ y, y = c[k] := ⟨_, rfl⟩
      rw [← hY] at hx
      clear hY
      obtain ⟨hok', m', b, o, sa', cap', hm, rfl, _, p0, p1, p2, hk'⟩ := HR.out.k.at hx
      have hk0 : (0 : Int) ≤ (k : Int) := by omega
      have hk1 : (k : Int) < (c.length : Int) := by omega
      have hst := srcs_take hx
      have hle := srcs_take_le c (k + 1)
      have hly := len_le hx
      have HX := Lib.hid hx
      have hb1 : Below wr.heap.size wr (wr.alloc (.cells #[.int .i64 y.k, .string y.t, .slice sa' y.c.length cap'] 40)) := (Below.refl _ _).alloc (Nat.le_refl _) _
      have HS := Lib.hid (source_any y sa' cap' m' (wr.alloc (.cells #[.int .i64 y.k, .string y.t, .slice sa' y.c.length cap'] 40)) hok' ((hk'.kept (kept_of_below hb1 fun j hj => hj.lt)).up (fun j hj => hj.below hb1) (Nat.le_refl _)) (by omega))
      have hbz : (Lx.bs (srcT y)).size = len y := by unfold len; rw [← Lx.L_len, Lx.L_bs]
      have HB1 := Lib.hid (hb.trans (hb1.mono hzw))
      have HR1 := Lib.hid (HR.out.to hb1)
      have HY1 : Hid ((wr.alloc (.cells #[.int .i64 y.k, .string y.t, .slice sa' y.c.length cap'] 40)).heap[wr.heap.size]? = some (.cells #[.int .i64 y.k, .string y.t, .slice sa' y.c.length cap'] 40 (0, 0))) := heap_alloc_new wr _
      clear hx hk' hok' hb1 hb HR
      go_wp2_with fail
      change Calls _ _ _ (wr.alloc (.cells #[.int .i64 y.k, .string y.t, .slice sa' y.c.length cap'] 40)) _
      generalize hW1 : (wr.alloc (.cells #[.int .i64 y.k, .string y.t, .slice sa' y.c.length cap'] 40)) = W1 at *
      generalize wr.heap.size = yb at *
      clear hW1 p0 p1 p2
      refine HS.out.mono ?_
      rintro e W2 ⟨rfl, hb2⟩
      have HB2 := Lib.hid (HB1.out.trans (hb2.mono HB1.out.size))
      have HR2 := Lib.hid (HR1.out.to hb2)
      have HY2 := Lib.hid (held_to HY1.out hb2)
      obtain ⟨y0, y1, y2, _⟩ := three_facts HY2.out
      generalize Lx.bs (srcT y) = sy at *
      obtain ⟨en2, hen2⟩ : ∃ en2 : Nat, en2 = (srcs (c.take k)).length + len y := ⟨_, rfl⟩
      have HEN : Hid (((srcs (c.take k)).length : Int) + (sy.size : Int) = (en2 : Int)) := by show _ = _; omega
      have HEN2 : Hid (en2 = (srcs (c.take (k + 1))).length) := by show _ = _; omega
      have hen3 : (en2 : Int) ≤ 400 := by omega
      have hg1 : ((srcs (c.take k)).length : Int) + (sy.size : Int) ≤ 400 := by omega
      clear hb2 HB1 HR1 HY1 HS
      by_cases hkd : 100 ≤ y.k
      · have HFIN : Hid (p ≤ K) := by
          show _ ≤ _
          have h1 := HL.out
          rw [least_stop HX.out hkd] at h1
          have := HLE.out
          omega
        have hpK : (p : Int) ≤ (K : Int) := by have := HFIN.out; omega
        clear hbz
        go_wp2_with fail
        go_ret
        exact ⟨rfl, HB2.out⟩
      · have HLS : Hid (leastF toks st 0 c = p + ((if 2 ≤ afterF st en2 0 toks then 1 else 0) + leastF toks st en2 (c.drop (k + 1)))) := by
          show _ = _
          rw [HL.out, least_step HX.out hkd, hen2]
        have hkd2 : y.k < 100 := by omega
        clear hbz HL hen2
        go_upto_region 20 with fail
        rw [HEN.out]
        clear HEN hg1
        go_wp2_with fail
        go_loopw [16, 91] (fun af i wr2 => ∃ (j q : Nat), j ≤ toks.length ∧ i = .int .i64 j ∧ af = .int .i64 q ∧ q ≤ j ∧ Below w.heap.size w wr2 ∧ Hid (Rv w.heap.size st en t m (some ⟨b, o, none⟩) c ta toks va wr2) ∧ Hid (afterF st en2 0 toks = q + afterF st en2 (wt (toks.take j)) (toks.drop j)))
          (fun _ i _ => toks.length - (intOf i).toNat)
        case atStart => exact ⟨0, 0, Nat.zero_le _, rfl, rfl, Nat.le_refl _, HB2.out, HR2, (by show afterF st en2 0 toks = _; simp [wt])⟩
        case round =>
          clear HR2 HB2 HY2 y0 y1 y2
          obtain ⟨j, q, hj, rfl, rfl, hqj, hb, HR, HA⟩ := hrel
          have hzw2 := hb.size
          by_cases hjl : j < toks.length
          · obtain ⟨t1, htt⟩ : ∃ t1, toks[j]? = some t1 := ⟨_, List.getElem?_eq_getElem hjl⟩
            have hws := wt_take htt
            have hwl := wt_take_le toks (j + 1)
            obtain ⟨tb, tof, e0, e1, e2, e3⟩ := HR.out.t j t1 htt
            obtain ⟨sb, so, s0, s1, s2⟩ := HR.out.s j _ (tokAt_at toks hjl)
            subst e0 s0
            have q0 : (j : Int) < (toks.length : Int) := by omega
            have q1 : (0 : Int) ≤ (j : Int) := by omega
            have htl : (Lx.bs t1.2).size = t1.2.length := by rw [← Lx.L_len, Lx.L_bs]
            have hb1 : Below wr.heap.size wr (wr.alloc (.cells #[.int .i64 t1.1, .string (Lx.bs t1.2)] 32)) := (Below.refl _ _).alloc (Nat.le_refl _) _
            have HB3 := Lib.hid (hb.trans (hb1.mono hzw2))
            have HR3 := Lib.hid (HR.out.to hb1)
            have HT3 : Hid ((wr.alloc (.cells #[.int .i64 t1.1, .string (Lx.bs t1.2)] 32)).heap[wr.heap.size]? = some (.cells #[.int .i64 t1.1, .string (Lx.bs t1.2)] 32 (0, 0))) := heap_alloc_new wr _
            have s3 : (wr.alloc (.cells #[.int .i64 t1.1, .string (Lx.bs t1.2)] 32)).cell? ⟨sb, so + j, none⟩ = some (.int .i64 ((wt (toks.take j) : Nat) : Int)) := (hb1.cell (p := ⟨sb, so + j, none⟩) s1).trans s2
            obtain ⟨f0, _, _, _⟩ := three_facts HR3.out.e
            obtain ⟨b0, b1, _⟩ := two_facts HT3.out
            clear hb hb1 HR
            go_upto_region 23 with fail
            generalize hW3 : (wr.alloc (.cells #[.int .i64 t1.1, .string (Lx.bs t1.2)] 32)) = W3 at *
            generalize wr.heap.size = tb2 at *
            clear hW3 e2 e3 s2
            obtain ⟨P, hP⟩ : ∃ P, P = wt (toks.take j) := ⟨_, rfl⟩
            rw [← hP] at hws s3 HA
            have HP9 := Lib.hid hP
            clear hP
            generalize Lx.bs t1.2 = bt at *
            obtain ⟨ln, hln⟩ : ∃ ln, ln = t1.2.length := ⟨_, rfl⟩
            rw [← hln] at hws htl
            have hP2 : (P : Int) + (bt.size : Int) ≤ 400 := by omega
            have HLN := Lib.hid hln
            have HTL2 := Lib.hid htl
            clear hln htl
            by_cases h0 : en2 ≤ P
            · have d0 : decide (en2 ≤ P) = true := decide_eq_true h0
              by_cases h1 : P + ln < st
              · have d1 : decide ((P : Int) + (bt.size : Int) < (st : Int)) = true := decide_eq_true (by have := HTL2.out; omega)
                have d1'' : decide (P + bt.size < st) = true := decide_eq_true (by have := HTL2.out; omega)
                cases k1 : (t1.1 == 101) with
                | true =>
                  have n1 : (t1.1 != 101) = false := by rw [bne, k1]; rfl
                  have HNO : ¬ (en2 ≤ P ∧ P + t1.2.length < st ∧ sigB t1 = true) := fun h => by have := h.2.2; unfold sigB at this; rw [n1] at this; cases this
                  rw [HLN.out] at hws
                  have HAN : Hid (afterF st en2 0 toks = q + afterF st en2 (wt (toks.take (j + 1))) (toks.drop (j + 1))) := by
                    show _ = _
                    rw [HA.out, after_step htt, hws]
                    rw [if_neg HNO]; omega
                  clear HA htt hws e1 s1 h0
                  go_quiet (fail)
                  go_wp2_with fail
                  go_roundw
                  case rel => exact ⟨j + 1, q, by omega, by go_num, by go_num, by omega, below_drewN' HB3.out _, HR3.out.to (below_drewN' (Below.refl _ _) _), HAN⟩
                  case measure => simp [intOf]; omega
                | false =>
                  have n1 : (t1.1 != 101) = true := by rw [bne, k1]; rfl
                  cases k2 : (t1.1 == 102) with
                  | true =>
                    have n2 : (t1.1 != 102) = false := by rw [bne, k2]; rfl
                    have HNO : ¬ (en2 ≤ P ∧ P + t1.2.length < st ∧ sigB t1 = true) := fun h => by have := h.2.2; unfold sigB at this; rw [n1, n2] at this; cases this
                    rw [HLN.out] at hws
                    have HAN : Hid (afterF st en2 0 toks = q + afterF st en2 (wt (toks.take (j + 1))) (toks.drop (j + 1))) := by
                      show _ = _
                      rw [HA.out, after_step htt, hws]
                      rw [if_neg HNO]; omega
                    clear HA htt hws e1 s1 h0
                    go_quiet (fail)
                    go_wp2_with fail
                    go_roundw
                    case rel => exact ⟨j + 1, q, by omega, by go_num, by go_num, by omega, below_drewN' HB3.out _, HR3.out.to (below_drewN' (Below.refl _ _) _), HAN⟩
                    case measure => simp [intOf]; omega
                  | false =>
                    have n2 : (t1.1 != 102) = true := by rw [bne, k2]; rfl
                    have HYES : en2 ≤ P ∧ P + t1.2.length < st ∧ sigB t1 = true := ⟨h0, by have := HLN.out; omega, by unfold sigB; rw [n1, n2]; rfl⟩
                    rw [HLN.out] at hws
                    have HAN : Hid (afterF st en2 0 toks = (q + 1) + afterF st en2 (wt (toks.take (j + 1))) (toks.drop (j + 1))) := by
                      show _ = _
                      rw [HA.out, after_step htt, hws]
                      rw [if_pos HYES]; omega
                    clear HA htt hws e1 s1 h0
                    go_quiet (fail)
                    go_wp2_with fail
                    go_roundw
                    case rel => exact ⟨j + 1, (q + 1), by omega, by go_num, by go_num, by omega, below_drewN' HB3.out _, HR3.out.to (below_drewN' (Below.refl _ _) _), HAN⟩
                    case measure => simp [intOf]; omega
              · have d1 : decide ((P : Int) + (bt.size : Int) < (st : Int)) = false := decide_eq_false (by have := HTL2.out; omega)
                have d1'' : decide (P + bt.size < st) = false := decide_eq_false (by have := HTL2.out; omega)
                have HNO : ¬ (en2 ≤ P ∧ P + t1.2.length < st ∧ sigB t1 = true) := fun h => by have := h.2.1; have := HLN.out; omega
                rw [HLN.out] at hws
                have HAN : Hid (afterF st en2 0 toks = q + afterF st en2 (wt (toks.take (j + 1))) (toks.drop (j + 1))) := by
                  show _ = _
                  rw [HA.out, after_step htt, hws]
                  rw [if_neg HNO]; omega
                clear HA htt hws e1 s1 h0
                go_quiet (fail)
                go_wp2_with fail
                go_roundw
                case rel => exact ⟨j + 1, q, by omega, by go_num, by go_num, by omega, below_drewN' HB3.out _, HR3.out.to (below_drewN' (Below.refl _ _) _), HAN⟩
                case measure => simp [intOf]; omega
            · have d0 : decide (en2 ≤ P) = false := decide_eq_false h0
              have HNO : ¬ (en2 ≤ P ∧ P + t1.2.length < st ∧ sigB t1 = true) := fun h => h0 h.1
              rw [HLN.out] at hws
              have HAN : Hid (afterF st en2 0 toks = q + afterF st en2 (wt (toks.take (j + 1))) (toks.drop (j + 1))) := by
                show _ = _
                rw [HA.out, after_step htt, hws]
                rw [if_neg HNO]; omega
              clear HA htt hws e1 s1 h0
              go_quiet (fail)
              go_wp2_with fail
              go_roundw
              case rel => exact ⟨j + 1, q, by omega, by go_num, by go_num, by omega, below_drewN' HB3.out _, HR3.out.to (below_drewN' (Below.refl _ _) _), HAN⟩
              case measure => simp [intOf]; omega
          · have HQ : Hid (afterF st en2 0 toks = q) := by
              show _ = _
              rw [HA.out, List.drop_eq_nil_of_le (by omega)]
              have h2 : afterF st en2 (wt (toks.take j)) [] = 0 := rfl
              omega
            by_cases hq2 : 2 ≤ q
            · have HL2 : Hid (leastF toks st 0 c = (p + 1) + leastF toks st (srcs (c.take (k + 1))).length (c.drop (k + 1))) := by
                show _ = _
                rw [HLS.out, HQ.out, if_pos hq2, HEN2.out]; omega
              have hq3 : (2 : Int) ≤ (q : Int) := by omega
              clear HA HQ
              go_wp2_with fail
              go_roundw
              case rel => exact ⟨k + 1, p + 1, by omega, by go_num, by rw [HEN2.out], by go_num, by omega, hb, HR, HL2⟩
              case measure => simp [intOf]; omega
            · have HL2 : Hid (leastF toks st 0 c = p + leastF toks st (srcs (c.take (k + 1))).length (c.drop (k + 1))) := by
                show _ = _
                rw [HLS.out, HQ.out, if_neg hq2, HEN2.out]; omega
              have hq3 : (q : Int) < 2 := by omega
              clear HA HQ
              go_wp2_with fail
              go_roundw
              case rel => exact ⟨k + 1, p, by omega, by go_num, by rw [HEN2.out], rfl, by omega, hb, HR, HL2⟩
              case measure => simp [intOf]; omega
    · have HFIN : Hid (p ≤ K) := by
        show _ ≤ _
        have h1 := HL.out
        rw [List.drop_eq_nil_of_le (by omega)] at h1
        have h2 : leastF toks st (srcs (c.take k)).length [] = 0 := rfl
        have := HLE.out
        omega
      have hpK : (p : Int) ≤ (K : Int) := by have := HFIN.out; omega
      go_wp2_with fail
      go_ret
      exact ⟨rfl, hb⟩
end Go.Proofs.YtbomilleckgalaaGreat.Ps
