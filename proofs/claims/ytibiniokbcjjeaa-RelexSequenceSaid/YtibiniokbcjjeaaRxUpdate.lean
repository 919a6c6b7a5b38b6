/-
  relex.Update by its contract: for a source that is not too long, its tokens and an edit that fits, the tokens of the new string and the number of those that were reused.
-/
import Derived.Test.YtibiniokbcjjeaaRxUpPure
import Derived.StillTailTactics
namespace Go.Proofs.Ytibiniokbcjjeaa
open Go.RowKit

/-- The string made of a list, read from an offset on. -/
theorem next_from {l : List UInt8} {z : ByteArray} (h : L z = l) (q : Nat) : L (z.extract q z.size) = l.drop q := by
  rw [drop_is, L_bs, h]

theorem three_cells (w : World) (u1 u2 u3 : Value) (l1 l2 l3 : List Tk) (i : Nat) (x : Value × List Tk) (hx : [(u1, l1), (u2, l2), (u3, l3)][i]? = some x) :
    (w.alloc (.cells #[u1, u2, u3] 25)).drew.cell? ⟨w.heap.size, i, none⟩ = some x.1 := by
  have hb : (w.alloc (.cells #[u1, u2, u3] 25)).drew.heap[w.heap.size]? = some (.cells #[u1, u2, u3] 25) := heap_alloc_new w _
  rw [Lib.cell_of_heap hb]
  match i, hx with
  | 0, hx => cases hx; rfl
  | 1, hx => cases hx; rfl
  | 2, hx => cases hx; rfl

theorem three_joined (u1 u2 u3 : Value) (l1 l2 l3 : List Tk) : joined [(u1, l1), (u2, l2), (u3, l3)] = l1 ++ (l2 ++ l3) := by simp [joined]

theorem apply_next (s : ByteArray) (x : Ed) (a : Option Addr) (w : World) (hf : Fit s.size x) (h : Eds w w.heap.size a [x]) :
    Calls Try.prog 17 #[.string s, .slice a 1 1] w fun e w' => ∃ z, e = .returned (.tuple #[.string z, .int .i64 0]) ∧ L z = next (L s) x ∧ Below w.heap.size w w' := by
  have he := hf.errV
  obtain ⟨h1, h2, h3, h4, h5⟩ := hf
  refine (apply_ok s a 1 [x] w (by unfold maxLen; omega) (by unfold maxLen; simp) h he).mono ?_
  rintro e w' ⟨rfl, hb⟩
  exact ⟨bs (next (L s) x), by rw [next_apply]; rfl, L_bs _, hb⟩

set_option maxHeartbeats 2000000 in
set_option maxRecDepth 100000 in
theorem update_ok (s : ByteArray) (v : Value) (x : Ed) (w : World) (hf : Fit s.size x) (hv : Part w w.heap.size v (T (L s))) :
    Calls Try.prog 9 #[.string s, v, .agg #[.int .i64 x.s, .int .i64 x.e, .string x.t]] w fun e w' => ∃ v' p k, e = .returned (.tuple #[v', .int .i64 ((p + k : Nat) : Int), .int .i64 0]) ∧ Hid (Reused (L s) x p k) ∧
      Hid (OwnsT w' w.heap.size v' (T (next (L s) x))) ∧ Below w.heap.size w w' := by
  have HF := Lib.hid hf
  have hlen := hf.len
  have hok := hf.ok
  obtain ⟨h0, h1, h2, h3, h4⟩ := hf
  have hlT := T_length _ (L s) (Nat.le_refl _)
  have hgT := glue_T _ (L s) (Nat.le_refl _)
  have hgl := congrArg List.length hgT
  rw [L_len] at hlT hgl
  have hnT := T_length _ (next (L s) x) (Nat.le_refl _)
  obtain ⟨l, hl⟩ : ∃ l, l = T (L s) := ⟨_, rfl⟩
  have KT := Lib.hid (fun W => tokenize_any s W h3)
  unfold Toks at KT
  have HR : Hid (∀ p k, Reused (L s) x p k ↔ p ≤ l.length ∧ (p = 0 ∨ ((glue (l.take p)).length : Int) < x.s) ∧ (p = l.length ∨ x.s ≤ (glue (l.take (p + 1))).length) ∧
      Common l (T ((next (L s) x).drop (glue (l.take p)).length)) (s.size - x.e) k ∧ Last l (T ((next (L s) x).drop (glue (l.take p)).length)) (s.size - x.e) k) := by
    show ∀ p k, _
    intro p k
    unfold Reused
    rw [hl, L_len]
  have HA : Hid (∀ p k, Reused (L s) x p k → l.take p ++ ((T ((next (L s) x).drop (glue (l.take p)).length)).take ((T ((next (L s) x).drop (glue (l.take p)).length)).length - k) ++ l.drop (l.length - k)) = T (next (L s) x) ∧
      p + k ≤ l.length ∧ p + k ≤ (T (next (L s) x)).length) := by
    show ∀ p k, _
    intro p k h
    rw [hl]
    exact h.all h0 h1 (by rw [L_len]; exact h2)
  rw [← hl] at hv hlT hgl KT
  clear hgT hl
  obtain ⟨a, cap, rfl, hc0, ht⟩ := hv
  have HT := Lib.hid ht
  clear ht
  go_enter Try.func9, Try.ntmps9
  go_wp2_with fail
  have hbx := BoxAt.new w x
  have hb1 : Below w.heap.size w (w.alloc (.cells #[.int .i64 x.s, .int .i64 x.e, .string x.t] 30)) := (Below.refl _ _).alloc (Nat.le_refl _) _
  have HT1 := Lib.hid (HT.out.to hb1)
  have HB1 := Lib.hid hbx
  clear HT hbx
  generalize w.alloc (.cells #[.int .i64 x.s, .int .i64 x.e, .string x.t] 30) = w1 at *
  refine (KT.out w1).mono ?_
  rintro e w2 ⟨v2, rfl, ho2, hb⟩
  have B2 := hb1.trans (hb.mono hb1.size)
  have HT2 := Lib.hid (HT1.out.to hb)
  have HB2 := Lib.hid (HB1.out.to hb)
  have HO2 : Hid (OwnsT w2 w.heap.size v2 l) := ho2.out.lower hb1.size
  clear HT1 HB1 hb1 hb ho2 KT
  obtain ⟨c00, c0, c1, c2⟩ := HB2.out
  have KA := Lib.hid (fun W h => apply_next s x (some ⟨w2.heap.size, 0, none⟩) W HF.out h)
  have hE := eds_one w2 x hok
  have hbA : Below w2.heap.size w2 (w2.alloc (.cells #[.int .i64 x.s, .int .i64 x.e, .string x.t] 30)) := (Below.refl _ _).alloc (Nat.le_refl _) _
  have HEd := Lib.hid hE
  clear hE
  go_wp2_with fail
  change Calls _ _ _ (w2.alloc (.cells #[.int .i64 x.s, .int .i64 x.e, .string x.t] 30)) _
  have HT3 := Lib.hid (HT2.out.to hbA)
  have HB3 := Lib.hid (HB2.out.to hbA)
  have HO3 : Hid (OwnsT _ w.heap.size v2 l) := ownsT_below HO2.out hbA
  have B3 := B2.trans (hbA.mono B2.size)
  clear HT2 HB2 HO2 hbA B2 c00 c0 c1 c2
  generalize w2.alloc (.cells #[.int .i64 x.s, .int .i64 x.e, .string x.t] 30) = w3 at *
  refine (KA.out w3 HEd.out).mono ?_
  rintro e w4 ⟨z, rfl, hz, hb⟩
  have HT4 := Lib.hid (HT3.out.to hb)
  have HB4 := Lib.hid (HB3.out.to hb)
  have HO4 : Hid (OwnsT _ w.heap.size v2 l) := ownsT_below HO3.out hb
  have B4 := B3.trans (hb.mono B3.size)
  have hzs : (z.size : Int) = s.size - (x.e - x.s) + x.t.size := by rw [← hlen, ← hz, L_len]
  have HZ := Lib.hid hz
  clear HT3 HB3 HO3 B3 hb KA HEd hz
  obtain ⟨a2, cap2, rfl, hcap2, hc2, hs2, ht2⟩ := HO4.out.whole
  have H2 := Lib.hid ht2
  have HC2 := Lib.hid hc2
  have HS2 := Lib.hid hs2
  clear hc2 hs2 ht2
  go_wp2_with fail
  refine (same_any l l a cap a2 cap2 w4 (by omega) (by omega) HT4.out H2.out).mono ?_
  rintro e w5 ⟨r, rfl, hr, hb⟩
  obtain rfl : r = true := hr.2 rfl
  have HB5 := Lib.hid (HB4.out.to hb)
  have HO5 : Hid (OwnsT _ w.heap.size (.slice a2 l.length cap2) l) := ownsT_below HO4.out hb
  have H5 := Lib.hid (H2.out.to hb)
  have B5 := B4.trans (hb.mono B4.size)
  clear HT4 HB4 HO4 H2 B4 hb hr
  obtain ⟨c00, c0, c1, c2⟩ := HB5.out
  go_wp2_with fail
  refine (before_any l a2 cap2 x.s w5 (by omega) (by omega) H5.out).mono ?_
  rintro e w6 ⟨p, hp, rfl, hp1, hp2, hb⟩
  have HB6 := Lib.hid (HB5.out.to hb)
  have HO6 : Hid (OwnsT _ w.heap.size (.slice a2 l.length cap2) l) := ownsT_below HO5.out hb
  have H6 := Lib.hid (H5.out.to hb)
  have B6 := B5.trans (hb.mono B5.size)
  clear HB5 HO5 H5 B5 hb c00 c0 c1 c2
  have hq0 : ((glue (l.take p)).length : Int) ≤ x.s := by
    rcases hp1 with rfl | h
    · have : (glue (l.take 0)).length = 0 := by simp [glue]
      omega
    · omega
  have HP : Hid ((p = 0 ∨ ((glue (l.take p)).length : Int) < x.s) ∧ (p = l.length ∨ x.s ≤ (glue (l.take (p + 1))).length)) := ⟨hp1, hp2⟩
  have HRp := Lib.hid (HR.out p)
  have HAp := Lib.hid (HA.out p)
  clear HR HA hp1 hp2
  generalize hq : (glue (l.take p)).length = q at *
  have HQ := Lib.hid hq
  clear hq
  have HN : Hid (L (z.extract q z.size) = (next (L s) x).drop q) := next_from HZ.out q
  have hzx : (z.extract q z.size).size = z.size - q := by simp
  have K7 := Lib.hid (fun W => tokenize_any (z.extract q z.size) W (by omega))
  unfold Toks at K7
  rw [HN.out] at K7
  have hfl := T_length _ ((next (L s) x).drop q) (Nat.le_refl _)
  rw [← HN.out, L_len, hzx, HN.out] at hfl
  generalize T ((next (L s) x).drop q) = f at *
  have hq1 : (q : Int) ≤ z.size := by omega
  clear hzx
  go_wp2_with fail
  refine (K7.out w6).mono ?_
  rintro e w7 ⟨v7, rfl, ho7, hb⟩
  have HB7 := Lib.hid (HB6.out.to hb)
  have H7 := Lib.hid (H6.out.to hb)
  have HF7 : Hid (OwnsT _ w.heap.size v7 f) := ho7.out.lower B6.size
  have B7 := B6.trans (hb.mono B6.size)
  clear HB6 HO6 H6 B6 hb ho7 K7
  obtain ⟨a3, cap3, rfl, hcap3, hc3, hs3, ht3⟩ := HF7.out.whole
  have H3 := Lib.hid ht3
  have HC3 := Lib.hid hc3
  clear hc3 hs3 ht3
  obtain ⟨c00, c0, c1, c2⟩ := HB7.out
  go_wp2_with fail
  refine (tail_any l f a2 cap2 a3 cap3 ((s.size : Int) - x.e) w7 (by omega) (by omega) (by omega) (by omega) (by omega) H7.out H3.out).mono ?_
  rintro e w8 ⟨k, rfl, hcom, hlast, hb⟩
  have HRD := Lib.hid ((HRp.out k).2 ⟨hp, HP.out.1, HP.out.2, hcom, hlast⟩)
  have HALL := Lib.hid (HAp.out k HRD.out)
  have hk1 := hcom.1
  have hk2 := hcom.2.1
  have hpk := HALL.out.2.1
  have H8 := Lib.hid (H7.out.to hb)
  have H38 := Lib.hid (H3.out.to hb)
  have B8 := B7.trans (hb.mono B7.size)
  clear HB7 H7 H3 HF7 B7 hb HRp HAp hcom hlast HP c00 c0 c1 c2
  obtain ⟨x1, hx1, q1⟩ := part_head HC2.out H8.out hcap2 p hp p rfl
  obtain ⟨x2, hx2, q2⟩ := part_head HC3.out H38.out hcap3 (f.length - k) (by omega) ((f.length : Int) - k) (by omega)
  obtain ⟨x3, hx3, q3⟩ := part_tail HC2.out HS2.out H8.out hcap2 (l.length - k) (by omega) ((l.length : Int) - k) (by omega)
  have hw1 : IntKind.i64.wrap ((f.length : Int) - k) = (f.length : Int) - k := by rw [IntKind.wrap_i64]; omega
  have hw2 : IntKind.i64.wrap ((l.length : Int) - k) = (l.length : Int) - k := by rw [IntKind.wrap_i64]; omega
  have HP1 := Lib.hid q1
  have HP2 := Lib.hid q2
  have HP3 := Lib.hid q3
  obtain ⟨y1, d1, e1, _, _⟩ := q1
  obtain ⟨y2, d2, e2, _, _⟩ := q2
  obtain ⟨y3, d3, e3, _, _⟩ := q3
  generalize (l.take p).length = n1 at e1
  generalize (f.take (f.length - k)).length = n2 at e2
  generalize (l.drop (l.length - k)).length = n3 at e3
  subst e1 e2 e3
  go_wp2_with fail
  go_still_tail 15, (by kernel_rfl)
  change wpList _ _ _ _ _ w8.drew
  go_wp2_with fail
  change Calls _ _ _ (w8.alloc (.cells #[.slice y1 n1 d1, .slice y2 n2 d2, .slice y3 n3 d3] 25)).drew _
  have hb : Below w8.heap.size w8 (w8.alloc (.cells #[.slice y1 n1 d1, .slice y2 n2 d2, .slice y3 n3 d3] 25)).drew := below_drewN' ((Below.refl _ _).alloc (Nat.le_refl _) _) 1
  have hcs := three_cells w8 (.slice y1 n1 d1) (.slice y2 n2 d2) (.slice y3 n3 d3) (l.take p) (f.take (f.length - k)) (l.drop (l.length - k))
  have hlt : w8.heap.size < (w8.alloc (.cells #[.slice y1 n1 d1, .slice y2 n2 d2, .slice y3 n3 d3] 25)).drew.heap.size := by simp
  have hR1 := HP1.out.to hb
  have hR2 := HP2.out.to hb
  have hR3 := HP3.out.to hb
  have B9 := B8.trans (hb.mono B8.size)
  generalize (w8.alloc (.cells #[.slice y1 n1 d1, .slice y2 n2 d2, .slice y3 n3 d3] 25)).drew = w9 at *
  have hj := three_joined (.slice y1 n1 d1) (.slice y2 n2 d2) (.slice y3 n3 d3) (l.take p) (f.take (f.length - k)) (l.drop (l.length - k))
  rw [HALL.out.1] at hj
  have KC := concat_any [(.slice y1 n1 d1, l.take p), (.slice y2 n2 d2, f.take (f.length - k)), (.slice y3 n3 d3, l.drop (l.length - k))] w8.heap.size w9 (by simp) (by rw [hj]; omega) hlt hcs (by
    intro x hx
    simp only [List.mem_cons, List.not_mem_nil, or_false] at hx
    rcases hx with rfl | rfl | rfl
    · exact hR1
    · exact hR2
    · exact hR3)
  rw [hj] at KC
  have g1 : (p : Int) + (k : Int) ≤ 2000 := by omega
  clear hR1 hR2 hR3 hcs hj HP1 HP2 HP3 hb hlt hx1 hx2 hx3
  refine KC.mono ?_
  rintro e w10 ⟨v', rfl, hown, hb⟩
  have B10 := B9.trans (hb.mono B9.size)
  have HOW : Hid (OwnsT w10 w.heap.size v' (T (next (L s) x))) := hown.out.lower B9.size
  clear KC hown hb
  go_wp2_with fail
  go_ret3
  exact ⟨v', p, k, by simp, HRD.out, HOW, B10⟩
end Go.Proofs.Ytibiniokbcjjeaa
