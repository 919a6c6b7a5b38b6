/-
  reparse.Update by its contract.
-/
import Derived.Test.YtbomilleckgalaaGreatRpUpdate
import Derived.Test.YtbomilleckgalaaGreatGtHeld
namespace Go.Proofs.YtbomilleckgalaaGreat.Ps
open Go.RowKit

theorem two_cells (w : World) (u1 u2 : Value) (l1 l2 : List TN) (i : Nat) (x : Value × List TN) (hx : [(u1, l1), (u2, l2)][i]? = some x) : (w.alloc (.cells #[u1, u2] 38)).drew.cell? ⟨w.heap.size, i, none⟩ = some x.1 := by
  have hb : (w.alloc (.cells #[u1, u2] 38)).drew.heap[w.heap.size]? = some (.cells #[u1, u2] 38) := heap_alloc_new w _
  rw [Lib.cell_of_heap hb]
  match i, hx with
  | 0, hx => cases hx; rfl
  | 1, hx => cases hx; rfl

set_option maxRecDepth 100000 in
set_option maxHeartbeats 8000000 in
theorem update_any (s t : ByteArray) (st en : Nat) (y : Tree) (a : Option Addr) (c n : Nat) (w : World) (h1 : st ≤ en) (h2 : en ≤ s.size) (hs : s.size ≤ 2000) (hn : s.size - (en - st) + t.size ≤ 2000) (hy : y.ok) (hk : Kids w (· < w.heap.size) n a y.c) :
    Calls Tryz.prog 17 #[.string s, tv y a c, .agg #[.int .i64 st, .int .i64 en, .string t]] w (UpPost (Lx.L s) (Te.next (Lx.L s) ⟨st, en, t⟩) st y w) := by
  have hf : Te.Fit s.size ⟨st, en, t⟩ := ⟨by show (0 : Int) ≤ st; omega, by show (st : Int) ≤ en; omega, by show (en : Int) ≤ s.size; omega, hs, by show (s.size : Int) - ((en : Int) - st) + t.size ≤ 2000; omega⟩
  have hoke := hf.ok
  have hlen : ((Te.next (Lx.L s) ⟨st, en, t⟩).length : Int) = (s.size : Int) - ((en : Int) - st) + t.size := hf.len
  have hnx : Te.next (Lx.L s) ⟨st, en, t⟩ = (Lx.L s).take st ++ (Lx.L t ++ (Lx.L s).drop en) := by simp [Te.next]
  have hsl : (Lx.L s).length = s.size := Lx.L_len s
  have hR := reparse_ok (l := Lx.L s) (t := Lx.L t) (s := st) (e := en) (by omega) (by omega) (by rw [← hnx]; omega)
  rw [← hnx] at hR
  have hsrc : (srcs (parseC (Lx.L s))).length ≤ 1000000 := by rw [parseC_src (by omega)]; omega
  have hstb : stable (Lx.T (Lx.L s)) st ≤ 1000000 := by
    have h3 := (within_le (stable (Lx.T (Lx.L s)) st) (parseC (Lx.L s)) 0)
    unfold stable
    split
    · omega
    · obtain ⟨r, e1, _⟩ := ahead_pre st (Lx.T (Lx.L s)) 0
      cases hg : (ends 0 (ahead st 0 (Lx.T (Lx.L s))))[(ends 0 (ahead st 0 (Lx.T (Lx.L s)))).length - 3]? with
      | none => simp
      | some v =>
        have hv := valid_T (Lx.L s)
        have hb := ends_in (by rw [e1] at hv; exact hv.left) (List.mem_of_getElem? hg)
        have hw := wt_T (Lx.L s)
        rw [e1, wt_append] at hw
        simp only [Option.getD_some]
        omega
  have KP := Lib.hid (fun W => parse_file s W hs)
  have KA := Lib.hid (fun W a h => apply_next s ⟨st, en, t⟩ a W hf h)
  have KE := Lib.hid (fun W => Te.eds_one W ⟨st, en, t⟩ hoke)
  have KQ := Lib.hid (fun (z : ByteArray) (q : Nat) W (hz : z.size ≤ 2000) => parse_file (z.extract q z.size) W (by simp; omega))
  have KS := Lib.hid (fun W => stable_any s st W hs (by omega))
  obtain ⟨K, hK⟩ : ∃ K, K = kept (Lx.L s) st := ⟨_, rfl⟩
  have HKD := Lib.hid hK
  have HP0 : Hid (∀ w e w', UpPost (Lx.L s) (Te.next (Lx.L s) ⟨st, en, t⟩) st y w e w' ↔ Below w.heap.size w w' ∧ ((y = fileT (Lx.L s) ∧ ∃ m ra rc, e = .returned (.tuple #[tv (fileT (Te.next (Lx.L s) ⟨st, en, t⟩)) ra rc, .int .i64 ((K.1 : Nat) : Int), .int .i64 0]) ∧ Kids w' (fun j => j < w'.heap.size ∧ w.heap.size ≤ j) m ra (parseC (Te.next (Lx.L s) ⟨st, en, t⟩)) ∧ (fileT (Te.next (Lx.L s) ⟨st, en, t⟩)).ok) ∨
    (¬ y = fileT (Lx.L s) ∧ e = .returned (.tuple #[.agg #[.int .i64 0, .string ⟨#[]⟩, .slice none 0 0], .int .i64 0, .int .i64 3])))) := by
    rw [hK]; exact fun _ _ _ => Iff.rfl
  have HKW : Hid (within (stable (Lx.T (Lx.L s)) st) (parseC (Lx.L s)) 0 = K) := hK.symm
  rw [← hK] at hR
  obtain ⟨hR1, hR2, hR3⟩ := hR
  have HR3 := Lib.hid hR3
  clear hR3 hnx hf hoke hK
  generalize Te.next (Lx.L s) ⟨st, en, t⟩ = l' at *
  obtain ⟨F, hF⟩ : ∃ F, F = fileT (Lx.L s) := ⟨_, rfl⟩
  have HFC : Hid (F.c = parseC (Lx.L s)) := by rw [hF]; rfl
  have HFK : Hid (F.k = 1) := by rw [hF]; rfl
  rw [← hF] at HP0
  unfold FilePost at KP
  rw [← hF] at KP
  rw [← HFC.out] at KP HKW HR3 hsrc hR2
  have HB := Lib.hid (Bx.new w y a c ⟨st, en, t⟩)
  have HB1 : Hid (Below w.heap.size w (((w.alloc (.cells #[.int .i64 y.k, .string y.t, .slice a y.c.length c] 40)).alloc (.cells #[.int .i64 st, .int .i64 en, .string t] 23)).alloc (.cells #[.int .i64 0, .string ⟨#[]⟩, .slice none 0 0] 40))) := (((Below.refl _ _).alloc (Nat.le_refl _) _).alloc (by simp) _).alloc (by simp; omega) _
  have HK1 := Lib.hid (hk.to HB1.out)
  have HY := Lib.hid hy
  clear hk hy hF
  show Calls Tryz.prog 17 #[.string s, .agg #[.int .i64 y.k, .string y.t, .slice a y.c.length c], .agg #[.int .i64 st, .int .i64 en, .string t]] w _
  go_enter Tryz.func17, Tryz.ntmps17
  go_wp2_with fail
  have hz0 : (((w.alloc (.cells #[.int .i64 y.k, .string y.t, .slice a y.c.length c] 40)).alloc (.cells #[.int .i64 st, .int .i64 en, .string t] 23)).alloc (.cells #[.int .i64 0, .string ⟨#[]⟩, .slice none 0 0] 40)).heap.size = w.heap.size + 3 := by simp
  generalize (((w.alloc (.cells #[.int .i64 y.k, .string y.t, .slice a y.c.length c] 40)).alloc (.cells #[.int .i64 st, .int .i64 en, .string t] 23)).alloc (.cells #[.int .i64 0, .string ⟨#[]⟩, .slice none 0 0] 40)) = w1 at *
  have hz1 := HB1.out.size
  refine (KP.out w1).mono ?_
  rintro e w2 ⟨hb, m2, ra, rc, rfl, hk2, hok2, hcap2, hnil2⟩
  have B2 := Lib.hid (HB1.out.trans (hb.mono hz1))
  have HBX2 := Lib.hid (HB.out.to hb)
  have HK2 := Lib.hid (HK1.out.to hb)
  have H2 : Hid (Kids w2 (fun j => Pl w2 j ∧ w.heap.size + 3 ≤ j) m2 ra F.c) := hk2.up (fun j hj => ⟨hj.1, by have := hj.2; omega⟩) (Nat.le_refl _)
  have HOK2 := Lib.hid hok2
  have HNIL := Lib.hid hnil2
  clear HB HB1 HK1 hb hk2 hok2 hnil2
  have hz2 := B2.out.size
  have hn2 : w.heap.size + 1 + 1 < w2.heap.size := (Array.getElem?_eq_some_iff.1 HBX2.out.2.2).1
  -- the box of the old tree
  have HO3 : Hid ((w2.alloc (.cells #[.int .i64 F.k, .string F.t, .slice ra F.c.length rc] 40)).heap[w2.heap.size]? = some (.cells #[.int .i64 F.k, .string F.t, .slice ra F.c.length rc] 40 (0, 0))) := heap_alloc_new w2 _
  have hb3 : Below w2.heap.size w2 (w2.alloc (.cells #[.int .i64 F.k, .string F.t, .slice ra F.c.length rc] 40)) := (Below.refl _ _).alloc (Nat.le_refl _) _
  have HBX3 := Lib.hid (HBX2.out.to hb3)
  obtain ⟨x0, x1, x2, _⟩ := three_facts HBX3.out.2.1
  have B3 := Lib.hid (B2.out.trans (hb3.mono hz2))
  have HK3 := Lib.hid (HK2.out.to hb3)
  have H3 : Hid (Kids (w2.alloc (.cells #[.int .i64 F.k, .string F.t, .slice ra F.c.length rc] 40)) (fun j => Pl (w2.alloc (.cells #[.int .i64 F.k, .string F.t, .slice ra F.c.length rc] 40)) j ∧ w.heap.size + 3 ≤ j) m2 ra F.c) := kids_keep H2.out hb3
  clear HBX2 HK2 H2 B2 hb3
  go_wp2_with fail
  have hz3 : (w2.alloc (.cells #[.int .i64 F.k, .string F.t, .slice ra F.c.length rc] 40)).heap.size = w2.heap.size + 1 := by simp
  generalize (w2.alloc (.cells #[.int .i64 F.k, .string F.t, .slice ra F.c.length rc] 40)) = w3 at *
  rw [← hz3]
  have HE3 := Lib.hid (KE.out w3)
  have hb4 : Below w3.heap.size w3 (w3.alloc (.cells #[.int .i64 st, .int .i64 en, .string t] 23)) := (Below.refl _ _).alloc (Nat.le_refl _) _
  have hw3 : w.heap.size ≤ w3.heap.size := B3.out.size
  have HBX4 := Lib.hid (HBX3.out.to hb4)
  have HO4 := Lib.hid (held_to HO3.out hb4)
  have HK4 := Lib.hid (HK3.out.to hb4)
  have H4 : Hid (Kids (w3.alloc (.cells #[.int .i64 st, .int .i64 en, .string t] 23)) (fun j => Pl (w3.alloc (.cells #[.int .i64 st, .int .i64 en, .string t] 23)) j ∧ w.heap.size + 3 ≤ j) m2 ra F.c) := kids_keep H3.out hb4
  have B4 := Lib.hid (B3.out.trans (hb4.mono hw3))
  clear HBX3 HO3 HK3 H3 B3 hb4 x0 x1 x2
  change Calls _ _ _ (w3.alloc (.cells #[.int .i64 st, .int .i64 en, .string t] 23)) _
  have HAP := Lib.hid (KA.out (w3.alloc (.cells #[.int .i64 st, .int .i64 en, .string t] 23)) _ HE3.out)
  generalize (w3.alloc (.cells #[.int .i64 st, .int .i64 en, .string t] 23)) = w4 at *
  refine HAP.out.mono ?_
  rintro e w5 ⟨z, rfl, hz, hb⟩
  have hw4 := B4.out.size
  have HBX5 := Lib.hid (HBX4.out.to hb)
  have HO5 := Lib.hid (held_to HO4.out hb)
  have HK5 := Lib.hid (HK4.out.to hb)
  have H5 : Hid (Kids w5 (fun j => Pl w5 j ∧ w.heap.size + 3 ≤ j) m2 ra F.c) := kids_keep H4.out hb
  have B5 := Lib.hid (B4.out.trans (hb.mono hw4))
  have HZ := Lib.hid hz
  have hzs : z.size = l'.length := by rw [← hz, Lx.L_len]
  clear HBX4 HO4 HK4 H4 B4 hb HAP HE3 KA KE hz
  obtain ⟨x0, x1, x2, _⟩ := three_facts HBX5.out.1
  obtain ⟨o0, o1, o2, _⟩ := three_facts HO5.out
  go_wp2_with fail
  refine (equal_any n y F a c m2 ra rc w5 HY.out HOK2.out HK5.out (H5.out.up (fun j hj => hj.1.lt) (Nat.le_refl _))).mono ?_
  rintro e w6 ⟨hb, bq, rfl, hbq⟩
  have hw5 := B5.out.size
  have HBX6 := Lib.hid (HBX5.out.to hb)
  have HO6 := Lib.hid (held_to HO5.out hb)
  have H6 : Hid (Kids w6 (fun j => Pl w6 j ∧ w.heap.size + 3 ≤ j) m2 ra F.c) := kids_keep H5.out hb
  have B6 := Lib.hid (B5.out.trans (hb.mono hw5))
  have hw6 := B6.out.size
  clear HBX5 HO5 HK5 H5 B5 hb x0 x1 x2 o0 o1 o2
  obtain ⟨r0, r1, r2, y0, y1, y2⟩ := three_facts HBX6.out.2.2
  by_cases hyF : y = F
  · obtain rfl : bq = true := hbq.2 hyF
    have HYF := Lib.hid hyF
    clear hbq hyF
    obtain ⟨x0, x1, x2, _⟩ := three_facts HBX6.out.2.1
    obtain ⟨o0, o1, o2, _⟩ := three_facts HO6.out
    have hS : Hid ((w6.drew.cell? ⟨w2.heap.size, 0, none⟩ = some (.int .i64 F.k) ∧ w6.drew.cell? ⟨w2.heap.size, 1, none⟩ = some (.string F.t) ∧ w6.drew.cell? ⟨w2.heap.size, 2, none⟩ = some (.slice ra F.c.length rc)) ∧ w6.drew.cell? ⟨w.heap.size + 1, 0, none⟩ = some (.int .i64 st)) := ⟨⟨o0, o1, o2⟩, x0⟩
    go_upto_region 9 with fail
    refine wp_region_Tn (S := fun wq => (wq.cell? ⟨w2.heap.size, 0, none⟩ = some (.int .i64 F.k) ∧ wq.cell? ⟨w2.heap.size, 1, none⟩ = some (.string F.t) ∧ wq.cell? ⟨w2.heap.size, 2, none⟩ = some (.slice ra F.c.length rc)) ∧ wq.cell? ⟨w.heap.size + 1, 0, none⟩ = some (.int .i64 st)) 10 11 (by kernel_rfl) (by rfl) ?_
    refine wpAnyT_put (i := 0) (d := 43) (v := .agg #[.int .i64 F.k, .string F.t, .slice ra F.c.length rc]) (by kernel_rfl) (by kernel_rfl) (fun _ _ _ h => h) ?_ hS.out ?_
    · intro oi ho
      simp only [List.getElem?_toArray, List.getElem?_cons_zero, Option.some.injEq] at ho
      subst ho
      rintro wq ⟨⟨c0, c1, c2⟩, c3⟩
      go_simp
    simp only [Act.put, List.setIfInBounds_toArray, List.set_cons_zero, List.set_cons_succ]
    refine wpAnyT_put (i := 1) (d := 44) (v := .string s) (by kernel_rfl) (by kernel_rfl) (fun _ _ _ h => h) ?_ hS.out ?_
    · intro oi ho
      simp only [List.getElem?_toArray, List.getElem?_cons_succ, List.getElem?_cons_zero, Option.some.injEq] at ho
      subst ho
      rintro wq ⟨⟨c0, c1, c2⟩, c3⟩
      go_simp
    simp only [Act.put, List.setIfInBounds_toArray, List.set_cons_zero, List.set_cons_succ]
    refine wpAnyT_put (i := 2) (d := 45) (v := .pointer (some ⟨w.heap.size + 1, 0, none⟩)) (by kernel_rfl) (by kernel_rfl) (fun _ _ _ h => h) ?_ hS.out ?_
    · intro oi ho
      simp only [List.getElem?_toArray, List.getElem?_cons_succ, List.getElem?_cons_zero, Option.some.injEq] at ho
      subst ho
      rintro wq ⟨⟨c0, c1, c2⟩, c3⟩
      go_simp
    simp only [Act.put, List.setIfInBounds_toArray, List.set_cons_zero, List.set_cons_succ]
    refine wpAnyT_put (i := 3) (d := 46) (v := .int .i64 st) (by kernel_rfl) (by kernel_rfl) (fun _ _ _ h => h) ?_ hS.out ?_
    · intro oi ho
      simp only [List.getElem?_toArray, List.getElem?_cons_succ, List.getElem?_cons_zero, Option.some.injEq] at ho
      subst ho
      rintro wq ⟨⟨c0, c1, c2⟩, c3⟩
      go_simp
    simp only [Act.put, List.setIfInBounds_toArray, List.set_cons_zero, List.set_cons_succ]
    refine wpAnyT_lone (i := 4) (by kernel_rfl) (by kernel_rfl) ?_
    intro oi ho K0 hK0
    simp only [List.getElem?_toArray, List.getElem?_cons_succ, List.getElem?_cons_zero, Option.some.injEq] at ho
    subst ho
    go_simp
    go_at_call 34
    refine (KS.out w6.drew).mono ?_
    rintro e w7 ⟨rfl, hb⟩
    have hb' : Below w6.heap.size w6 w7 := below_drew' hb
    have HBX7 := Lib.hid (HBX6.out.to hb')
    have HO7 := Lib.hid (held_to HO6.out hb')
    have H7 : Hid (Kids w7 (fun j => Pl w7 j ∧ w.heap.size + 3 ≤ j) m2 ra F.c) := kids_keep H6.out hb'
    have B7 := Lib.hid (B6.out.trans (hb'.mono hw6))
    have hw7 := B7.out.size
    have hS7 : Hid ((w7.cell? ⟨w2.heap.size, 0, none⟩ = some (.int .i64 F.k) ∧ w7.cell? ⟨w2.heap.size, 1, none⟩ = some (.string F.t) ∧ w7.cell? ⟨w2.heap.size, 2, none⟩ = some (.slice ra F.c.length rc)) ∧ w7.cell? ⟨w.heap.size + 1, 0, none⟩ = some (.int .i64 st)) :=
      ⟨⟨(three_facts HO7.out).1, (three_facts HO7.out).2.1, (three_facts HO7.out).2.2.1⟩, (three_facts HBX7.out.2.1).1⟩
    clear HBX6 HO6 H6 B6 hb hb' x0 x1 x2 o0 o1 o2
    refine hK0 _ _ (fun _ => hS7.out) ?_
    refine wpAnyT_lone (i := 5) (by kernel_rfl) (by kernel_rfl) ?_
    intro oi ho K1 hK1
    simp only [List.getElem?_toArray, List.getElem?_cons_succ, List.getElem?_cons_zero, Option.some.injEq] at ho
    subst ho
    go_simp
    go_at_call 33
    refine (within_any F ra rc m2 (stable (Lx.T (Lx.L s)) st) w7 HOK2.out (H7.out.up (fun j hj => hj.1) (Nat.le_refl _)) hsrc hstb).mono ?_
    rw [HKW.out]
    rintro e w8 ⟨rfl, hb⟩
    have HBX8 := Lib.hid (HBX7.out.to hb)
    have HO8 := Lib.hid (held_to HO7.out hb)
    have H8 : Hid (Kids w8 (fun j => Pl w8 j ∧ w.heap.size + 3 ≤ j) m2 ra F.c) := kids_keep H7.out hb
    have B8 := Lib.hid (B7.out.trans (hb.mono hw7))
    have hw8 := B8.out.size
    have hS8 : Hid ((w8.cell? ⟨w2.heap.size, 0, none⟩ = some (.int .i64 F.k) ∧ w8.cell? ⟨w2.heap.size, 1, none⟩ = some (.string F.t) ∧ w8.cell? ⟨w2.heap.size, 2, none⟩ = some (.slice ra F.c.length rc)) ∧ w8.cell? ⟨w.heap.size + 1, 0, none⟩ = some (.int .i64 st)) :=
      ⟨⟨(three_facts HO8.out).1, (three_facts HO8.out).2.1, (three_facts HO8.out).2.2.1⟩, (three_facts HBX8.out.2.1).1⟩
    clear HBX7 HO7 H7 B7 hb hS7
    obtain ⟨K, q⟩ := K
    simp only at hR1 hR2 HR3 HP0
    refine hK1 _ _ (fun _ => hS8.out) ?_
    refine wpAnyT_put (i := 6) (d := 42) (v := .tuple #[.int .i64 (K : Nat), .int .i64 (q : Nat)]) (by kernel_rfl) (by kernel_rfl) (fun _ _ _ h => h) ?_ hS8.out ?_
    · intro oi ho
      simp only [List.getElem?_toArray, List.getElem?_cons_succ, List.getElem?_cons_zero, Option.some.injEq] at ho
      subst ho
      rintro wq ⟨⟨c0, c1, c2⟩, c3⟩
      go_simp
    simp only [Act.put, List.setIfInBounds_toArray, List.set_cons_zero, List.set_cons_succ]
    refine wpAnyT_put (i := 7) (d := 49) (v := .int .i64 (K : Nat)) (by kernel_rfl) (by kernel_rfl) (fun _ _ _ h => h) ?_ hS8.out ?_
    · intro oi ho
      simp only [List.getElem?_toArray, List.getElem?_cons_succ, List.getElem?_cons_zero, Option.some.injEq] at ho
      subst ho
      rintro wq ⟨⟨c0, c1, c2⟩, c3⟩
      go_simp
    simp only [Act.put, List.setIfInBounds_toArray, List.set_cons_zero, List.set_cons_succ]
    refine wpAnyT_put (i := 8) (d := 50) (v := .int .i64 (q : Nat)) (by kernel_rfl) (by kernel_rfl) (fun _ _ _ h => h) ?_ hS8.out ?_
    · intro oi ho
      simp only [List.getElem?_toArray, List.getElem?_cons_succ, List.getElem?_cons_zero, Option.some.injEq] at ho
      subst ho
      rintro wq ⟨⟨c0, c1, c2⟩, c3⟩
      go_simp
    simp only [Act.put, List.setIfInBounds_toArray, List.set_cons_zero, List.set_cons_succ]
    refine wpAnyT_put (i := 9) (d := 12) (v := .int .i64 (K : Nat)) (by kernel_rfl) (by kernel_rfl) (fun _ _ _ h => h) ?_ hS8.out ?_
    · intro oi ho
      simp only [List.getElem?_toArray, List.getElem?_cons_succ, List.getElem?_cons_zero, Option.some.injEq] at ho
      subst ho
      rintro wq ⟨⟨c0, c1, c2⟩, c3⟩
      go_simp
    simp only [Act.put, List.setIfInBounds_toArray, List.set_cons_zero, List.set_cons_succ]
    refine wpAnyT_lone (i := 10) (by kernel_rfl) (by kernel_rfl) ?_
    intro oi ho K2 hK2
    simp only [List.getElem?_toArray, List.getElem?_cons_succ, List.getElem?_cons_zero, Option.some.injEq] at ho
    subst ho
    go_simp
    refine hK2 _ _ (fun h => absurd h (by decide)) ?_
    refine wpAnyT_done (by kernel_rfl) ?_ _
    have hq1 : (q : Int) ≤ (z.size : Int) := by omega
    have HNX : Hid (Lx.L (z.extract q z.size) = l'.drop q) := by show _ = _; rw [Lx.drop_is, Lx.L_bs, HZ.out]
    have hlz : z.size ≤ 2000 := by omega
    have hl2k : l'.length ≤ 2000 := by omega
    clear hzs hlen
    have KQ8 := Lib.hid (KQ.out z q w8 hlz)
    rw [HNX.out] at KQ8
    obtain ⟨G, hG⟩ : ∃ G, G = fileT (l'.drop q) := ⟨_, rfl⟩
    have HGC : Hid (G.c = parseC (l'.drop q)) := by rw [hG]; rfl
    unfold FilePost at KQ8
    rw [← hG, ← HGC.out] at KQ8
    rw [← HGC.out] at HR3
    clear hG KQ KS KP HNX hS8 hS
    go_wp2_with fail
    refine KQ8.out.mono ?_
    rintro e w9 ⟨hb, m3, rb, rd, rfl, hk3, hok3, hcap3, hnil3⟩
    have HBX9 := Lib.hid (HBX8.out.to hb)
    have HO9 := Lib.hid (held_to HO8.out hb)
    have H9 : Hid (Kids w9 (fun j => Pl w9 j ∧ w.heap.size + 3 ≤ j) m2 ra F.c) := kids_keep H8.out hb
    have hn8 : w.heap.size + 1 + 1 < w8.heap.size := (Array.getElem?_eq_some_iff.1 HBX8.out.2.2).1
    have G9 : Hid (Kids w9 (fun j => Pl w9 j ∧ w.heap.size + 3 ≤ j) m3 rb G.c) := hk3.up (fun j hj => ⟨hj.1, by have := hj.2; omega⟩) (Nat.le_refl _)
    have B9 := Lib.hid (B8.out.trans (hb.mono hw8))
    have hw9 := B9.out.size
    have HOK9 := Lib.hid hok3
    have HNIL3 := Lib.hid hnil3
    clear HBX8 HO8 H8 B8 hb hk3 hok3 hnil3 KQ8
    have hb : Below w9.heap.size w9 (w9.alloc (.cells #[.int .i64 G.k, .string G.t, .slice rb G.c.length rd] 40)) := (Below.refl _ _).alloc (Nat.le_refl _) _
    have HBX := Lib.hid (HBX9.out.to hb)
    have HO := Lib.hid (held_to HO9.out hb)
    have HG : Hid ((w9.alloc (.cells #[.int .i64 G.k, .string G.t, .slice rb G.c.length rd] 40)).heap[w9.heap.size]? = some (.cells #[.int .i64 G.k, .string G.t, .slice rb G.c.length rd] 40 (0, 0))) := heap_alloc_new w9 _
    have H10 : Hid (Kids (w9.alloc (.cells #[.int .i64 G.k, .string G.t, .slice rb G.c.length rd] 40)) (fun j => Pl (w9.alloc (.cells #[.int .i64 G.k, .string G.t, .slice rb G.c.length rd] 40)) j ∧ w.heap.size + 3 ≤ j) m2 ra F.c) := kids_keep H9.out hb
    have G10 : Hid (Kids (w9.alloc (.cells #[.int .i64 G.k, .string G.t, .slice rb G.c.length rd] 40)) (fun j => Pl (w9.alloc (.cells #[.int .i64 G.k, .string G.t, .slice rb G.c.length rd] 40)) j ∧ w.heap.size + 3 ≤ j) m3 rb G.c) := kids_keep G9.out hb
    have B10 := Lib.hid (B9.out.trans (hb.mono hw9))
    clear HBX9 HO9 H9 G9 B9 hb
    go_upto_region 11 with fail
    generalize (w9.alloc (.cells #[.int .i64 G.k, .string G.t, .slice rb G.c.length rd] 40)) = w10 at *
    obtain ⟨g0, g1, g2, _⟩ := three_facts HG.out
    obtain ⟨o0, o1, o2, _⟩ := three_facts HO.out
    obtain ⟨d1, hd1, hs1, hc1⟩ := kids_parts H10.out
    obtain ⟨d2, hd2, hs2, hc2⟩ := kids_parts G10.out
    have hl1 : d1.length = F.c.length := by rw [← hd1, List.length_map]
    have hl2 : d2.length = G.c.length := by rw [← hd2, List.length_map]
    obtain ⟨y1, c1, hx1, hp1⟩ := partT_head hl1 HNIL.out (fun j u hu => by obtain ⟨b, o, e, hp, hc⟩ := hc1 j u hu; exact ⟨b, o, e, hp.1.lt, hc⟩) hcap2 K hR2
    have hp2 : PartT w10 w10.heap.size (.slice rb G.c.length rd) d2 := by
      refine ⟨rb, rd, by rw [hl2], fun e => ⟨?_, HNIL3.out e⟩, fun j u hu => ?_⟩
      · have := HNIL3.out e
        exact List.eq_nil_of_length_eq_zero (by omega)
      · obtain ⟨b, o, e, hp, hc⟩ := hc2 j u hu
        exact ⟨b, o, e, hp.1.lt, hc⟩
    have HP1 := Lib.hid hp1
    have HP2 := Lib.hid hp2
    have HS1 := Lib.hid hs1
    have HS2 := Lib.hid hs2
    have HJ : Hid (((d1.take K) ++ d2).map Prod.fst = parseC l') := by show _ = _; rw [List.map_append, List.map_take, hd1, hd2, HR3.out]
    have hjl : ((d1.take K) ++ d2).length ≤ 100000 := by
      have h5 := parse_some (l := l') hl2k
      obtain ⟨zz, hz5, _, hz6, _⟩ := h5
      have h6 := congrArg List.length HJ.out
      rw [List.length_map, ← parseC_is hz5] at h6
      have h7 := length_le_sizes zz.ch
      omega
    have hkn : (K : Int) ≤ (F.c.length : Int) := by omega
    have hw10 := B10.out.size
    clear hp1 hp2 hs1 hs2 hc1 hc2 hd1 hd2
    go_still_tail 6, (by kernel_rfl)
    change wpList _ _ _ _ _ w10.drew
    go_wp2_with fail
    change Calls _ _ _ (w10.alloc (.cells #[.slice y1 K c1, .slice rb G.c.length rd] 38)).drew _
    have hb : Below w10.heap.size w10 (w10.alloc (.cells #[.slice y1 K c1, .slice rb G.c.length rd] 38)).drew := below_drewN' ((Below.refl _ _).alloc (Nat.le_refl _) _) 1
    have hcs := two_cells w10 (.slice y1 K c1) (.slice rb G.c.length rd) (d1.take K) d2
    have hlt : w10.heap.size < (w10.alloc (.cells #[.slice y1 K c1, .slice rb G.c.length rd] 38)).drew.heap.size := by simp
    have hsz11 : w10.heap.size ≤ (w10.alloc (.cells #[.slice y1 K c1, .slice rb G.c.length rd] 38)).drew.heap.size := by omega
    have HBX11 := Lib.hid (HBX.out.to hb)
    have HO11 := Lib.hid (held_to HO.out hb)
    have hP1 := HP1.out.below hb hsz11
    have hP2 := HP2.out.below hb hsz11
    have B11 := Lib.hid (B10.out.trans (hb.mono hw10))
    have HT1 : Hid (Sub (w10.alloc (.cells #[.slice y1 K c1, .slice rb G.c.length rd] 38)).drew (fun j => j < (w10.alloc (.cells #[.slice y1 K c1, .slice rb G.c.length rd] 38)).drew.heap.size ∧ w.heap.size + 3 ≤ j) m2 d1) := (HS1.out.kept (kept_of_below hb fun j hj => hj.1.lt)).up (fun j hj => ⟨Nat.lt_of_lt_of_le hj.1.lt hsz11, hj.2⟩) (Nat.le_refl _)
    have HT2 : Hid (Sub (w10.alloc (.cells #[.slice y1 K c1, .slice rb G.c.length rd] 38)).drew (fun j => j < (w10.alloc (.cells #[.slice y1 K c1, .slice rb G.c.length rd] 38)).drew.heap.size ∧ w.heap.size + 3 ≤ j) m3 d2) := (HS2.out.kept (kept_of_below hb fun j hj => hj.1.lt)).up (fun j hj => ⟨Nat.lt_of_lt_of_le hj.1.lt hsz11, hj.2⟩) (Nat.le_refl _)
    clear HBX HO HG H10 G10 B10 HP1 HP2 HS1 HS2 hb g0 g1 g2 o0 o1 o2 hsz11
    generalize (w10.alloc (.cells #[.slice y1 K c1, .slice rb G.c.length rd] 38)).drew = w11 at *
    have KC := Lib.hid (concatT_any [(.slice y1 K c1, d1.take K), (.slice rb G.c.length rd, d2)] w10.heap.size w11 (by simp) (by simpa [joined] using hjl) hlt hcs (by
      intro x hx
      simp only [List.mem_cons, List.not_mem_nil, or_false] at hx
      rcases hx with rfl | rfl
      · exact hP1
      · exact hP2))
    rw [show joined [((Value.slice y1 K c1), d1.take K), ((Value.slice rb G.c.length rd), d2)] = d1.take K ++ d2 from by simp [joined]] at KC
    have hw11 := B11.out.size
    clear hP1 hP2 hcs
    refine KC.out.mono ?_
    rintro e w12 ⟨v, rfl, hown, hb⟩
    have HBX12 := Lib.hid (HBX11.out.to hb)
    have HO12 := Lib.hid (held_to HO11.out hb)
    have B12 := Lib.hid (B11.out.trans (hb.mono hw11))
    have HU1 : Hid (Sub w12 (fun j => j < w12.heap.size ∧ w.heap.size + 3 ≤ j) (max m2 m3) ((d1.take K) ++ d2)) := by
      intro x hx
      have hk : Kept (fun j => j < w11.heap.size ∧ w.heap.size + 3 ≤ j) w11 w12 := (kept_below hb).sub fun j hj => hj.1
      rcases List.mem_append.1 hx with hx | hx
      · have h := HT1.out x (List.mem_of_mem_take hx)
        exact ⟨h.1, (h.2.kept hk).up (fun j hj => ⟨Nat.lt_of_lt_of_le hj.1 hb.size, hj.2⟩) (Nat.le_max_left _ _)⟩
      · have h := HT2.out x hx
        exact ⟨h.1, (h.2.kept hk).up (fun j hj => ⟨Nat.lt_of_lt_of_le hj.1 hb.size, hj.2⟩) (Nat.le_max_right _ _)⟩
    have hn11 : w.heap.size + 1 + 1 < w11.heap.size := (Array.getElem?_eq_some_iff.1 HBX11.out.2.2).1
    obtain ⟨va, vc, hv, hkv⟩ := OwnsT.kids (S := fun j => j < w12.heap.size ∧ w.heap.size + 3 ≤ j) hown.out HU1.out (fun g hg => by have := World.ownsRow.lt hown.out g hg; exact ⟨this.2, by omega⟩)
    rw [HJ.out] at hkv
    have hvl : (d1.take K ++ d2).length = (parseC l').length := by rw [← HJ.out, List.length_map]
    rw [hvl] at hv
    subst hv
    have HKV := Lib.hid hkv
    have hpl' : (parseC l').length ≤ maxLen := by rw [← hvl]; unfold maxLen; omega
    obtain ⟨o0, o1, o2, _⟩ := three_facts HO12.out
    obtain ⟨r0, r1, r2, y0, y1', y2⟩ := three_facts HBX12.out.2.2
    rw [HFK.out] at o0
    have hn12 : w.heap.size + 1 + 1 < w12.heap.size := (Array.getElem?_eq_some_iff.1 HBX12.out.2.2).1
    have HSET := Lib.hid (fun u0 u1 u2 => three_facts (set_three (u0 := u0) (u1 := u1) (u2 := u2) HBX12.out.2.2))
    have HBF : Hid (∀ u0 u1 u2, Below w.heap.size w (((w12.setCell ⟨w.heap.size + 1 + 1, 0, none⟩ u0).setCell ⟨w.heap.size + 1 + 1, 1, none⟩ u1).setCell ⟨w.heap.size + 1 + 1, 2, none⟩ u2)) := fun u0 u1 u2 =>
      ((B12.out.setCell (p := ⟨w.heap.size + 1 + 1, 0, none⟩) (by show w.heap.size ≤ w.heap.size + 1 + 1; omega) u0).setCell (p := ⟨w.heap.size + 1 + 1, 1, none⟩) (by show w.heap.size ≤ w.heap.size + 1 + 1; omega) u1).setCell (p := ⟨w.heap.size + 1 + 1, 2, none⟩) (by show w.heap.size ≤ w.heap.size + 1 + 1; omega) u2
    have HKF : Hid (∀ u0 u1 u2, Kids (((w12.setCell ⟨w.heap.size + 1 + 1, 0, none⟩ u0).setCell ⟨w.heap.size + 1 + 1, 1, none⟩ u1).setCell ⟨w.heap.size + 1 + 1, 2, none⟩ u2) (fun j => j < (((w12.setCell ⟨w.heap.size + 1 + 1, 0, none⟩ u0).setCell ⟨w.heap.size + 1 + 1, 1, none⟩ u1).setCell ⟨w.heap.size + 1 + 1, 2, none⟩ u2).heap.size ∧ w.heap.size ≤ j) (max m2 m3 + 1) va (parseC l')) := fun u0 u1 u2 => by
      refine (HKV.out.kept fun j _ hj => World.cell?_of_block ?_).up (fun j hj => ⟨by simp; exact hj.1, by have := hj.2; omega⟩) (Nat.le_refl _)
      rw [heap_setCell_other _ ⟨w.heap.size + 1 + 1, 2, none⟩ j u2 (fun e => by have e' : j = w.heap.size + 1 + 1 := e; have := hj.2; omega), heap_setCell_other _ ⟨w.heap.size + 1 + 1, 1, none⟩ j u1 (fun e => by have e' : j = w.heap.size + 1 + 1 := e; have := hj.2; omega), heap_setCell_other _ ⟨w.heap.size + 1 + 1, 0, none⟩ j u0 (fun e => by have e' : j = w.heap.size + 1 + 1 := e; have := hj.2; omega)]
    clear hkv hown hb HT1 HT2 HU1 HJ HO11 HBX11 KC HO12
    go_wp2_with fail
    obtain ⟨z0, z1, z2, _⟩ := HSET.out (.int .i64 1) (.string ⟨#[]⟩) (.slice va (parseC l').length vc)
    refine bodyPost_ret (by simp [results, Tryz.results17, go_sem, z0, z1, z2]; try rfl) rfl ?_
    rw [HP0.out]
    exact ⟨HBF.out _ _ _, Or.inl ⟨HYF.out, _, va, vc, rfl, HKF.out _ _ _, ⟨by show I64 1; unfold I64; omega, by show (0 : Nat) ≤ maxLen; exact Nat.zero_le _, hpl'⟩⟩⟩
  · obtain rfl : bq = false := by cases bq with | false => rfl | true => exact absurd (hbq.1 rfl) hyF
    have HYF := Lib.hid hyF
    have HSET := Lib.hid (fun u0 u1 u2 => three_facts (set_three (u0 := u0) (u1 := u1) (u2 := u2) HBX6.out.2.2))
    have HBF : Hid (∀ u0 u1 u2, Below w.heap.size w (((w6.setCell ⟨w.heap.size + 1 + 1, 0, none⟩ u0).setCell ⟨w.heap.size + 1 + 1, 1, none⟩ u1).setCell ⟨w.heap.size + 1 + 1, 2, none⟩ u2)) := fun u0 u1 u2 =>
      ((B6.out.setCell (p := ⟨w.heap.size + 1 + 1, 0, none⟩) (by show w.heap.size ≤ w.heap.size + 1 + 1; omega) u0).setCell (p := ⟨w.heap.size + 1 + 1, 1, none⟩) (by show w.heap.size ≤ w.heap.size + 1 + 1; omega) u1).setCell (p := ⟨w.heap.size + 1 + 1, 2, none⟩) (by show w.heap.size ≤ w.heap.size + 1 + 1; omega) u2
    clear hbq hyF HBX6 HO6 H6 B6
    go_wp2_with fail
    obtain ⟨z0, z1, z2, _⟩ := HSET.out (.int .i64 0) (.string ⟨#[]⟩) (.slice none 0 0)
    refine bodyPost_ret (by simp [results, Tryz.results17, go_sem, z0, z1, z2]; try rfl) rfl ?_
    rw [HP0.out]
    exact ⟨HBF.out _ _ _, Or.inr ⟨HYF.out, rfl⟩⟩
end Go.Proofs.YtbomilleckgalaaGreat.Ps
