/-
  ast.Parse, by its contract.
-/
import Derived.Test.YtcpojagfnpajeaaGreatDoorRZAsEnd
import Derived.Test.YtcpojagfnpajeaaGreatDoorRZPsParse
namespace Go.Proofs.YtcpojagfnpajeaaGreatDoorR.Ps
open Go.RowKit

/-- What ast.Parse leaves of a source that is not too long. -/
structure PPost (R : Nd) (D : List Dg) (w : World) (sa : Option Addr) (cap : Nat) (dv : Value) (m : Nat) (w' : World) : Prop where
  below : Below w.heap.size w w'
  ok : R.ok
  c1 : R.c.length ≤ cap
  c2 : cap ≤ maxLen
  c3 : sa = none → cap = 0
  nds : Nds w' (fun j o => o = 0 ∧ w.heap.size ≤ j ∧ Pl w' j ∧ dv.ownBlock ≠ some j) TEx m sa R.c
  dg : OwnsD w' w.heap.size dv D

/-- finishErrors, SortFunc and Compact have been called on what build left. -/
structure Built (l : List UInt8) (w : World) (b n0 : Nat) (w5 w6 : World) (v : Value) (sa : Option Addr) (cap m : Nat) : Prop where
  low : Below w.heap.size w w5
  bp : BPost b n0 l 0 (.slice none 0 0) [] (treeA l) w5 sa cap w6 v m
  h0 : w.heap.size ≤ n0
  h1 : n0 < w5.heap.size
  hb : b < w5.heap.size
  hbn : n0 ≤ b

/-- The blocks of the nodes, the root's among them. -/
abbrev SF (w5 w6 : World) (v : Value) (r : Nat) : Nat → Prop := fun j => (w5.heap.size ≤ j ∧ j < w6.heap.size ∧ v.ownBlock ≠ some j ∧ Pl w6 j) ∨ j = r

theorem NdAt.of_root {l : List UInt8} {w : World} {b n0 : Nat} {w5 w6 W : World} {v : Value} {sa : Option Addr} {cap m : Nat} (hl : l.length ≤ 2000) (h : Built l w b n0 w5 w6 v sa cap m) {r : Nat}
    (hW : W.heap[r]? = some (.cells #[.int .i64 (root0 l (treeA l)).k, .int .i64 (root0 l (treeA l)).v, .string (Lx.bs (root0 l (treeA l)).t), .int .i64 0, .int .i64 (l.length : Int), .int .i64 (root0 l (treeA l)).ns, .slice sa (root0 l (treeA l)).c.length cap] 36 (0, 0)))
    (hf : ∀ j, j < w6.heap.size → W.heap[j]? = w6.heap[j]?) : NdAt W (SF w5 w6 v r) (T1 l) (m) r 0 (root0 l (treeA l)) := by
  obtain ⟨c0, c1, c2, c3, c4, c5, c6⟩ := cells7 hW
  refine ⟨root0_ok hl h.bp.ok, rfl, Or.inr rfl, sa, cap, (root0 l (treeA l)).t, TEx.t1 rfl, h.bp.c1, h.bp.c2, h.bp.c3, ⟨c0, c1, c2, c3, c4, c5, c6⟩, ?_⟩
  refine (h.bp.nds.kept (w' := W) fun j o i hj => World.cell?_of_block (hf j hj.2.2.1)).up (fun j o hj => ⟨hj.1, Or.inl ⟨hj.2.1, hj.2.2.1, hj.2.2.2⟩⟩) (fun _ _ h => h.t1) (Nat.le_refl _)

theorem NdAt.keep {w w' : World} {S : Nat → Prop} {T : Nd → List UInt8 → Prop} {n pb po : Nat} {x : Nd} (h : NdAt w S T n pb po x) (hk : ∀ j, S j → w'.heap[j]? = w.heap[j]?) : NdAt w' S T n pb po x := by
  obtain ⟨h0, h1, h2, sa, cap, t, h3, h4, h5, h6, h7, h8⟩ := h
  exact ⟨h0, h1, h2, sa, cap, t, h3, h4, h5, h6, h7.kept (fun i => World.cell?_of_block (hk pb h2)), h8.kept (fun j o i hj => World.cell?_of_block (hk j hj.2))⟩

theorem fin_nv (l : List UInt8) (R : Nd) (sa : Option Addr) (cap : Nat) : nv (finT l R) (finT l R).t sa cap = .agg #[.int .i64 R.k, .int .i64 R.v, .string (Lx.bs (finT l R).t), .int .i64 R.s, .int .i64 R.e, .int .i64 R.ns, .slice sa R.c.length cap] := by
  have hlen : (finT l R).c.length = R.c.length := by rw [finT_eq]; exact finL_len _ _
  have h : nv (finT l R) (finT l R).t sa cap = .agg #[.int .i64 R.k, .int .i64 R.v, .string (Lx.bs (finT l R).t), .int .i64 R.s, .int .i64 R.e, .int .i64 R.ns, .slice sa (finT l R).c.length cap] := by rw [finT_eq]; rfl
  rw [h, hlen]
theorem owns_low {w : World} {B B' e size n : Nat} {v : Value} {xs : List Value} (h : w.ownsRow B e size v n xs) (hb : B' ≤ B) : w.ownsRow B' e size v n xs := by
  refine ⟨h.1, ?_⟩
  rcases h.2 with h | ⟨g, cap, cur, h1, h2, h3⟩
  · exact Or.inl h
  · exact Or.inr ⟨g, cap, cur, h1, Nat.le_trans hb h2, h3⟩

theorem builds_all (b n0 : Nat) (src : List UInt8) : ∀ n, BuildsTo b n0 src n
  | 0 => fun _ _ _ x _ _ _ _ h => by have := tree_height x; omega
  | n + 1 => build_step b n0 src n (builds_all b n0 src n)

set_option maxRecDepth 100000 in
set_option maxHeartbeats 4000000 in
theorem parse_any (s : ByteArray) (w : World) (hs : s.size ≤ 2000) (hv : Vars w) :
    Calls Tryz.prog 20 #[.string s] w fun e w' => ∃ sa cap dv m, e = .returned (.tuple #[nv (rootA (Lx.L s)) (rootA (Lx.L s)).t sa cap, dv, .int .i64 0]) ∧ Hid (PPost (rootA (Lx.L s)) (diagA (Lx.L s)) w sa cap dv m w') := by
  have hll : (Lx.L s).length ≤ 2000 := by rw [Lx.L_len]; exact hs
  have HLL := Lib.hid hll
  obtain ⟨z, hz, _⟩ := parse_some hll
  have KP0 := fun W => parse_pl s W hs FU z hz
  rw [parseC_is hz] at KP0
  have HTF := Lib.hid (tree_facts hll)
  have KP : Hid (∀ W, Calls Tryz.prog 15 #[.string s] W fun e w' => Below W.heap.size W w' ∧ ∃ m ra rc, e = .returned (.tuple #[tv (treeA (Lx.L s)) ra rc, .int .i64 0]) ∧ Kids w' (fun j => Pl w' j ∧ W.heap.size ≤ j) m ra (treeA (Lx.L s)).c ∧ (treeA (Lx.L s)).c.length ≤ maxLen ∧ (treeA (Lx.L s)).c.length ≤ rc ∧ (ra = none → rc = 0)) := KP0
  clear KP0 hz hll
  have HSS : Hid (((s.size : Nat) : Int) = ((Lx.L s).length : Int)) := by show _ = _; rw [Lx.L_len]
  have hSB : s = Lx.bs (Lx.L s) := (Lx.bs_L s).symm
  have HSB := Lib.hid hSB
  clear hSB
  obtain ⟨l, hl⟩ : ∃ l, l = Lx.L s := ⟨_, rfl⟩
  rw [← hl] at HLL HTF KP HSS HSB
  rw [← hl]
  clear hl
  have hv3 := hv.lt
  have HV := Lib.hid hv
  clear hv
  go_enter Tryz.func20, Tryz.ntmps20
  go_upto_region 1 with fail
  obtain ⟨w1, hw1⟩ : ∃ w1, w1 = w.alloc (.cells #[.int .i64 0, .int .i64 0, .string ⟨#[]⟩, .int .i64 0, .int .i64 0, .int .i64 0, .slice none 0 0] 36) := ⟨_, rfl⟩
  rw [show World.alloc w _ = w1 from hw1.symm]
  have hB1 : Below w.heap.size w w1 := by rw [hw1]; exact below_box _ _
  have hs1 : w1.heap.size = w.heap.size + 1 := by rw [hw1]; simp
  have hR1 : w1.heap[w.heap.size]? = some (.cells #[.int .i64 0, .int .i64 0, .string ⟨#[]⟩, .int .i64 0, .int .i64 0, .int .i64 0, .slice none 0 0] 36 (0, 0)) := by rw [hw1]; exact heap_alloc_new _ _
  clear hw1
  go_wp2_with fail
  refine (KP.out _).mono ?_
  rintro e w2 ⟨hb2, mk, ra, rc, rfl, hk2, _, _, _⟩
  have HK2 := Lib.hid hk2
  have hs2 := hb2.size
  have HR2 : Hid (w2.heap[w.heap.size]? = some (.cells #[.int .i64 0, .int .i64 0, .string ⟨#[]⟩, .int .i64 0, .int .i64 0, .int .i64 0, .slice none 0 0] 36 (0, 0))) := (hb2.block _ (by omega)).trans hR1
  have HB2 : Hid (Below w.heap.size w w2) := hB1.trans (hb2.mono (by omega))
  clear hk2 hb2 hR1 hB1 KP
  obtain ⟨x, hx⟩ : ∃ x, x = treeA l := ⟨_, rfl⟩
  rw [← hx] at HTF HK2
  rw [← hx]
  have HX := Lib.hid hx
  clear hx
  go_upto_region 5 with fail
  obtain ⟨w5, hw5⟩ : ∃ w5, w5 = (w2.alloc (.cells #[.int .i64 x.k, .string x.t, .slice ra x.c.length rc] 25)).alloc (.cells #[.string s, .int .i64 0, .slice none 0 0] 104) := ⟨_, rfl⟩
  rw [show World.alloc (World.alloc w2 _) _ = w5 from hw5.symm]
  have hB5 : Below w2.heap.size w2 w5 := by rw [hw5]; exact ((Below.refl _ _).alloc (Nat.le_refl _) _).alloc (by simp) _
  have hs5 : w5.heap.size = w2.heap.size + 2 := by rw [hw5]; simp
  have htb : w5.heap[w2.heap.size]? = some (.cells #[.int .i64 x.k, .string x.t, .slice ra x.c.length rc] 25 (0, 0)) := by rw [hw5, Below.heap_alloc _ _ _ (by simp)]; exact heap_alloc_new _ _
  have hbb : w5.heap[w2.heap.size + 1]? = some (.cells #[.string (Lx.bs l), .int .i64 ((0 : Nat) : Int), .slice none 0 0] 104 (0, 0)) := by
    have := heap_alloc_new (w2.alloc (.cells #[.int .i64 x.k, .string x.t, .slice ra x.c.length rc] 25)) (.cells #[.string s, .int .i64 0, .slice none 0 0] 104)
    rw [hw5, ← HSB.out]
    simpa using this
  obtain ⟨t0, t1, t2, _, _, _⟩ := three_facts htb
  have HBL : Hid (BldIn w5 (w2.heap.size + 1) (w2.heap.size + 1) l 0 (.slice none 0 0) []) := ⟨hbb, OwnsD.nil _ _, (by intro e; cases e), Nat.le_refl _⟩
  have hBW5 : Hid (Below w.heap.size w w5) := HB2.out.trans (hB5.mono (by omega))
  have hSL : (srcs x.c).length = l.length := by rw [HTF.out.src]
  have K5 := Lib.hid (builds_all (w2.heap.size + 1) (w2.heap.size + 1) l x.height 0 (.slice none 0 0) [] x ra rc mk w5 (Nat.le_refl _) HTF.out.ok HTF.out.okp (by have := HLL.out; omega) (by have := HTF.out.size; have := HLL.out; simp only [List.length_nil]; omega)
    ((HK2.out.kept (fun j i hj => hB5.cell (p := ⟨j, i, none⟩) hj.1.lt)).up (fun j hj => by have := hj.1.lt; omega) (Nat.le_refl _)) (by omega) (by omega) (Lib.hid (HV.out.below hBW5.out)) HBL)
  have HRES5 : Hid (w5.heap[w.heap.size]? = some (.cells #[.int .i64 0, .int .i64 0, .string ⟨#[]⟩, .int .i64 0, .int .i64 0, .int .i64 0, .slice none 0 0] 36 (0, 0))) := (hB5.block _ (by omega)).trans HR2.out
  clear hw5 hB5 htb hbb HK2 HR2 HB2
  go_upto_region 5 with fail
  go_wp2_with fail
  refine K5.out.mono ?_
  rintro e w6 ⟨v1, sa, cap, m, rfl, hpost⟩
  have HBP : Hid (Built l w (w2.heap.size + 1) (w2.heap.size + 1) w5 w6 v1 sa cap m) := ⟨hBW5.out, by rw [← HX.out]; exact hpost.out, by omega, by omega, by omega, Nat.le_refl _⟩
  have hz6 := hpost.out.rep.fr.size
  have HBL6 : Hid (BldIn w6 (w2.heap.size + 1) (w2.heap.size + 1) l (bldT x 0).2.1 v1 (bldT x 0).2.2) := hpost.out.bl
  have hdl : (bldT x 0).2.2.length ≤ 40000 := by
    have h1 := (bt_all x.height x 0 (Nat.le_refl _) HTF.out.okp (by have := HLL.out; omega)).d
    have := HTF.out.size
    have := HLL.out
    omega
  have HV1 : Hid (∀ g, v1.ownBlock = some g → w2.heap.size + 1 ≤ g ∧ g < w6.heap.size) := fun g hg => World.ownsRow.lt HBL6.out.own g hg
  have HRES6 : Hid (w6.heap[w.heap.size]? = some (.cells #[.int .i64 0, .int .i64 0, .string ⟨#[]⟩, .int .i64 0, .int .i64 0, .int .i64 0, .slice none 0 0] 36 (0, 0))) :=
    (hpost.out.rep.fr.block w.heap.size ⟨by omega, by omega, fun e => by cases e⟩).trans HRES5.out
  have HLOW6 : Hid (∀ j, j < w.heap.size → w6.heap[j]? = w.heap[j]?) := fun j hj => (hpost.out.rep.fr.block j ⟨by omega, by omega, fun e => by cases e⟩).trans (hBW5.out.block j hj)
  have HEX6 : Hid (w6.os = w.os ∧ w6.tape = w.tape ∧ w6.output = w.output) := ⟨hpost.out.rep.fr.os.trans hBW5.out.os, hpost.out.rep.fr.tape.trans hBW5.out.tape, hpost.out.rep.fr.output.trans hBW5.out.output⟩
  have HR0 : Hid (root0 l (treeA l) = .mk (bldT x 0).1.k (bldT x 0).1.v (bldT x 0).1.t 0 (l.length : Int) (bldT x 0).1.ns (bldT x 0).1.c) := by show _ = _; rw [← HX.out]; rfl
  have HDG : Hid (diagA l = sortD ((bldT x 0).2.2 ++ finD l (root0 l (treeA l)))) := by show diagsOf l (treeA l) = _; rw [diagsOf_eq, HX.out]
  generalize (bldT x 0).2.2 = d2 at *
  generalize (bldT x 0).2.1 = o2 at *
  clear hpost K5 HRES5 t0 t1 t2 HBL
  generalize (bldT x 0).1 = q at *
  go_upto_region 6 with fail
  have hrb := heap_alloc_new w6 (.cells #[.int .i64 q.k, .int .i64 q.v, .string (Lx.bs q.t), .int .i64 q.s, .int .i64 q.e, .int .i64 q.ns, .slice sa q.c.length cap] 36)
  obtain ⟨W6, hW6⟩ : ∃ W6, W6 = w6.alloc (.cells #[.int .i64 q.k, .int .i64 q.v, .string (Lx.bs q.t), .int .i64 q.s, .int .i64 q.e, .int .i64 q.ns, .slice sa q.c.length cap] 36) := ⟨_, rfl⟩
  rw [show World.alloc w6 _ = W6 from hW6.symm]
  rw [← hW6] at hrb
  have hB6 : Below w6.heap.size w6 W6 := by rw [hW6]; exact below_box _ _
  have hs6 : W6.heap.size = w6.heap.size + 1 := by rw [hW6]; simp
  clear hW6
  obtain ⟨_, _, _, r3, r4, _, _⟩ := cells7 hrb
  have f3 := Lib.frozen_of_heap hrb 3
  have f4 := Lib.frozen_of_heap hrb 4
  have HRB := Lib.hid hrb
  clear hrb
  go_upto_region 7 with fail
  obtain ⟨W7, hW7⟩ : ∃ W7, W7 = (W6.setCell ⟨w6.heap.size, 3, none⟩ (.int .i64 0)).setCell ⟨w6.heap.size, 4, none⟩ (.int .i64 (s.size : Int)) := ⟨_, rfl⟩
  rw [← hW7]
  have hB7 : Below w6.heap.size w6 W7 := by rw [hW7]; exact (hB6.setCell (p := ⟨w6.heap.size, 3, none⟩) (Nat.le_refl _) _).setCell (p := ⟨w6.heap.size, 4, none⟩) (Nat.le_refl _) _
  have hs7 : W7.heap.size = w6.heap.size + 1 := by rw [hW7]; simp; omega
  have hr7 : W7.heap[w6.heap.size]? = some (.cells #[.int .i64 q.k, .int .i64 q.v, .string (Lx.bs q.t), .int .i64 0, .int .i64 (l.length : Int), .int .i64 q.ns, .slice sa q.c.length cap] 36 (0, 0)) := by
    rw [hW7, HSS.out]
    exact (set7 (set7 HRB.out).2.2.1).2.2.2.1
  clear hW7 HRB r3 r4 f3 f4 hB6
  have HND : Hid (NdAt W7 (SF w5 w6 v1 w6.heap.size) (T1 l) m w6.heap.size 0 (root0 l (treeA l))) := NdAt.of_root HLL.out HBP.out (by rw [HR0.out]; exact hr7) (fun j hj => hB7.block j hj)
  have HAP : Hid (Apt (SF w5 w6 v1 w6.heap.size) (w2.heap.size + 1) v1 W7) := by
    refine ⟨fun j hj => ?_, fun j hj => ?_, fun j hj => ?_⟩
    · rcases hj with ⟨_, h, _⟩ | rfl <;> omega
    · rcases hj with ⟨h1, h2, h3, _⟩ | rfl
      · exact ⟨by omega, h3⟩
      · exact ⟨by omega, fun e => by have := HV1.out _ e; omega⟩
    · rcases hj with ⟨h1, h2, h3, h4⟩ | rfl
      · exact h4.of_block (hB7.block j h2)
      · exact ⟨_, _, hr7⟩
  have HBL7 : Hid (BldIn W7 (w2.heap.size + 1) (w2.heap.size + 1) l o2 v1 d2) := HBL6.out.below hB7
  have HLOW7 : Hid (∀ j, j < w.heap.size + 1 → W7.heap[j]? = w6.heap[j]?) := fun j hj => hB7.block j (by omega)
  have HEX7 : Hid (W7.os = w.os ∧ W7.tape = w.tape ∧ W7.output = w.output) := ⟨hB7.os.trans HEX6.out.1, hB7.tape.trans HEX6.out.2.1, hB7.output.trans HEX6.out.2.2⟩
  have HFX := Lib.hid (tree_facts HLL.out)
  obtain ⟨R, hR⟩ : ∃ R, R = root0 l (treeA l) := ⟨_, rfl⟩
  have HRG : Hid (rgT l.length R = true) := by show _ = _; rw [hR]; exact root0_rg HFX.out HLL.out
  have HRS : Hid (R.size ≤ 32001) := by show _ ≤ _; rw [hR]; exact root0_size HFX.out
  have HROOT : Hid (rootA l = finT l R) := by show rootOf l (treeA l) = _; rw [rootOf_eq, hR]
  rw [← hR] at HND HDG
  clear hR HR0 HEX6 HBL6 hr7 hB7
  have K7 := Lib.hid (fin_any (w2.heap.size + 1) (w2.heap.size + 1) l (SF w5 w6 v1 w6.heap.size) R.height R w6.heap.size 0 m W7 v1 d2 o2 (Nat.le_refl _) HRG.out HND HBL7 HAP (by omega) (by have := HRS.out; omega) HLL.out)
  go_wp2_with fail
  refine K7.out.mono ?_
  rintro e w8 ⟨rfl, v2, hfp, hnd8⟩
  have hz8 := hfp.out.fr.size
  have HBL8 := Lib.hid hfp.out.bl
  have HAP8 := Lib.hid (hfp.out.apt HAP.out)
  have hfl : (finD l R).length ≤ 32001 := Nat.le_trans (finD_len l R) HRS.out
  have hNS : ∀ j, j < w.heap.size + 1 → j < W7.heap.size ∧ ¬ (SF w5 w6 v1 w6.heap.size) j ∧ j ≠ w2.heap.size + 1 ∧ v1.ownBlock ≠ some j := fun j hj =>
    ⟨by omega, (fun h => by rcases h with ⟨h, _⟩ | h <;> omega), by omega, fun e => by have := HV1.out j e; omega⟩
  have HLOW8 : Hid (∀ j, j < w.heap.size + 1 → w8.heap[j]? = w6.heap[j]?) := fun j hj => (hfp.out.fr.block j (hNS j hj)).trans (HLOW7.out j hj)
  have HEX8 : Hid (w8.os = w.os ∧ w8.tape = w.tape ∧ w8.output = w.output) := ⟨hfp.out.fr.os.trans HEX7.out.1, hfp.out.fr.tape.trans HEX7.out.2.1, hfp.out.fr.output.trans HEX7.out.2.2⟩
  clear hfp K7 HND HAP HBL7 HLOW7 HEX7 hNS
  obtain ⟨_, _, b2, _, _, _⟩ := three_facts HBL8.out.hb
  have K8 := Lib.hid (sort_all (w2.heap.size + 1) v2 (d2 ++ finD l R) w8 HBL8.out.own (by rw [List.length_append]; omega))
  go_wp2_with fail
  refine K8.out.mono ?_
  rintro e w9 ⟨rfl, hown9, hf9⟩
  have hz9 := hf9.size
  have hV2 := fun g (hg : v2.ownBlock = some g) => World.ownsRow.lt HBL8.out.own g hg
  have HB9 : Hid (w9.heap[w2.heap.size + 1]? = some (.cells #[.string (Lx.bs l), .int .i64 o2, v2] 104 (0, 0))) := (hf9.block _ ⟨HBL8.out.lt, HBL8.out.ne⟩).trans HBL8.out.hb
  have HND9 : Hid (NdAt w9 (SF w5 w6 v1 w6.heap.size) (T2 l) m w6.heap.size 0 R) := hnd8.out.keep fun j hj => hf9.block j ⟨HAP8.out.lt j hj, (HAP8.out.ne j hj).2⟩
  have HLOW9 : Hid (∀ j, j < w.heap.size + 1 → w9.heap[j]? = w6.heap[j]?) := fun j hj => (hf9.block j ⟨by omega, fun e => by have := hV2 j e; omega⟩).trans (HLOW8.out j hj)
  have HEX9 : Hid (w9.os = w.os ∧ w9.tape = w.tape ∧ w9.output = w.output) := ⟨hf9.os.trans HEX8.out.1, hf9.tape.trans HEX8.out.2.1, hf9.output.trans HEX8.out.2.2⟩
  have HO9 := Lib.hid hown9
  have HAP9 : Hid (∀ j, SF w5 w6 v1 w6.heap.size j → j < w9.heap.size ∧ v2.ownBlock ≠ some j ∧ Pl w9 j) := fun j hj =>
    ⟨by have := HAP8.out.lt j hj; omega, (HAP8.out.ne j hj).2, (HAP8.out.pl j hj).of_block (hf9.block j ⟨HAP8.out.lt j hj, (HAP8.out.ne j hj).2⟩)⟩
  clear b2 K8 hown9 hf9 hnd8 HLOW8 HEX8 HAP8
  obtain ⟨hRok, _, _, sa', cap', t', hT', hc1, hc2, hc3, hsev, hkids⟩ := HND9.out
  have HT' : Hid (t' = (finT l R).t) := T2_eq hT'
  have HKD := Lib.hid hkids
  have HCP := Lib.hid (And.intro hRok (And.intro hc1 (And.intro hc2 hc3)))
  have HRES9 : Hid (w9.heap[w.heap.size]? = some (.cells #[.int .i64 0, .int .i64 0, .string ⟨#[]⟩, .int .i64 0, .int .i64 0, .int .i64 0, .slice none 0 0] 36 (0, 0))) := (HLOW9.out _ (by omega)).trans HRES6.out
  have hr9 := HAP9.out w6.heap.size (Or.inr rfl)
  obtain ⟨c0, c1, c2, c3, c4, c5, c6⟩ := hsev
  obtain ⟨_, _, b2, _, _, _⟩ := three_facts HB9.out
  obtain ⟨y0, y1, y2, y3, y4, y5, y6⟩ := cells7 HRES9.out
  have z0 := Lib.frozen_of_heap HRES9.out 0
  have z1 := Lib.frozen_of_heap HRES9.out 1
  have z2 := Lib.frozen_of_heap HRES9.out 2
  have z3 := Lib.frozen_of_heap HRES9.out 3
  have z4 := Lib.frozen_of_heap HRES9.out 4
  have z5 := Lib.frozen_of_heap HRES9.out 5
  have z6 := Lib.frozen_of_heap HRES9.out 6
  have hvr : v2.ownBlock ≠ some w.heap.size := fun e => by have := hV2 _ e; omega
  have hw9 : w.heap.size < w9.heap.size := by omega
  simp only [Nat.zero_add] at c1 c2 c3 c4 c5 c6
  have K9 : Hid (Calls Tryz.prog 59 #[v2] w9.drew fun e w' => ∃ v', e = .returned v' ∧ Hid (OwnsD w' (w2.heap.size + 1) v' (compL (isort (d2 ++ finD l R)))) ∧ Hid (v'.ownBlock = v2.ownBlock) ∧ Hid (Fr (fun j => j < w9.heap.size ∧ v2.ownBlock ≠ some j) w9 w') ∧ Hid (w'.heap[w.heap.size]? = some (.cells #[.int .i64 0, .int .i64 0, .string ⟨#[]⟩, .int .i64 0, .int .i64 0, .int .i64 0, .slice none 0 0] 36 (0, 0))) ∧
      (w'.cell? ⟨w.heap.size, 0, none⟩ = some (.int .i64 0) ∧ w'.cell? ⟨w.heap.size, 1, none⟩ = some (.int .i64 0) ∧ w'.cell? ⟨w.heap.size, 2, none⟩ = some (.string ⟨#[]⟩) ∧ w'.cell? ⟨w.heap.size, 3, none⟩ = some (.int .i64 0) ∧ w'.cell? ⟨w.heap.size, 4, none⟩ = some (.int .i64 0) ∧ w'.cell? ⟨w.heap.size, 5, none⟩ = some (.int .i64 0) ∧ w'.cell? ⟨w.heap.size, 6, none⟩ = some (.slice none 0 0)) ∧
      (w'.frozen? ⟨w.heap.size, 0, none⟩ = false ∧ w'.frozen? ⟨w.heap.size, 1, none⟩ = false ∧ w'.frozen? ⟨w.heap.size, 2, none⟩ = false ∧ w'.frozen? ⟨w.heap.size, 3, none⟩ = false ∧ w'.frozen? ⟨w.heap.size, 4, none⟩ = false ∧ w'.frozen? ⟨w.heap.size, 5, none⟩ = false ∧ w'.frozen? ⟨w.heap.size, 6, none⟩ = false) ∧
      (w'.cell? ⟨w6.heap.size, 0, none⟩ = some (.int .i64 R.k) ∧ w'.cell? ⟨w6.heap.size, 1, none⟩ = some (.int .i64 R.v) ∧ w'.cell? ⟨w6.heap.size, 2, none⟩ = some (.string (Lx.bs t')) ∧ w'.cell? ⟨w6.heap.size, 3, none⟩ = some (.int .i64 R.s) ∧ w'.cell? ⟨w6.heap.size, 4, none⟩ = some (.int .i64 R.e) ∧ w'.cell? ⟨w6.heap.size, 5, none⟩ = some (.int .i64 R.ns) ∧ w'.cell? ⟨w6.heap.size, 6, none⟩ = some (.slice sa' R.c.length cap'))) := by
    refine (compact_all _ _ _ w9.drew HO9.out (by rw [isort_len, List.length_append]; omega)).mono ?_
    rintro e w' ⟨v', rfl, h1, h2, h3⟩
    have hf : Fr (fun j => j < w9.heap.size ∧ v2.ownBlock ≠ some j) w9 w' := ⟨h3.os, h3.tape, h3.output, h3.size, h3.block⟩
    have hq := (hf.block w.heap.size ⟨hw9, hvr⟩).trans HRES9.out
    have hp := fun i => World.cell?_of_block (a := ⟨w6.heap.size, i, none⟩) (hf.block w6.heap.size ⟨hr9.1, hr9.2.1⟩)
    exact ⟨v', rfl, h1, h2, hf, hq, cells7 hq, ⟨Lib.frozen_of_heap hq _, Lib.frozen_of_heap hq _, Lib.frozen_of_heap hq _, Lib.frozen_of_heap hq _, Lib.frozen_of_heap hq _, Lib.frozen_of_heap hq _, Lib.frozen_of_heap hq _⟩, (hp 0).trans c0, (hp 1).trans c1, (hp 2).trans c2, (hp 3).trans c3, (hp 4).trans c4, (hp 5).trans c5, (hp 6).trans c6⟩
  clear hT' hc1 hc2 hc3 hkids hRok
  go_upto_region 9 with fail
  go_region_with (go_at_call 59; refine K9.out.mono ?_; rintro e w10 ⟨v3, rfl, HO10, HOB, HF10, HRW, ⟨d0, d1, d2', d3, d4, d5, d6⟩, ⟨g0, g1, g2, g3, g4, g5, g6⟩, e0, e1, e2, e3, e4, e5, e6⟩)
  all_goals
    have HW := Lib.hid (cells7 (put7o_heap HRW.out (.int .i64 R.k) (.int .i64 R.v) (.string (Lx.bs t')) (.int .i64 R.s) (.int .i64 R.e) (.int .i64 R.ns) (.slice sa' R.c.length cap')))
    have HFR := Lib.hid (put7o_fr w10 w.heap.size (.int .i64 R.k) (.int .i64 R.v) (.string (Lx.bs t')) (.int .i64 R.s) (.int .i64 R.e) (.int .i64 R.ns) (.slice sa' R.c.length cap'))
    clear c0 c1 c2 c3 c4 c5 c6 b2 y0 y1 y2 y3 y4 y5 y6 z0 z1 z2 z3 z4 z5 z6 d0 d1 d2' d3 d4 d5 d6 g0 g1 g2 g3 g4 g5 g6 e0 e1 e2 e3 e4 e5 e6
    go_wp2_with fail
    change bodyPost _ _ _ _ _ (put7o w10 w.heap.size (.int .i64 R.k) (.int .i64 R.v) (.string (Lx.bs t')) (.int .i64 R.s) (.int .i64 R.e) (.int .i64 R.ns) (.slice sa' R.c.length cap'))
    generalize put7o w10 w.heap.size (.int .i64 R.k) (.int .i64 R.v) (.string (Lx.bs t')) (.int .i64 R.s) (.int .i64 R.e) (.int .i64 R.ns) (.slice sa' R.c.length cap') = W at HW HFR ⊢
    obtain ⟨e0, e1, e2, e3, e4, e5, e6⟩ := HW.out
    refine bodyPost_ret (by simp [results, Tryz.results20, go_sem, e0, e1, e2, e3, e4, e5, e6]; try rfl) rfl ?_
    obtain ⟨p1, p2, p3, p4⟩ := HCP.out
    have hlen : (finT l R).c.length = R.c.length := by rw [finT_eq]; exact finL_len _ _
    refine ⟨sa', cap', v3, m, ?_, ?_⟩
    · rw [HROOT.out, fin_nv, ← HT'.out]
    · rw [HROOT.out]
      have hblk : ∀ j, j < w9.heap.size → v2.ownBlock ≠ some j → j ≠ w.heap.size → W.heap[j]? = w9.heap[j]? := fun j h1 h2 h3 => (HFR.out.block j h3).trans (HF10.out.block j ⟨h1, h2⟩)
      have hsz : w9.heap.size ≤ W.heap.size := Nat.le_trans HF10.out.size HFR.out.size
      refine ⟨⟨?_, ?_, ?_, by omega, fun j hj => ?_⟩, finT_ok HLL.out p1, by rw [hlen]; exact p2, p3, p4, ?_, ?_⟩
      · exact HFR.out.os.trans (HF10.out.os.trans HEX9.out.1)
      · exact HFR.out.tape.trans (HF10.out.tape.trans HEX9.out.2.1)
      · exact HFR.out.output.trans (HF10.out.output.trans HEX9.out.2.2)
      · rw [hblk j (by omega) (fun e => by have := hV2 j e; omega) (by omega), HLOW9.out j (by omega), HLOW6.out j hj]
      · have h9 : ∀ j, SF w5 w6 v1 w6.heap.size j → W.heap[j]? = w9.heap[j]? := fun j hj => by
          obtain ⟨q1, q2, _⟩ := HAP9.out j hj
          exact hblk j q1 q2 (by rcases hj with ⟨h, _⟩ | h <;> omega)
        rw [finT_eq]
        refine ((HKD.out.kept (w' := W) fun j o i hj => World.cell?_of_block (h9 j hj.2)).fin HLL.out).up (fun j o hj => ⟨hj.1, ?_, ?_, ?_⟩) (fun _ _ h => h) (Nat.le_refl _)
        · rcases hj.2 with ⟨h, _⟩ | h <;> omega
        · exact (HAP9.out j hj.2).2.2.of_block (h9 j hj.2)
        · rw [HOB.out]; exact (HAP9.out j hj.2).2.1
      · rw [HDG.out]
        have ho := HO10.out
        refine owns_low (owns_of_block ho fun g hg => HFR.out.block g ?_) (by omega)
        have := (World.ownsRow.lt ho g hg).1
        omega
end Go.Proofs.YtcpojagfnpajeaaGreatDoorR.Ps
