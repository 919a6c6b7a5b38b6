/-
  Print: what it answers for a tree whose slices lie in plain blocks.
  The example of the laws of the abstract syntax tree.
-/
import Derived.Test.YtcpojagfnpajeaaGreatDoorRZEqA
import Derived.Test.YtcpojagfnpajeaaGreatDoorRZFitHt
import Derived.Test.YtcpojagfnpajeaaGreatDoorRZPrCode2
import Derived.Test.YtcpojagfnpajeaaGreatDoorRZPrMid
import Derived.Test.YtcpojagfnpajeaaGreatDoorRZAsParse
import Derived.Lib.BufferRead
import Derived.KernelRfl
namespace Go.Proofs.YtcpojagfnpajeaaGreatDoorR.Ps
open Go.RowKit

set_option maxRecDepth 100000 in
set_option maxHeartbeats 4000000 in
theorem print_ok {w : World} {n : Nat} {x : Nd} {sa : Option Addr} {cap : Nat} (hx : NdV w n x sa cap) (hts : Nds w (NS w) TS n sa x.c) (htl : x.t.length ≤ 1100000) (hv : Vars w) (ht : Tab w) (h4 : 4 ≤ w.heap.size) (hfit : fitB x 1 0 = true) (hlen : (printed x).length ≤ 2000) (hres : diagA (printed x) = [] ∧ eqN (rootA (printed x)) x = true) :
    Calls Tryz.prog 42 #[nv x x.t sa cap] w fun e w' => e = .returned (.tuple #[.string (Lx.bs (printed x)), .int .i64 0]) ∧ Below w.heap.size w w' := by
  have HV := Lib.hid hv
  have HT := Lib.hid ht
  have HX := Lib.hid hx
  have HTS := Lib.hid hts
  have HTL := Lib.hid htl
  have HH4 := Lib.hid h4
  obtain ⟨W2, hW2⟩ : ∃ W2, W2 = (w.alloc (nbxx x sa cap)).alloc (.cells #[.int .i64 0] 3) := ⟨_, rfl⟩
  have hB2 : Below w.heap.size w W2 := by rw [hW2]; exact ((Below.refl _ _).alloc (Nat.le_refl _) _).alloc (by simp) _
  have hs2 : W2.heap.size = w.heap.size + 2 := by rw [hW2]; simp
  have hbx : W2.heap[w.heap.size]? = some (nbxx x sa cap) := by rw [hW2, Below.heap_alloc _ _ _ (by simp)]; exact heap_alloc_new w _
  have hnb : W2.heap[w.heap.size + 1]? = some (cntB 0) := by
    have := heap_alloc_new (w.alloc (nbxx x sa cap)) (.cells #[.int .i64 0] 3)
    have h2 : W2.heap[w.heap.size + 1]? = some (.cells #[.int .i64 0] 3) := by
      rw [hW2]
      simpa using this
    exact h2
  have K1 : Hid (Calls Tryz.prog 87 #[.pointer (some ⟨w.heap.size, 0, none⟩), .int .i64 1, .pointer (some ⟨w.heap.size + 1, 0, none⟩)] W2 (FitQ (w.heap.size + 1) x 1 0 W2)) := by
    obtain ⟨_, b, o, sa2, cap2, e, hp2, _, _, _, hsv, hkd⟩ := (hx.to hB2).boxed hbx
    cases e
    have e6 := Value.slice.inj (Option.some.inj (hsv.c6.symm.trans (by rw [Lib.cell_of_heap hbx]; rfl)))
    have hk : Nds W2 (fun j _ => j < w.heap.size) TEx n sa x.c := (hx.kids.kept fun j _ _ hj => World.cell?_of_block (hB2.block j hj.lt)).up (fun _ _ hj => hj.lt) (fun _ _ h => h) (Nat.le_refl _)
    exact fits_any W2 (w.heap.size + 1) (fun j _ => j < w.heap.size) TEx (fun j _ hj => ⟨by omega, by omega⟩) n x x.t w.heap.size 0 sa2 cap2 1 0 W2 hsv (by omega) (by omega) (by rw [e6.1]; exact hk) hx.ok.2.2.2.2.2.2 ⟨rfl, rfl, rfl, Nat.le_refl _, fun _ _ _ => rfl⟩ hnb (by omega) (by omega)
  have HB2 := Lib.hid hB2
  have HBX := Lib.hid hbx
  clear hv ht hx hts htl h4 hB2 hbx hnb
  go_enter Tryz.func42, Tryz.ntmps42
  go_upto_region 2 with fail
  rw [show World.alloc (World.alloc w _) _ = W2 from hW2.symm]
  clear hW2
  go_upto_region 4 with (go_at_call 87; refine K1.out.mono ?_; rintro e W3 ⟨rfl, hg3, _⟩; rw [hfit]; have hB3 : Below w.heap.size w W3 := HB2.out.trans ⟨hg3.os, hg3.tape, hg3.output, hg3.size, fun k hk => hg3.block k (by omega) (by intro e; have := Option.some.inj e; omega)⟩; have HB3 := Lib.hid hB3; have HG3 := Lib.hid hg3; clear hg3 hB3)
  have hs3 : w.heap.size + 2 ≤ W3.heap.size := by have := HG3.out.size; omega
  have hbx3 : W3.heap[w.heap.size]? = some (nbxx x sa cap) := (HG3.out.block _ (by omega) (by intro e; have := Option.some.inj e; omega)).trans HBX.out
  obtain ⟨W4, hW4⟩ : ∃ W4, W4 = W3.alloc (.cells #[.slice none 0 0] 146) := ⟨_, rfl⟩
  have hB4 : Below W3.heap.size W3 W4 := by rw [hW4]; exact below_box _ _
  have hs4 : W4.heap.size = W3.heap.size + 1 := by rw [hW4]; simp
  have hp4 : W4.heap[W3.heap.size]? = some (.cells #[.slice none 0 0] 146 (0, 0)) := by rw [hW4]; exact heap_alloc_new _ _
  have hbx4 : W4.heap[w.heap.size]? = some (nbxx x sa cap) := (hB4.block _ (by omega)).trans hbx3
  have HB4 : Hid (Below w.heap.size w W4) := HB3.out.trans (hB4.mono (by omega))
  have K2 : Hid (Calls Tryz.prog 88 #[.pointer (some ⟨W3.heap.size, 0, none⟩), nv x x.t sa cap] W4 (PW W3.heap.size W3.heap.size [] (toks x) (.slice none 0 0) W4)) := by
    refine pt_all W3.heap.size W3.heap.size x.height x (Nat.le_refl _) sa cap n W4 (.slice none 0 0) [] ⟨?_, HX.out.c1, HX.out.c2, HX.out.c3, ?_, by have := HH4.out; omega, HT.out.below HB4.out⟩ HX.out.ok HTL.out ⟨hp4, ⟨rfl, Or.inl ⟨rfl, rfl⟩⟩, by simp [Value.ownBlock], Nat.le_refl _, by simp⟩ (by omega)
    · exact (HTS.out.kept fun j _ _ hj => World.cell?_of_block (HB4.out.block j hj.lt)).up (fun j _ hj => by have := hj.lt; omega) (fun _ _ h => h) (Nat.le_refl _)
    · have h1 := of_decide_eq_true hfit
      have := nd_size x
      omega
  have HBX4 := Lib.hid hbx4
  obtain ⟨b0, b1, b2, b3, b4, b5, b6⟩ := cells7 hbx4
  clear hB4 hp4 hbx3 K1
  go_upto_region 5 with fail
  rw [show World.alloc W3 _ = W4 from hW4.symm]
  clear hW4
  go_upto_region 6 with (go_at_call 88; refine K2.out.mono ?_; rintro e W5 ⟨rfl, v5, hpr, hrp⟩)
  obtain ⟨txt, hTX⟩ : ∃ txt, txt = printed x := ⟨_, rfl⟩
  have HPR : Hid (PrIn W5 W3.heap.size W3.heap.size v5 txt) := by rw [hTX]; exact hpr
  have hB5 : Below w.heap.size w W5 := HB4.out.trans ⟨hrp.out.fr.os, hrp.out.fr.tape, hrp.out.fr.output, hrp.out.fr.size, fun j hj => hrp.out.fr.block j ⟨by omega, by omega, by simp [Value.ownBlock]⟩⟩
  have hbx5 : W5.heap[w.heap.size]? = some (nbxx x sa cap) := (hrp.out.fr.block _ ⟨by omega, by omega, by simp [Value.ownBlock]⟩).trans hbx4
  have hs5 := hrp.out.fr.size
  have HB5 := Lib.hid hB5
  have HBX5 := Lib.hid hbx5
  have hconv : 0 < txt.length → (convert 97 9 v5).run Tryz.prog W5 = .ok (.string (Lx.bs txt)) W5 := fun h => conv_own W5 _ v5 _ txt HPR.out.own h
  have hconv0 : txt.length = 0 → v5 = .slice none 0 0 → (convert 97 9 v5).run Tryz.prog W5 = .ok (.string (Lx.bs txt)) W5 := fun h e => by
    rw [e, List.eq_nil_of_length_eq_zero h]
    exact Lib.run_convert_nil_bytes W5 97 9 5 0 Tryz.underlying97 Tryz.underlying5 Tryz.underlying9
  obtain ⟨a5, c5, rfl, hcv⟩ : ∃ a5 c5, v5 = .slice a5 txt.length c5 ∧ (convert 97 9 v5).run Tryz.prog W5 = .ok (.string (Lx.bs txt)) W5 := by
    have hown := HPR.out.own
    rcases hown.2 with ⟨e, h0⟩ | ⟨g, cp, cur, e, _⟩
    · exact ⟨none, 0, by rw [e, h0], hconv0 h0 e⟩
    · refine ⟨some ⟨g, 0, none⟩, cp, e, ?_⟩
      rcases Nat.eq_zero_or_pos txt.length with h0 | h0
      · have hnil : txt = [] := List.eq_nil_of_length_eq_zero h0
        rw [e, h0, hnil]
        exact run_convert_bytes_back W5 97 9 5 ⟨g, 0, none⟩ cp [] Tryz.underlying97 Tryz.underlying5 Tryz.underlying9 (fun j hj => absurd hj (by simp))
      · exact hconv h0
  have hp5 : W5.cell? ⟨W3.heap.size, 0, none⟩ = some (.slice a5 txt.length c5) := by rw [Lib.cell_of_heap HPR.out.hb]; rfl
  rw [← hTX] at hlen
  have HTX := Lib.hid hTX
  clear hTX
  clear hpr hrp hB5 hbx5 hconv hconv0 K2 b0 b1 b2 b3 b4 b5 b6 hbx4
  have hl2 : ¬ (2000 : Int) < (txt.length : Int) := by omega
  have HVV : Hid (Vars W5) := HV.out.below HB5.out
  have K3 := Lib.hid (parse_any (Lx.bs txt) W5 (by rw [Lx.bs_size]; exact hlen) HVV.out)
  rw [Lx.L_bs] at K3
  obtain ⟨R, hR⟩ : ∃ R, R = rootA txt := ⟨_, rfl⟩
  obtain ⟨D, hD⟩ : ∃ D, D = diagA txt := ⟨_, rfl⟩
  rw [← hR, ← hD] at K3
  rw [← HTX.out] at hres
  try rw [← hR] at hres
  rw [← hD] at hres
  have HRR := Lib.hid hR
  have HDD := Lib.hid hD
  clear hR hD
  go_upto_region 9 with fail
  go_wp2_with fail
  refine K3.out.mono ?_
  rintro e W6 ⟨sa6, cap6, dv, m6, rfl, hpp⟩
  have hB6 : Below w.heap.size w W6 := HB5.out.trans (hpp.out.below.mono (by omega))
  have hbx6 : W6.heap[w.heap.size]? = some (nbxx x sa cap) := (hpp.out.below.block _ (by omega)).trans HBX5.out
  have hs6 := hpp.out.below.size
  obtain ⟨ad, cd, rfl⟩ : ∃ ad cd, dv = .slice ad D.length cd := by
    rcases hpp.out.dg.2 with ⟨e, h0⟩ | ⟨g, cp, cur, e, _⟩
    · exact ⟨none, 0, by rw [e, h0]⟩
    · exact ⟨_, cp, e⟩
  go_upto_region 10 with fail
  obtain ⟨W7, hW7⟩ : ∃ W7, W7 = W6.alloc (nbxx R sa6 cap6) := ⟨_, rfl⟩
  rw [show World.alloc W6 _ = W7 from hW7.symm]
  have hB67 : Below W6.heap.size W6 W7 := by rw [hW7]; exact below_box _ _
  have hB7 : Below w.heap.size w W7 := hB6.trans (hB67.mono (by omega))
  have hs7 : W7.heap.size = W6.heap.size + 1 := by rw [hW7]; simp
  have hr7 : W7.heap[W6.heap.size]? = some (nbxx R sa6 cap6) := by rw [hW7]; exact heap_alloc_new _ _
  have hx7 : W7.heap[w.heap.size]? = some (nbxx x sa cap) := (hB67.block _ (by omega)).trans hbx6
  have HB7 := Lib.hid hB7
  clear hW7
  obtain ⟨hD0, hE⟩ := hres
  have hdl : D.length = 0 := by rw [hD0]; rfl
  have K4 := Lib.hid (Equal_any W7 (x := R) (y := x) (n := m6) (n' := n) (sa := sa6) (sa' := sa) (cap := cap6) (cap' := cap) ⟨hpp.out.ok, hpp.out.c1, hpp.out.c2, hpp.out.c3, (hpp.out.nds.kept fun j _ _ hj => World.cell?_of_block (hB67.block j hj.2.2.1.lt)).up (fun j _ hj => hj.2.2.1.below hB67) (fun _ _ h => h) (Nat.le_refl _)⟩ (HX.out.to hB7))
  obtain ⟨b0, b1, b2, b3, b4, b5, b6⟩ := cells7 hx7
  obtain ⟨r0, r1, r2, r3, r4, r5, r6⟩ := cells7 hr7
  try rw [hdl]
  clear hx7 hr7 hdl hD0
  go_wp2_with (go_at_call 21; refine K4.out.mono ?_; rintro e W8 ⟨rfl, hb8⟩; rw [hE]; have HB8 : Hid (Below w.heap.size w W8) := HB7.out.trans (hb8.mono (by omega)); clear hb8)
  go_ret2
  exact ⟨by rw [← HTX.out]; rfl, HB8.out⟩

end Go.Proofs.YtcpojagfnpajeaaGreatDoorR.Ps

namespace Go.Proofs.YtcpojagfnpajeaaGreatDoorR.Ps
open Go.RowKit

mutual
/-- No text is longer than n. -/
def txB (n : Nat) : Nd → Bool
  | .mk _ _ t _ _ _ c => decide (t.length ≤ n) && txBs n c
def txBs (n : Nat) : List Nd → Bool
  | [] => true
  | x :: r => txB n x && txBs n r
end
theorem txBs_mem {n : Nat} {x : Nd} : ∀ {l : List Nd}, txBs n l = true → x ∈ l → txB n x = true
  | y :: r, h, hm => by
    simp only [txBs, Bool.and_eq_true] at h
    rcases List.mem_cons.1 hm with rfl | hm
    · exact h.1
    · exact txBs_mem h.2 hm
theorem txB_eq (n : Nat) (x : Nd) : txB n x = (decide (x.t.length ≤ n) && txBs n x.c) := by cases x; rfl
theorem Nds.ts {w : World} {S : Nat → Nat → Prop} : ∀ {n : Nat} {a : Option Addr} {l : List Nd}, Nds w S TEx n a l → txBs 1100000 l = true → Nds w S TS n a l
  | 0, _, _, h, _ => h
  | n + 1, a, l, h, ht => by
    intro i x hx
    obtain ⟨h0, b, o, sa, cap, t, h1, h2, rfl, h4, h5, h6, h7, h8⟩ := h i x hx
    have := txBs_mem ht (List.mem_of_getElem? hx)
    rw [txB_eq, Bool.and_eq_true] at this
    exact ⟨h0, b, o, sa, cap, x.t, h1, h2, ⟨rfl, of_decide_eq_true this.1⟩, h4, h5, h6, h7, h8.ts this.2⟩

def astB : ByteArray := ⟨#[102, 110, 32, 102, 40, 41, 123, 49, 42, 40, 50, 43, 51, 41, 125]⟩
def astS : List UInt8 := [102, 110, 32, 102, 32, 40, 32, 41, 32, 123, 32, 49, 32, 42, 32, 40, 32, 50, 32, 43, 32, 51, 32, 41, 32, 125]
set_option maxRecDepth 100000 in
theorem ast_diag : diagA (Lx.L astB) = [] := by decide +kernel
set_option maxRecDepth 100000 in
theorem ast_fit : fitB (rootA (Lx.L astB)) 1 0 = true := by decide +kernel
set_option maxRecDepth 100000 in
theorem ast_txt : txB 1100000 (rootA (Lx.L astB)) = true := by decide +kernel
set_option maxRecDepth 100000 in
theorem ast_src : printed (rootA (Lx.L astB)) = astS := by decide +kernel
set_option maxRecDepth 100000 in
theorem ast_diag2 : diagA astS = [] := by decide +kernel
set_option maxRecDepth 100000 in
theorem ast_eq : eqN (rootA astS) (rootA (Lx.L astB)) = true := by decide +kernel
theorem ast_size : astB.size = 15 := by decide +kernel
theorem ast_len : astS.length = 26 := by decide +kernel

set_option maxRecDepth 100000 in
set_option maxHeartbeats 4000000 in
theorem astExample_any (w : World) (hv : Vars w) (ht : Tab w) : Calls Tryz.prog 41 #[] w fun e w' => e = .returned (.bool true) ∧ Below w.heap.size w w' := by
  have K1 := Lib.hid (parse_any astB w (by rw [ast_size]; decide) hv)
  have hfit := ast_fit
  have htx := ast_txt
  have hsrc := ast_src
  have heq := ast_eq
  rw [ast_diag] at K1
  have h4 : 4 ≤ w.heap.size := ht.lt
  obtain ⟨R, hR⟩ : ∃ R, R = rootA (Lx.L astB) := ⟨_, rfl⟩
  rw [← hR] at K1 hfit htx hsrc heq
  clear hR
  have HF := Lib.hid hfit
  have HX := Lib.hid htx
  have HSR := Lib.hid hsrc
  have HE := Lib.hid heq
  have HV := Lib.hid hv
  have HT := Lib.hid ht
  have HH4 := Lib.hid h4
  clear hfit htx hsrc heq hv ht h4
  have K1' : Hid (Calls Tryz.prog 20 #[.string ⟨#[102, 110, 32, 102, 40, 41, 123, 49, 42, 40, 50, 43, 51, 41, 125]⟩] w _) := K1
  clear K1
  go_enter Tryz.func41, Tryz.ntmps41
  go_upto_region 1 with fail
  go_wp2_with fail
  refine K1'.out.mono ?_
  rintro e w1 ⟨sa, cap, dv, m, rfl, hp⟩
  obtain ⟨ad, cd, rfl⟩ : ∃ ad cd, dv = .slice ad 0 cd := by
    rcases hp.out.dg.2 with ⟨e, _⟩ | ⟨g, cp, cur, e, _⟩
    · exact ⟨none, 0, e⟩
    · exact ⟨_, cp, e⟩
  have hB1 := hp.out.below
  have hs1 := hB1.size
  go_upto_region 2 with fail
  obtain ⟨w2, hw2⟩ : ∃ w2, w2 = w1.alloc (nbxx R sa cap) := ⟨_, rfl⟩
  rw [show World.alloc w1 _ = w2 from hw2.symm]
  have hB2 : Below w1.heap.size w1 w2 := by rw [hw2]; exact below_box _ _
  have hs2 : w2.heap.size = w1.heap.size + 1 := by rw [hw2]; simp
  have hbx : w2.heap[w1.heap.size]? = some (nbxx R sa cap) := by rw [hw2]; exact heap_alloc_new _ _
  have HB2 : Hid (Below w.heap.size w w2) := hB1.trans (hB2.mono hs1)
  clear hw2
  have hk : Nds w2 (NS w2) TEx m sa R.c := (hp.out.nds.kept fun j _ _ hj => World.cell?_of_block (hB2.block j hj.2.2.1.lt)).up (fun j _ hj => hj.2.2.1.below hB2) (fun _ _ h => h) (Nat.le_refl _)
  have htx := HX.out
  rw [txB_eq, Bool.and_eq_true] at htx
  have K2 := print_ok (w := w2) (x := R) (n := m) (sa := sa) (cap := cap) ⟨hp.out.ok, hp.out.c1, hp.out.c2, hp.out.c3, hk⟩ (hk.ts htx.2) (of_decide_eq_true htx.1) (HV.out.below HB2.out) (HT.out.below HB2.out) (by have := HH4.out; omega) HF.out (by rw [HSR.out, ast_len]; decide) (by rw [HSR.out]; exact ⟨ast_diag2, HE.out⟩)
  rw [HSR.out] at K2
  have K2' : Hid (Calls Tryz.prog 42 #[nv R R.t sa cap] w2 fun e w' => e = .returned (.tuple #[.string ⟨#[102, 110, 32, 102, 32, 40, 32, 41, 32, 123, 32, 49, 32, 42, 32, 40, 32, 50, 32, 43, 32, 51, 32, 41, 32, 125]⟩, .int .i64 0]) ∧ Below w2.heap.size w2 w') := K2
  obtain ⟨b0, b1, b2, b3, b4, b5, b6⟩ := cells7 hbx
  clear K2 hk htx hp hB1
  go_wp2_with (go_at_call 42; refine K2'.out.mono ?_; rintro e w3 ⟨rfl, hb3⟩; have HB3 : Hid (Below w.heap.size w w3) := HB2.out.trans (hb3.mono (by omega)); clear hb3)
  go_ret
  exact ⟨rfl, HB3.out⟩
end Go.Proofs.YtcpojagfnpajeaaGreatDoorR.Ps
