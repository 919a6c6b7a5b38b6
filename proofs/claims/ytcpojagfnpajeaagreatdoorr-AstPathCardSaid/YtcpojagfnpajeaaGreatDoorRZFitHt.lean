/-
  fits: whether a tree keeps to the limits of printed trees.
  How high the tree of a source is.
-/
import Derived.Test.YtcpojagfnpajeaaGreatDoorRZAsFin2
import Derived.Test.YtcpojagfnpajeaaGreatDoorRZAsPrint
import Derived.Test.YtcpojagfnpajeaaGreatDoorRZAsEnd
namespace Go.Proofs.YtcpojagfnpajeaaGreatDoorR.Ps
open Go.RowKit

def fitB (x : Nd) (depth cnt : Nat) : Bool := decide (cnt + x.size ≤ 800 ∧ depth + x.height ≤ 31)
abbrev cntB (cnt : Nat) : Obj := .cells #[.int .i64 (cnt : Int)] 3 (0, 0)
/-- What fits leaves of the counter in block nb. -/
def FitQ (nb : Nat) (x : Nd) (depth cnt : Nat) (w : World) (e : Ending) (w' : World) : Prop :=
  e = .returned (.bool (fitB x depth cnt)) ∧ w.grownBy w' (some nb) ∧ (fitB x depth cnt = true → w'.heap[nb]? = some (cntB (cnt + x.size)))

theorem nheights_take {c : List Nd} {k : Nat} {y : Nd} (h : c[k]? = some y) : nheights (c.take (k + 1)) = max (nheights (c.take k)) y.height := by
  induction k generalizing c with
  | zero =>
    cases c with
    | nil => cases h
    | cons a c => simp at h; subst h; simp [nheights]
  | succ k ih =>
    cases c with
    | nil => cases h
    | cons a c => simp at h; simp only [List.take_succ_cons, nheights, ih h]; omega
theorem nheights_upto (c : List Nd) : ∀ k, nheights (c.take k) ≤ nheights c
  | 0 => by simp [nheights]
  | k + 1 => by
    cases c with
    | nil => simp [nheights]
    | cons a c => have := nheights_upto c k; simp only [List.take_succ_cons, nheights]; omega

set_option maxRecDepth 100000 in
set_option maxHeartbeats 2000000 in
theorem fits_any (w0 : World) (nb : Nat) (S : Nat → Nat → Prop) (T : Nd → List UInt8 → Prop) (hS : ∀ j o, S j o → j < w0.heap.size ∧ j ≠ nb) : ∀ (n : Nat) (x : Nd) (t : List UInt8) (b o : Nat) (sa : Option Addr) (cap depth cnt : Nat) (w : World),
    Seven w0 b o x t sa cap → b < w0.heap.size → b ≠ nb → Nds w0 S T n sa x.c → x.c.length ≤ maxLen → w0.grownBy w (some nb) → w.heap[nb]? = some (cntB cnt) → cnt ≤ 800 → depth ≤ 1000 →
    Calls Tryz.prog 87 #[.pointer (some ⟨b, o, none⟩), .int .i64 depth, .pointer (some ⟨nb, 0, none⟩)] w (FitQ nb x depth cnt w) := by
  intro n
  induction n using Nat.strongRecOn with
  | ind n ih =>
  intro x t b o sa cap depth cnt w hsv hb hne hk hlen hg hn hcnt hdep
  have hsz := nd_size x
  have hht := nd_height x
  obtain ⟨a0, f0⟩ := one_facts hn
  obtain ⟨W, hW⟩ : ∃ W, W = w.setCell ⟨nb, 0, none⟩ (.int .i64 ((cnt : Int) + 1)) := ⟨_, rfl⟩
  have hWn : W.heap[nb]? = some (cntB (cnt + 1)) := by rw [hW]; exact set_one0 hn
  have hWg : w.grownBy W (some nb) := by rw [hW]; exact ⟨rfl, rfl, rfl, by simp, fun k _ hk => Below.heap_setCell _ _ _ _ (fun e => hk (by rw [e]))⟩
  obtain ⟨a1, f1⟩ := one_facts hWn
  have hc : ((cnt + 1 : Nat) : Int) = (cnt : Int) + 1 := by omega
  have HG : Hid (w0.grownBy W (some nb)) := hg.trans hWg
  have hs6 : W.cell? ⟨b, o + 6, none⟩ = some (.slice sa x.c.length cap) := (World.cell?_of_block (HG.out.block b hb (fun e => hne (Option.some.inj e)))).trans hsv.c6
  have HWG := Lib.hid hWg
  have HWN := Lib.hid hWn
  rw [hc] at a1
  have HK := Lib.hid hk
  have HS6 : Hid (w0.cell? ⟨b, o + 6, none⟩ = some (.slice sa x.c.length cap)) := hsv.c6
  have HB := Lib.hid hb
  have HNE := Lib.hid hne
  have hd0 : (0 : Int) ≤ (depth : Int) := by omega
  have hc0 : (0 : Int) ≤ (cnt : Int) := by omega
  unfold maxLen at hlen
  clear hk hsv hg hWg hWn hb hne hc
  by_cases h1 : cnt + 1 ≤ 800
  · have h1' : ¬ (800 : Int) < (cnt : Int) + 1 := by omega
    by_cases h2 : depth ≤ 30
    · have h2' : ¬ (30 : Int) < (depth : Int) := by omega
      generalize hcc : x.c = c at *
      go_enter Tryz.func87, Tryz.ntmps87
      go_upto_region 2 with fail
      rw [show World.setCell w _ _ = W from hW.symm]
      clear hW
      go_wp2_with fail
      go_loopw [26] (fun i wr => ∃ k : Nat, k ≤ c.length ∧ i = .int .i64 k ∧ Hid (W.grownBy wr (some nb)) ∧ Hid (wr.heap[nb]? = some (cntB (cnt + 1 + nsizes (c.take k)))) ∧ Hid (cnt + 1 + nsizes (c.take k) ≤ 800 ∧ depth + 1 + nheights (c.take k) ≤ 31))
        (fun i _ => c.length - (intOf i).toNat)
      case atStart => exact ⟨0, Nat.zero_le _, rfl, ⟨rfl, rfl, rfl, Nat.le_refl _, fun _ _ _ => rfl⟩, by show _ = _; simpa [nsizes] using HWN.out, by show _ ∧ _; simp [nsizes, nheights]; omega⟩
      case round =>
        obtain ⟨k, hk, rfl, hGR, hHN, hOK⟩ := hrel
        have hGR0 := HG.out.trans hGR.out
        have hs6r : wr.cell? ⟨b, o + 6, none⟩ = some (.slice sa c.length cap) := (World.cell?_of_block (hGR0.block b HB.out (fun e => HNE.out (Option.some.inj e)))).trans HS6.out
        have HGR0 := Lib.hid hGR0
        clear hGR0
        by_cases hlt : k < c.length
        · have hx : c[k]? = some c[k] := List.getElem?_eq_getElem hlt
          obtain ⟨y, hY⟩ : ∃ y, y = c[k] := ⟨_, rfl⟩
          rw [← hY] at hx
          clear hY
          obtain ⟨hyo, m', b1, o1, sa1, cap1, t1, hm', rfl, hS1, _, _, _, _, hsv1, hk1⟩ := Nds.at HK.out hx
          have HX := Lib.hid hx
          have hst := nsizes_take hx
          have hnt := nheights_take hx
          have hup := nsizes_upto c (k + 1)
          have hnu := nheights_upto c (k + 1)
          obtain ⟨hb1, hne1⟩ := hS _ _ hS1
          have hok := hOK.out
          have K := Lib.hid (ih m' hm' y t1 b1 (o1 + k * 7) sa1 cap1 (depth + 1) (cnt + 1 + nsizes (c.take k)) wr hsv1 hb1 hne1 hk1 hyo.2.2.2.2.2.2 HGR0.out hHN.out hok.1 (by omega))
          have e1 : ((depth + 1 : Nat) : Int) = (depth : Int) + 1 := by omega
          rw [e1] at K
          have HST := Lib.hid hst
          have HNT := Lib.hid hnt
          have HUP := Lib.hid hup
          have HNU := Lib.hid hnu
          have hk0 : (0 : Int) ≤ (k : Int) := by omega
          have hk1' : (k : Int) < (c.length : Int) := by omega
          clear hx hst hnt hup hnu hsv1 hk1 hyo hok e1
          obtain ⟨r, hR⟩ : ∃ r, r = fitB y (depth + 1) (cnt + 1 + nsizes (c.take k)) := ⟨_, rfl⟩
          have HR := Lib.hid hR
          clear hR
          go_wp2_with (go_at_call 87; refine K.out.mono ?_; rintro e w' ⟨rfl, hg', hh'⟩; rw [← HR.out]; rw [← HR.out] at hh'; have HG' := Lib.hid hg'; have HH' := Lib.hid hh'; clear hg' hh')
          case roundEnd =>
            have hrt : r = true := by cases r <;> simp_all
            have hr := HR.out
            rw [hrt] at hr
            have hr := of_decide_eq_true hr.symm
            have := HST.out
            have := HNT.out
            exact ⟨⟨k + 1, by omega, by go_num, hGR.out.trans HG'.out, by show _ = _; rw [HST.out, ← Nat.add_assoc]; exact HH'.out hrt, by show _ ∧ _; have := hOK.out; omega⟩, by simp [intOf]; omega⟩
          all_goals
            have hrf : r = false := by cases r <;> simp_all
            have hr := HR.out
            rw [hrf] at hr
            have hr := of_decide_eq_false hr.symm
            have hF : fitB x depth cnt = false := by
              refine decide_eq_false fun q => hr ?_
              have := HST.out
              have := HNT.out
              have := HUP.out
              have := HNU.out
              omega
            have HF := Lib.hid hF
            clear hr hF
            go_wp2_with fail
            go_ret
            exact ⟨by rw [HF.out]; rfl, HWG.out.trans (hGR.out.trans HG'.out), fun q => by rw [HF.out] at q; cases q⟩
        · have hkl : k = c.length := by omega
          have hok := hOK.out
          have hhn := hHN.out
          rw [hkl, List.take_length] at hok hhn
          have hT : fitB x depth cnt = true := decide_eq_true (by omega)
          have HT := Lib.hid hT
          have HHN : Hid (wr.heap[nb]? = some (cntB (cnt + x.size))) := by
            show _ = _
            rw [hhn, hsz, ← Nat.add_assoc]
          clear hT hok hhn hkl
          go_wp2_with fail
          go_ret
          exact ⟨by rw [HT.out]; rfl, HWG.out.trans hGR.out, fun _ => HHN.out⟩
    · have h2' : (30 : Int) < (depth : Int) := by omega
      have hF : fitB x depth cnt = false := decide_eq_false (by omega)
      have HF := Lib.hid hF
      clear hF
      go_enter Tryz.func87, Tryz.ntmps87
      go_upto_region 2 with fail
      rw [show World.setCell w _ _ = W from hW.symm]
      clear hW
      go_wp2_with fail
      go_ret
      exact ⟨by rw [HF.out]; rfl, HWG.out, fun q => by rw [HF.out] at q; cases q⟩
  · have h1' : (800 : Int) < (cnt : Int) + 1 := by omega
    have hF : fitB x depth cnt = false := decide_eq_false (by omega)
    have HF := Lib.hid hF
    clear hF
    go_enter Tryz.func87, Tryz.ntmps87
    go_upto_region 2 with fail
    rw [show World.setCell w _ _ = W from hW.symm]
    clear hW
    go_wp2_with fail
    go_ret
    exact ⟨by rw [HF.out]; rfl, HWG.out, fun q => by rw [HF.out] at q; cases q⟩
end Go.Proofs.YtcpojagfnpajeaaGreatDoorR.Ps

namespace Go.Proofs.YtcpojagfnpajeaaGreatDoorR.Ps
open Go.RowKit

theorem nheights_append (a b : List Nd) : nheights (a ++ b) = max (nheights a) (nheights b) := by
  induction a with
  | nil => simp [nheights]
  | cons x r ih => simp only [List.cons_append, nheights, ih]; omega
mutual
theorem tree_hs : ∀ x : Tree, x.height ≤ x.size
  | .node _ _ c => by have := trees_hs c; simp only [Tree.height, Tree.size]; omega
theorem trees_hs : ∀ c : List Tree, heights c ≤ sizes c
  | [] => by simp [heights, sizes]
  | x :: r => by have := tree_hs x; have := trees_hs r; simp only [heights, sizes]; omega
end
mutual
theorem finT_h (src : List UInt8) : ∀ x : Nd, (finT src x).height = x.height
  | .mk k v t s e ns c => by rw [finT_eq]; show 1 + nheights (finL src c) = 1 + nheights c; rw [finL_h src c]
theorem finL_h (src : List UInt8) : ∀ l : List Nd, nheights (finL src l) = nheights l
  | [] => rfl
  | x :: r => by simp only [finL, nheights, finT_h src x, finL_h src r]
end
theorem ht_acc (n : Nat) (ih : ∀ y o, y.height ≤ n → (bldT y o).1.height ≤ y.height) (x : Tree) (o : Nat) (hh : heights x.c ≤ n) : ∀ i, i ≤ x.c.length → nheights (accAt x.k o x.c i).c ≤ heights x.c
  | 0, _ => by rw [accAt_zero]; show nheights [] ≤ _; simp [nheights]
  | i + 1, hi => by
    have h := ht_acc n ih x o hh i (by omega)
    have hx : x.c[i]? = some x.c[i] := List.getElem?_eq_getElem (by omega)
    generalize x.c[i] = y at hx
    have hm := List.mem_of_getElem? hx
    have hhy := height_of hm
    have e : accAt x.k o x.c (i + 1) = stepA x.k (accAt x.k o x.c i) y := accAt_succ hx
    by_cases hy : y.k < 100
    · have hq := ih y (accAt x.k o x.c i).o (by omega)
      unfold stepA at e
      rw [if_pos hy] at e
      dsimp only at e
      rw [e]
      show nheights ((accAt x.k o x.c i).c ++ [(bldT y (accAt x.k o x.c i).o).1]) ≤ _
      rw [nheights_append]
      simp only [nheights]
      omega
    · unfold stepA at e
      rw [if_neg hy] at e
      obtain ⟨_, _, t3⟩ := tokA_o x.k y.k (Lx.L y.t) (accAt x.k o x.c i)
      rw [e, t3]
      exact h
theorem ht_all : ∀ (n : Nat) (x : Tree) (o : Nat), x.height ≤ n → (bldT x o).1.height ≤ x.height
  | 0, x, _, h => by have := tree_height x; omega
  | n + 1, x, o, h => by
    have hht := tree_height x
    have ha := ht_acc n (ht_all n) x o (by omega) x.c.length (Nat.le_refl _)
    rw [bldT_eq]
    dsimp only
    rw [nd_height]
    unfold ndOf
    split
    · cases hc : (accAt x.k o x.c x.c.length).c with
      | nil => show 1 + nheights [] ≤ _; simp [nheights]; omega
      | cons q r =>
        rw [hc] at ha
        simp only [nheights] at ha
        have := nd_height q
        show 1 + nheights q.c ≤ _
        omega
    · show 1 + nheights (accAt x.k o x.c x.c.length).c ≤ _
      omega
theorem root_ht {l : List UInt8} (h : l.length ≤ 2000) : (rootA l).height ≤ 32001 := by
  have h1 := ht_all (treeA l).height (treeA l) 0 (Nat.le_refl _)
  have h2 := tree_hs (treeA l)
  have h3 := (tree_facts h).size
  have h4 := nd_height (bldT (treeA l) 0).1
  unfold rootA rootOf
  rw [finT_h, nd_height]
  show 1 + nheights (bldT (treeA l) 0).1.c ≤ _
  omega
end Go.Proofs.YtcpojagfnpajeaaGreatDoorR.Ps
