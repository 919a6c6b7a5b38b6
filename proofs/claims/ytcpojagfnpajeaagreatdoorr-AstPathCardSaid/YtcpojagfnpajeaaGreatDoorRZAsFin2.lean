/-
  (*builder).finishErrors, by its contract.
-/
import Derived.Test.YtcpojagfnpajeaaGreatDoorRZAsMid
import Derived.Test.YtcpojagfnpajeaaGreatDoorRZAsPrint
namespace Go.Proofs.YtcpojagfnpajeaaGreatDoorR.Ps
open Go.RowKit

set_option maxHeartbeats 1000000 in
theorem clone_any (s : ByteArray) (w : World) (hs : s.size ≤ 100000) : Calls Tryz.prog 62 #[.string s] w fun e w' => e = .returned (.string s) ∧ Below w.heap.size w w' := by
  have K := Lib.hid (Tryz.stringslite_Clone s w (by omega))
  go_enter Tryz.func62, Tryz.ntmps62
  go_wp2_with fail
  refine K.out.mono ?_
  rintro e w1 ⟨rfl, hb⟩
  go_wp2_with fail
  go_ret
  exact ⟨rfl, hb⟩

/-- What finishErrors leaves. -/
structure FPost (b n0 : Nat) (src : List UInt8) (S : Nat → Prop) (o : Nat) (v : Value) (d ds : List Dg) (w w' : World) (v' : Value) : Prop where
  bl : BldIn w' b n0 src o v' (d ++ ds)
  chg : Chg S src w w'
  fr : Fr (fun j => j < w.heap.size ∧ ¬ S j ∧ j ≠ b ∧ v.ownBlock ≠ some j) w w'
  row : ∀ g, v'.ownBlock = some g → v.ownBlock = some g ∨ w.heap.size ≤ g

/-- The node blocks lie apart from the builder. -/
structure Apt (S : Nat → Prop) (b : Nat) (v : Value) (w : World) : Prop where
  lt : ∀ j, S j → j < w.heap.size
  ne : ∀ j, S j → j ≠ b ∧ v.ownBlock ≠ some j
  pl : ∀ j, S j → Pl w j

section
variable {b n0 : Nat} {src : List UInt8} {S : Nat → Prop} {o : Nat} {v : Value} {d ds ds' : List Dg} {w w' w3 : World} {v' v3 : Value}
theorem FPost.apt (h : FPost b n0 src S o v d ds w w' v') (ha : Apt S b v w) : Apt S b v' w' := by
  refine ⟨fun j hj => Nat.lt_of_lt_of_le (ha.lt j hj) h.chg.size, fun j hj => ⟨(ha.ne j hj).1, fun e => ?_⟩, fun j hj => h.chg.pl j hj (ha.pl j hj)⟩
  rcases h.row j e with q | q
  · exact (ha.ne j hj).2 q
  · have := ha.lt j hj; omega
theorem FPost.trans (h : FPost b n0 src S o v d ds w w' v') (h' : FPost b n0 src S o v' (d ++ ds) ds' w' w3 v3) : FPost b n0 src S o v d (ds ++ ds') w w3 v3 := by
  refine ⟨by rw [← List.append_assoc]; exact h'.bl, h.chg.trans h'.chg, h.fr.trans (h'.fr.sub ?_), fun g hg => ?_⟩
  · rintro j ⟨p1, p2, p3, p4⟩
    refine ⟨Nat.lt_of_lt_of_le p1 h.fr.size, p2, p3, fun e => ?_⟩
    rcases h.row j e with q | q
    · exact p4 q
    · omega
  · rcases h'.row g hg with q | q
    · exact h.row g q
    · exact Or.inr (Nat.le_trans h.fr.size q)
theorem FPost.refl (hb : BldIn w b n0 src o v d) : FPost b n0 src S o v d [] w w v := ⟨by rw [List.append_nil]; exact hb, Chg.refl _ _ _, Fr.refl _ _, fun _ h => Or.inl h⟩
end

/-- An error's text is stored. -/
theorem set_text {S : Nat → Prop} {src : List UInt8} {wr w5 : World} (hb5 : Below wr.heap.size wr w5) (hS : ∀ j, S j → j < wr.heap.size) {pb po : Nat} (hpb : S pb) (hpo : po % 7 = 0) (hpl : Pl wr pb) {x : Nd} {t : List UInt8} {sa : Option Addr} {cap : Nat} (hs : Seven wr pb po x t sa cap) (hk : x.k = 46) :
    ∀ W, W = w5.setCell ⟨pb, po + 2, none⟩ (.string (Lx.bs (cut src x.s x.e))) → Chg S src wr W ∧ Seven W pb po x (cut src x.s x.e) sa cap ∧ ∀ j, j ≠ pb → W.heap[j]? = w5.heap[j]? := by
  rintro W rfl
  have hlt := hS pb hpb
  obtain ⟨cs, tt, hcs⟩ := hpl.of_block (hb5.block pb hlt)
  have hoth : ∀ j, j ≠ pb → (w5.setCell ⟨pb, po + 2, none⟩ (.string (Lx.bs (cut src x.s x.e)))).heap[j]? = w5.heap[j]? := fun j hj => heap_setCell_other w5 ⟨pb, po + 2, none⟩ j _ hj
  have hset : (w5.setCell ⟨pb, po + 2, none⟩ (.string (Lx.bs (cut src x.s x.e)))).heap[pb]? = some (.cells (cs.setIfInBounds (po + 2) (.string (Lx.bs (cut src x.s x.e)))) tt (0, 0)) := by
    simp [World.setCell, Array.getElem?_modify, hcs]
  have hw5 : ∀ i, w5.cell? ⟨pb, i, none⟩ = cs[i]? := fun i => by rw [Lib.cell_of_heap hcs]
  have hwr : ∀ i, w5.cell? ⟨pb, i, none⟩ = wr.cell? ⟨pb, i, none⟩ := fun i => hb5.cell (p := ⟨pb, i, none⟩) hlt
  have hin : po + 2 < cs.size := by
    have := (hwr (po + 2)).trans hs.c2
    rw [hw5] at this
    exact (Array.getElem?_eq_some_iff.1 this).1
  have hW : ∀ i, (w5.setCell ⟨pb, po + 2, none⟩ (.string (Lx.bs (cut src x.s x.e)))).cell? ⟨pb, i, none⟩ = if po + 2 = i then some (.string (Lx.bs (cut src x.s x.e))) else wr.cell? ⟨pb, i, none⟩ := fun i => by
    rw [Lib.cell_of_heap hset, Array.getElem?_setIfInBounds]
    by_cases hi : po + 2 = i
    · subst hi; simp [hin]
    · rw [if_neg hi, if_neg hi, ← hwr, hw5]
  have off : ∀ i, po + 2 ≠ i → (w5.setCell ⟨pb, po + 2, none⟩ (.string (Lx.bs (cut src x.s x.e)))).cell? ⟨pb, i, none⟩ = wr.cell? ⟨pb, i, none⟩ := fun i hi => by rw [hW, if_neg hi]
  refine ⟨⟨hb5.os, hb5.tape, hb5.output, by simpa using hb5.size, fun j hj hp => ?_, fun j i hj => ?_⟩, ⟨(off _ (by omega)).trans hs.c0, (off _ (by omega)).trans hs.c1, by rw [hW, if_pos rfl], (off _ (by omega)).trans hs.c3, (off _ (by omega)).trans hs.c4, (off _ (by omega)).trans hs.c5, (off _ (by omega)).trans hs.c6⟩, hoth⟩
  · by_cases hjp : j = pb
    · subst hjp; exact ⟨_, _, hset⟩
    · exact hp.of_block ((hoth j hjp).trans (hb5.block j (hS j hj)))
  · by_cases hjp : j = pb
    · subst hjp
      by_cases hi : po + 2 = i
      · subst hi
        exact Or.inr ⟨po, x.s, x.e, rfl, hpo, by rw [hs.c0, hk], hs.c3, hs.c4, by rw [hW, if_pos rfl]⟩
      · exact Or.inl (off i hi)
    · exact Or.inl ((World.cell?_of_block (hoth j hjp)).trans (hb5.cell (p := ⟨j, i, none⟩) (hS j hj)))

def FinTo (b n0 : Nat) (src : List UInt8) (S : Nat → Prop) (n : Nat) : Prop :=
  ∀ (x : Nd) (pb po m : Nat) (w : World) (v : Value) (d : List Dg) (o : Nat), x.height ≤ n → rgT src.length x = true → Hid (NdAt w S (T1 src) m pb po x) → Hid (BldIn w b n0 src o v d) → Hid (Apt S b v w) → n0 ≤ w.heap.size → d.length + x.size ≤ 900000 → src.length ≤ 2000 →
    Calls Tryz.prog 56 #[.pointer (some ⟨b, 0, none⟩), .pointer (some ⟨pb, po, none⟩)] w fun e w' => e = .returned (.tuple #[]) ∧ ∃ v', Hid (FPost b n0 src S o v d (finD src x) w w' v') ∧ Hid (NdAt w' S (T2 src) m pb po x)

theorem finDs_take {src : List UInt8} {c : List Nd} {k : Nat} {y : Nd} (h : c[k]? = some y) : finDs src (c.take (k + 1)) = finDs src (c.take k) ++ finD src y := by
  have app : ∀ a b : List Nd, finDs src (a ++ b) = finDs src a ++ finDs src b := by
    intro a b
    induction a with
    | nil => rfl
    | cons x r ih => simp [finDs, ih]
  rw [List.take_add_one, h, app]
  simp [finDs]
theorem finD_eq (src : List UInt8) (x : Nd) : finD src x = finDs src x.c ++ (if x.k = 46 then [⟨if cut src x.s x.e == [] then 1 else 2, x.s, x.e⟩] else []) := by cases x; rfl
theorem nd_height (x : Nd) : x.height = 1 + nheights x.c := by cases x; rfl
theorem nd_size (x : Nd) : x.size = 1 + nsizes x.c := by cases x; rfl
theorem nheight_of {c : List Nd} {y : Nd} (h : y ∈ c) : y.height ≤ nheights c := by
  induction c with
  | nil => cases h
  | cons x r ih =>
    simp only [nheights]
    rcases List.mem_cons.1 h with rfl | h
    · omega
    · have := ih h; omega
theorem nsizes_append (a b : List Nd) : nsizes (a ++ b) = nsizes a + nsizes b := by
  induction a with
  | nil => simp [nsizes]
  | cons x r ih => simp [nsizes, ih]; omega
theorem nsizes_take {c : List Nd} {k : Nat} {y : Nd} (h : c[k]? = some y) : nsizes (c.take (k + 1)) = nsizes (c.take k) + y.size := by
  rw [List.take_add_one, h, nsizes_append]; simp [nsizes]
theorem nsizes_upto (c : List Nd) (k : Nat) : nsizes (c.take k) ≤ nsizes c := by
  have h := nsizes_append (c.take k) (c.drop k)
  rw [List.take_append_drop] at h
  omega
mutual
theorem finD_len (src : List UInt8) : ∀ x : Nd, (finD src x).length ≤ x.size
  | .mk k v t s e ns c => by
    have := finDs_len src c
    simp only [finD, Nd.size, List.length_append]
    split <;> simp <;> omega
theorem finDs_len (src : List UInt8) : ∀ l : List Nd, (finDs src l).length ≤ nsizes l
  | [] => by simp [finDs]
  | x :: r => by
    have := finD_len src x
    have := finDs_len src r
    simp only [finDs, nsizes, List.length_append]
    omega
end

theorem nds_of {w wr : World} {S : Nat → Prop} {T T' : Nd → List UInt8 → Prop} : ∀ {m : Nat} {sa : Option Addr} {l : List Nd}, Nds w (fun j o => o = 0 ∧ S j) T m sa l → (∀ j y, l[j]? = some y → ∀ cb co, sa = some ⟨cb, co, none⟩ → ∃ m', m' < m ∧ NdAt wr S T' m' cb (j * 7) y) → Nds wr (fun j o => o = 0 ∧ S j) T' m sa l
  | 0, _, _, hk, _ => hk
  | m + 1, sa, l, hk, h => by
    intro i y hy
    obtain ⟨_, b, o, _, _, _, e, ⟨rfl, hS⟩, _⟩ := hk i y hy
    obtain ⟨m', hm, q0, q1, q2, sa', cap', t', q3, q4, q5, q6, q7, q8⟩ := h i y hy b 0 e
    exact ⟨q0, b, 0, sa', cap', t', e, ⟨rfl, hS⟩, q3, q4, q5, q6, by simpa using q7, q8.up (fun _ _ h => h) (fun _ _ h => h) (by omega)⟩

theorem cut_ext (src : List UInt8) (a b : Nat) : Lx.bs (cut src (a : Int) (b : Int)) = (Lx.bs src).extract a b := by
  apply Lx.L_inj
  rw [Lx.L_bs, Lx.L_extract, Lx.L_bs]
  rfl

set_option maxHeartbeats 2000000 in
set_option maxRecDepth 100000 in
theorem fin_step (b n0 : Nat) (src : List UInt8) (S : Nat → Prop) (n : Nat) (ih : FinTo b n0 src S n) : FinTo b n0 src S (n + 1) := by
  intro x pb po m w v d o hh hrg hnd hbl hapt hn0 hd hsrc
  have HIH := Lib.hid ih
  have HRG := Lib.hid hrg
  rw [rgT_eq, Bool.and_eq_true, decide_eq_true_eq] at hrg
  obtain ⟨⟨hr1, hr2, hr3⟩, hrc⟩ := hrg
  have HRC := Lib.hid hrc
  obtain ⟨hok, hpo, hpb, sa, cap, t, hT, hcap1, hcap2, hcap3, hsev, hkids⟩ := hnd.out
  have HS7 := Lib.hid hsev
  have HK := Lib.hid hkids
  have c6 := hsev.c6
  have hxl : x.c.length ≤ 900000 := by
    have h1 := nd_size x
    have : ∀ l : List Nd, l.length ≤ nsizes l := by
      intro l
      induction l with
      | nil => simp [nsizes]
      | cons y r ih => have := nd_size y; simp only [nsizes, List.length_cons]; omega
    have := this x.c
    omega
  have HC3 := Lib.hid hcap3
  clear hrc ih hkids hsev hcap3
  go_enter Tryz.func56, Tryz.ntmps56
  go_wp2_with fail
  go_loopw [11] (fun i wr => ∃ k : Nat, k ≤ x.c.length ∧ i = .int .i64 k ∧ ∃ v', Hid (FPost b n0 src S o v d (finDs src (x.c.take k)) w wr v') ∧ Hid (∀ j y, j < k → x.c[j]? = some y → ∀ cb co, sa = some ⟨cb, co, none⟩ → ∃ m', m' < m ∧ NdAt wr S (T2 src) m' cb (j * 7) y))
    (fun i _ => x.c.length - (intOf i).toNat)
  case atStart => exact ⟨0, Nat.zero_le _, rfl, v, Lib.hid (FPost.refl hbl.out), Lib.hid (fun j y hj => by omega)⟩
  case round =>
    obtain ⟨k, hk, rfl, v', hfp, hdone⟩ := hrel
    have hw := hfp.out.fr.size
    by_cases hlt : k < x.c.length
    · have hx : x.c[k]? = some x.c[k] := List.getElem?_eq_getElem hlt
      obtain ⟨y, hY⟩ : ∃ y, y = x.c[k] := ⟨_, rfl⟩
      rw [← hY] at hx
      clear hY
      have HX := Lib.hid hx
      obtain ⟨_, _, cb, co, _, _, _, _, rfl, _⟩ := Nds.at HK.out hx
      obtain ⟨rfl, m', hm', hy⟩ := Nds.node HK.out hx
      have HY := Lib.hid (hy.chg (fun _ _ _ => T1.chg) hfp.out.chg)
      obtain ⟨t', hs', _⟩ := Seven.chg hfp.out.chg hpb hpo HS7.out
      have r6 := hs'.c6
      have e1 := nsizes_take hx
      have e2 := nsizes_upto x.c (k + 1)
      have e3 := finDs_len src (x.c.take k)
      have e4 := nheight_of (List.mem_of_getElem? hx)
      have e5 := nd_height x
      have e6 := nd_size x
      have HT := Lib.hid (finDs_take (src := src) hx)
      have HKL : Hid (k < x.c.length) := hlt
      have K := Lib.hid (HIH.out y cb (k * 7) m' wr v' (d ++ finDs src (x.c.take k)) o (by omega) (rgL_mem HRC.out (List.mem_of_getElem? hx)) HY (Lib.hid hfp.out.bl) (Lib.hid (hfp.out.apt hapt.out)) (by omega) (by simp only [List.length_append]; omega) hsrc)
      clear hx hy hs' e1 e2 e3 e4 e5 e6
      have hk0 : (0 : Int) ≤ (k : Int) := by omega
      have hk1 : (k : Int) < (x.c.length : Int) := by omega
      go_wp2_with fail
      refine K.out.mono ?_
      rintro e w2 ⟨rfl, v2, hfp2, hnd2⟩
      have HF := Lib.hid (hfp.out.trans hfp2.out)
      have HD : Hid (∀ j y, j < k + 1 → x.c[j]? = some y → ∀ cb' co, some (⟨cb, 0, none⟩ : Addr) = some ⟨cb', co, none⟩ → ∃ m', m' < m ∧ NdAt w2 S (T2 src) m' cb' (j * 7) y) := by
        intro j z hj hz cb' co' hc
        cases hc
        by_cases hjk : j < k
        · obtain ⟨m1, q1, q2⟩ := hdone.out j z hjk hz cb 0 rfl
          exact ⟨m1, q1, q2.chg (fun _ _ _ => T2.chg) hfp2.out.chg⟩
        · have : j = k := by omega
          subst this
          have : z = y := by have := hz.symm.trans HX.out; simpa using this
          subst this
          exact ⟨m', hm', hnd2.out⟩
      clear hfp hdone hfp2 hnd2 K
      go_wp2_with fail
      go_round
      case rel => exact ⟨k + 1, HKL.out, by go_num, v2, by rw [HT.out]; exact HF, HD⟩
      case measure => have := HKL.out; simp [intOf]; omega
    · have hkl : k = x.c.length := by omega
      subst hkl
      rw [List.take_length] at hfp
      have hK2 := nds_of HK.out (fun j y hy => hdone.out j y (List.getElem?_eq_some_iff.1 hy).1 hy)
      obtain ⟨t', hs', ht'⟩ := Seven.chg hfp.out.chg hpb hpo HS7.out
      have HSV := Lib.hid hs'
      have k0 := hs'.c0
      have HN2 : Hid (∀ W t2, Seven W pb po x t2 sa cap → T2 src x t2 → Nds W (fun j o => o = 0 ∧ S j) (T2 src) m sa x.c → NdAt W S (T2 src) m pb po x) := fun W t2 q1 q2 q3 => ⟨hok, hpo, hpb, sa, cap, t2, q2, hcap1, hcap2, HC3.out, q1, q3⟩
      have HK2 := Lib.hid hK2
      by_cases h46 : x.k = 46
      · obtain ⟨sN, hsN⟩ : ∃ sN : Nat, x.s = (sN : Int) := ⟨x.s.toNat, by omega⟩
        obtain ⟨eN, heN⟩ : ∃ eN : Nat, x.e = (eN : Int) := ⟨x.e.toNat, by omega⟩
        have k2 := hs'.c2
        have k3 := hs'.c3
        have k4 := hs'.c4
        rw [hsN] at k3 hr1 hr2
        rw [heN] at k4 hr2 hr3
        have HSN := Lib.hid hsN
        have HEN := Lib.hid heN
        have hse : sN ≤ eN := by omega
        have hel : eN ≤ src.length := by omega
        have hpl := hfp.out.chg.pl pb hpb (hapt.out.pl pb hpb)
        obtain ⟨cc, tt, hpl⟩ := hpl
        have kf2 := Lib.frozen_of_heap hpl (po + 2)
        obtain ⟨b0, _, _, _, _, _⟩ := three_facts hfp.out.bl.hb
        have hbsz : (Lx.bs src).size = src.length := Lx.bs_size src
        have HH46 := Lib.hid h46
        have HRAN := Lib.hid (And.intro hr1 (And.intro hr2 hr3))
        clear hsN heN hr1 hr2 hr3 hs' ht' hdone hT hK2 hpl
        go_upto_region 6 with fail
        clear h46
        have hplt : pb < wr.heap.size := hfp.out.apt hapt.out |>.lt pb hpb
        have K := Lib.hid (fun W => clone_any ((Lx.bs src).extract sN eN) W (by rw [ByteArray.size_extract]; omega))
        go_region_with (go_at_call 62; refine (K.out _).mono ?_; rintro e w5 ⟨rfl, hb5⟩; have d2 : w5.cell? ⟨pb, po + 2, none⟩ = some (.string (Lx.bs t')) := (World.cell?_of_block (hb5.block pb hplt)).trans k2; have df2 : w5.frozen? ⟨pb, po + 2, none⟩ = false := (World.frozen?_of_block (hb5.block pb hplt)).trans kf2)
        all_goals
          obtain ⟨W, hW⟩ : ∃ W, W = w5.setCell ⟨pb, po + 2, none⟩ (.string (Lx.bs (cut src x.s x.e))) := ⟨_, rfl⟩
          have hWe : w5.setCell ⟨pb, po + 2, none⟩ (.string ((Lx.bs src).extract sN eN)) = W := by rw [hW, HSN.out, HEN.out, cut_ext]
          rw [hWe]
          have hb5' : Below wr.heap.size wr w5 := below_drew' (show Below wr.heap.size wr.drew w5 from hb5)
          obtain ⟨hchg, hsvW, hothW⟩ := set_text hb5' (hfp.out.apt hapt.out).lt hpb hpo (hfp.out.chg.pl pb hpb (hapt.out.pl pb hpb)) HSV.out HH46.out W hW
          have hbne := (hapt.out.ne pb hpb).1
          have hFW : FPost b n0 src S o v' (d ++ finDs src x.c) [] wr W v' := by
            refine ⟨?_, hchg, ⟨hchg.os, hchg.tape, hchg.output, hchg.size, fun j hj => ?_⟩, fun _ h => Or.inl h⟩
            · rw [List.append_nil]
              exact ⟨(hothW b (Ne.symm hbne)).trans ((hb5'.block b hfp.out.bl.lt).trans hfp.out.bl.hb), owns_of_block hfp.out.bl.own (fun g hg => (hothW g (fun e => ((hfp.out.apt hapt.out).ne pb hpb).2 (by rw [hg, e]))).trans (hb5'.block g (World.ownsRow.lt hfp.out.bl.own g hg).2)), hfp.out.bl.ne, hfp.out.bl.nb⟩
            · exact (hothW j (fun e => hj.2.1 (e ▸ hpb))).trans (hb5'.block j hj.1)
          have HFW := Lib.hid (hfp.out.trans hFW)
          have HSW := Lib.hid hsvW
          have HKW := Lib.hid (HK2.out.chg (fun _ _ _ => T2.chg) hchg)
          clear hW hWe hb5 hb5' hchg hsvW hothW hFW d2 df2 k0 k2 k3 k4 kf2 b0
          have e2 := HSW.out.c2
          have e3 := HSW.out.c3
          have e4 := HSW.out.c4
          rw [HSN.out] at e3
          rw [HEN.out] at e4
          have HNW := Lib.hid (HN2.out W _ HSW.out (by unfold T2; rw [if_pos HH46.out]) HKW.out)
          have hsw := HFW.out.fr.size
          have hlen := finDs_len src x.c
          have hszx := nd_size x
          have K2 := Lib.hid (fun cc => report_any b n0 o src v' (d ++ (finDs src x.c ++ [])) cc (sN : Int) (eN : Int) W.drew (HFW.out.bl.below ((Below.refl _ _).drew)) (by show n0 ≤ W.heap.size; omega) (by simp only [List.length_append, List.length_nil]; omega))
          have HREP : Hid (∀ cc w8 v8, BldIn w8 b n0 src o v8 (d ++ (finDs src x.c ++ []) ++ [⟨cc, (sN : Int), (eN : Int)⟩]) → Rep b v' v8 W.drew w8 → finD src x = finDs src x.c ++ [⟨cc, (sN : Int), (eN : Int)⟩] → Hid (FPost b n0 src S o v d (finD src x) w w8 v8) ∧ Hid (NdAt w8 S (T2 src) m pb po x)) := by
            intro cc w8 v8 q1 q2 q3
            have ha := HFW.out.apt hapt.out
            have hc8 : Chg S src W w8 := by
              refine ⟨q2.fr.os, q2.fr.tape, q2.fr.output, q2.fr.size, fun j hj hp => ?_, fun j i hj => Or.inl ?_⟩
              · exact hp.of_block (q2.fr.block j ⟨ha.lt j hj, (ha.ne j hj).1, (ha.ne j hj).2⟩)
              · exact World.cell?_of_block (q2.fr.block j ⟨ha.lt j hj, (ha.ne j hj).1, (ha.ne j hj).2⟩)
            have hF8 : FPost b n0 src S o v' (d ++ (finDs src x.c ++ [])) [⟨cc, (sN : Int), (eN : Int)⟩] W w8 v8 := ⟨q1, hc8, ⟨q2.fr.os, q2.fr.tape, q2.fr.output, q2.fr.size, fun j hj => q2.fr.block j ⟨hj.1, hj.2.2.1, hj.2.2.2⟩⟩, q2.row⟩
            have := HFW.out.trans hF8
            rw [List.append_nil, ← q3] at this
            exact ⟨this, HNW.out.chg (fun _ _ _ => T2.chg) hc8⟩
          clear K hlen hszx
          by_cases hcut : cut src x.s x.e = []
          · have z2 : (Lx.bs (cut src x.s x.e)).toList.isEmpty = true := toL_nil hcut
            have hD : finD src x = finDs src x.c ++ [⟨1, (sN : Int), (eN : Int)⟩] := by rw [finD_eq, if_pos HH46.out, hcut, HSN.out, HEN.out]; rfl
            have HD := Lib.hid hD
            clear hD hcut
            go_upto_region 10 with fail
            go_still_tail 10, (by kernel_rfl)
            change wpList _ _ _ _ _ W.drew
            go_wp2_with fail
            refine (K2.out 1).mono ?_
            rintro e w8 ⟨rfl, v8, q1, q2⟩
            have hfin := HREP.out 1 w8 v8 q1 q2 HD.out
            clear q1 q2
            go_wp2_with fail
            first | go_end0 | refine bodyPost_ret (results_none rfl _ _ _) rfl ?_
            exact ⟨rfl, v8, hfin.1, hfin.2⟩
          · have z2 : (Lx.bs (cut src x.s x.e)).toList.isEmpty = false := toL_some hcut
            have hD : finD src x = finDs src x.c ++ [⟨2, (sN : Int), (eN : Int)⟩] := by
              rw [finD_eq, if_pos HH46.out, HSN.out, HEN.out]
              have : (cut src (sN : Int) (eN : Int) == []) = false := by rw [← HSN.out, ← HEN.out]; simpa using hcut
              rw [this]
              rfl
            have HD := Lib.hid hD
            clear hD hcut
            go_upto_region 10 with fail
            go_still_tail 10, (by kernel_rfl)
            change wpList _ _ _ _ _ W.drew
            go_wp2_with fail
            refine (K2.out 2).mono ?_
            rintro e w8 ⟨rfl, v8, q1, q2⟩
            have hfin := HREP.out 2 w8 v8 q1 q2 HD.out
            clear q1 q2
            go_wp2_with fail
            first | go_end0 | refine bodyPost_ret (results_none rfl _ _ _) rfl ?_
            exact ⟨rfl, v8, hfin.1, hfin.2⟩
      · have HFD : Hid (finD src x = finDs src x.c) := by show _ = _; rw [finD_eq, if_neg h46, List.append_nil]
        have ht2 : T2 src x t' := by
          unfold T1 at hT
          unfold T2
          rw [if_neg h46] at hT ⊢
          rcases ht' with q | q
          · rw [q]; exact hT
          · exact absurd q.1 h46
        have HEND := Lib.hid (HN2.out wr t' HSV.out ht2 HK2.out)
        clear hK2 hs' ht' ht2 hdone hT
        go_wp2_with fail
        first | go_end0 | refine bodyPost_ret (results_none rfl _ _ _) rfl ?_
        exact ⟨rfl, v', by rw [HFD.out]; exact hfp, HEND⟩

theorem fin_any (b n0 : Nat) (src : List UInt8) (S : Nat → Prop) : ∀ n, FinTo b n0 src S n
  | 0 => fun x _ _ _ _ _ _ _ h => by have := nd_height x; omega
  | n + 1 => fin_step b n0 src S n (fin_any b n0 src S n)
end Go.Proofs.YtcpojagfnpajeaaGreatDoorR.Ps
