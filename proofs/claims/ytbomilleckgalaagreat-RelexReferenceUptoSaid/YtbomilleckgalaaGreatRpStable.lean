/-
  stableLength: how far an edit cannot change the items; its contract.
-/
import Derived.Test.YtbomilleckgalaaGreatRpUpd
import Derived.Test.YtbomilleckgalaaGreatPsParse
namespace Go.Proofs.YtbomilleckgalaaGreat.Ps
open Go.RowKit Go.Shelf

theorem wt_take {l : List Tk} {k : Nat} {t : Tk} (h : l[k]? = some t) : wt (l.take (k + 1)) = wt (l.take k) + t.2.length := by
  rw [List.take_add_one, h, wt_append]; simp [wt]
theorem ends_take {l : List Tk} {k : Nat} {t : Tk} (h : l[k]? = some t) : ends 0 (l.take (k + 1)) = if sigB t then ends 0 (l.take k) ++ [wt (l.take k) + t.2.length] else ends 0 (l.take k) := by
  rw [List.take_add_one, h, ends_append]
  simp only [Option.toList_some, ends, Nat.zero_add]
  split <;> simp
theorem wt_take_le (l : List Tk) (k : Nat) : wt (l.take k) ≤ wt l := by
  have h := wt_append (l.take k) (l.drop k)
  rw [List.take_append_drop] at h
  omega
theorem ahead_step {l : List Tk} {k st e : Nat} {t : Tk} (h : l[k]? = some t) (hlt : ¬ st ≤ e + t.2.length) : ahead st e (l.drop k) = t :: ahead st (e + t.2.length) (l.drop (k + 1)) := by
  obtain ⟨hk, rfl⟩ := List.getElem?_eq_some_iff.1 h
  rw [List.drop_eq_getElem_cons hk, ahead, if_neg hlt]
theorem ahead_stop {l : List Tk} {k st e : Nat} {t : Tk} (h : l[k]? = some t) (hlt : st ≤ e + t.2.length) : ahead st e (l.drop k) = [] := by
  obtain ⟨hk, rfl⟩ := List.getElem?_eq_some_iff.1 h
  rw [List.drop_eq_getElem_cons hk, ahead, if_pos hlt]

set_option maxRecDepth 100000 in
set_option maxHeartbeats 8000000 in
theorem stable_any (s : ByteArray) (st : Nat) (w : World) (hs : s.size ≤ 2000) (hst : st ≤ 2000) :
    Calls Tryz.prog 34 #[.string s, .int .i64 st] w fun e w' => e = .returned (.int .i64 ((stable (Lx.T (Lx.L s)) st : Nat) : Int)) ∧ Below w.heap.size w w' := by
  obtain ⟨j0, ji, jz0, jz1, jz2⟩ := info_parts info_int
  have HTK : Hid ((Lx.T (Lx.L s)).length ≤ 2000) := Nat.le_trans (Lx.T_length s.size (Lx.L s) (by rw [Lx.L_len]; exact Nat.le_refl _)) (by rw [Lx.L_len]; exact hs)
  have HWT : Hid (wt (Lx.T (Lx.L s)) ≤ 2000) := by show _ ≤ _; rw [wt_T, Lx.L_len]; exact hs
  have K1 := Lib.hid (fun W => Lx.tokenize_any s W hs)
  go_enter Tryz.func34, Tryz.ntmps34
  go_wp2_with fail
  refine (K1.out _).mono ?_
  rintro e w1 ⟨v, rfl, hown, hb1⟩
  obtain ⟨ta, tc, rfl, htc, htks, _⟩ := hown.out.tks
  generalize hTT : Lx.T (Lx.L s) = toks at *
  have HT := Lib.hid htks
  have HB1 := Lib.hid hb1
  have hz1 := hb1.size
  have hl1 := HTK.out
  have hw1 := HWT.out
  clear K1 hown htks hb1
  go_wp2_with fail
  go_loopw [7, 8, 18] (fun v en i wr => ∃ (k : Nat) (zs : List Int), k ≤ toks.length ∧ i = .int .i64 k ∧ en = .int .i64 (wt (toks.take k) : Nat) ∧ zs = (ends 0 (toks.take k)).map Int.ofNat ∧ Hid (OwnsI wr w1.heap.size v zs) ∧ Below w1.heap.size w1 wr ∧
      Hid (ahead st 0 toks = toks.take k ++ ahead st (wt (toks.take k)) (toks.drop k)))
    (fun _ _ i _ => toks.length - (intOf i).toNat)
  case atStart => exact ⟨0, [], Nat.zero_le _, rfl, rfl, rfl, OwnsI.nil _ _, Below.refl _ _, rfl⟩
  case round =>
    obtain ⟨k, zs, hk, rfl, rfl, hzs, hown, hb, hA0⟩ := hrel
    have hzw := hb.size
    have hzlen : zs.length ≤ 2000 := by
      rw [hzs, List.length_map, ends_len]
      exact Nat.le_trans (List.length_filter_le _ _) (Nat.le_trans (by rw [List.length_take]; omega) hl1)
    by_cases hlt : k < toks.length
    · obtain ⟨t, htt⟩ : ∃ t, toks[k]? = some t := ⟨_, List.getElem?_eq_getElem hlt⟩
      obtain ⟨tb, tof, e0, e1, e2, e3⟩ := HT.out k t htt
      subst e0
      have d0 : wr.cell? ⟨tb, tof + k * 2, none⟩ = some (.int .i64 t.1) := (hb.cell (p := ⟨tb, _, none⟩) e1).trans e2
      have d1 : wr.cell? ⟨tb, tof + k * 2 + 1, none⟩ = some (.string (Lx.bs t.2)) := (hb.cell (p := ⟨tb, _, none⟩) e1).trans e3
      have hws := wt_take htt
      have hwl := wt_take_le toks (k + 1)
      have HE := Lib.hid (ends_take htt)
      have q0 : (k : Int) < (toks.length : Int) := by omega
      have q1 : (0 : Int) ≤ (k : Int) := by omega
      have htl : (Lx.bs t.2).size = t.2.length := by rw [← Lx.L_len, Lx.L_bs]
      have HBA : Hid (Below w1.heap.size w1 (wr.alloc (.cells #[.int .i64 t.1, .string (Lx.bs t.2)] 32))) := hb.alloc hzw _
      by_cases hbr : st ≤ wt (toks.take k) + t.2.length
      · have hA : Hid (ahead st 0 toks = toks.take k) := by show _ = _; rw [hA0.out, ahead_stop htt hbr, List.append_nil]
        have hbi : (st : Int) ≤ (wt (toks.take k) : Int) + ((Lx.bs t.2).size : Int) := by omega
        have HBF : Hid (Below w.heap.size w (wr.alloc (.cells #[.int .i64 t.1, .string (Lx.bs t.2)] 32))) := HB1.out.trans (HBA.out.mono hz1)
        have hown : Hid (OwnsI (wr.alloc (.cells #[.int .i64 t.1, .string (Lx.bs t.2)] 32)) w1.heap.size _ zs) := World.ownsRow.alloc hown.out _
        clear e2 e3 HE hA0 htt
        generalize hbsz : Lx.bs t.2 = bt at *
        obtain ⟨va, vc, hve, hin, _⟩ := OwnsI.ints hown.out
        subst hve
        have hzl : zs.length = (ends 0 (ahead st 0 toks)).length := by rw [hzs, hA.out, List.length_map]
        by_cases hle : zs.length ≤ 2
        · have HR : Hid (stable toks st = 0) := by show _ = _; unfold stable; rw [if_pos (by omega)]
          clear hin hown hzs hzl hA
          go_wp2_with fail
          first | go_ret | go_ret2
          exact ⟨by (first | rw [hTT, HR.out] | rw [HR.out]); rfl, HBF.out⟩
        · obtain ⟨z, hz⟩ : ∃ z, zs[zs.length - 3]? = some z := ⟨_, List.getElem?_eq_getElem (by omega)⟩
          obtain ⟨gb, go, hga, _, hgc⟩ := hin _ z hz
          subst hga
          have HR : Hid ((stable toks st : Int) = z) := by
            show _ = _
            unfold stable
            rw [if_neg (by omega), ← hzl, hA.out]
            rw [hzs, List.getElem?_map] at hz
            cases he : (ends 0 (toks.take k))[zs.length - 3]? with
            | none => rw [← hzs, he] at hz; cases hz
            | some u => rw [← hzs, he] at hz; rw [Option.getD_some]; exact Option.some.inj hz
          have hi1 : (zs.length : Int) - 1 - 2 = ((zs.length - 3 : Nat) : Int) := by omega
          have hi2 : ((zs.length - 3 : Nat) : Int) < (zs.length : Int) := by omega
          have hi3 : (0 : Int) ≤ ((zs.length - 3 : Nat) : Int) := by omega
          have hle2 : ¬ ((zs.length : Int) ≤ 2) := by omega
          have hzn : (zs.length : Int) ≤ 2000 := by omega
          clear hin hown hzs hzl hA hz
          generalize zs.length - 3 = j3 at *
          go_wp2_with fail
          first | go_ret | go_ret2
          exact ⟨by (first | rw [hTT, HR.out] | rw [HR.out]); rfl, HBF.out⟩
      · have hA1 : Hid (ahead st 0 toks = toks.take (k + 1) ++ ahead st (wt (toks.take (k + 1))) (toks.drop (k + 1))) := by
          show _ = _
          rw [hA0.out, ahead_step htt hbr, hws, List.take_add_one, htt]
          simp
        have hbi : (wt (toks.take k) : Int) + ((Lx.bs t.2).size : Int) < (st : Int) := by omega
        have HWS : Hid ((wt (toks.take k) : Int) + ((Lx.bs t.2).size : Int) = ((wt (toks.take (k + 1)) : Nat) : Int)) := by show _ = _; omega
        have hown2 : Hid (OwnsI (wr.alloc (.cells #[.int .i64 t.1, .string (Lx.bs t.2)] 32)) w1.heap.size _ zs) := World.ownsRow.alloc hown.out _
        clear e2 e3 hA0 htt
        have hskip : sigB t = false → Hid (zs = (ends 0 (toks.take (k + 1))).map Int.ofNat) := fun hsg => by
          show _ = _
          rw [HE.out, hsg, hzs]; rfl
        have hadd : sigB t = true → Hid (zs ++ [((wt (toks.take (k + 1)) : Nat) : Int)] = (ends 0 (toks.take (k + 1))).map Int.ofNat) := fun hsg => by
          show _ = _
          rw [HE.out, if_pos hsg, hzs, List.map_append, hws]; rfl
        cases k1 : (t.1 == 101) with
        | true =>
          have HS := hskip (by unfold sigB; rw [bne, k1]; rfl)
          have n1 : (t.1 != 101) = false := by rw [bne, k1]; rfl
          clear hskip hadd k1
          go_wp2_with fail
          go_roundw
          case rel => exact ⟨k + 1, zs, by omega, by go_num, by first | rw [HWS.out] | (rw [hws]; simp), HS.out, hown2, HBA.out, hA1⟩
          case measure => simp [intOf]; omega
        | false =>
          cases k2 : (t.1 == 102) with
          | true =>
            have HS := hskip (by unfold sigB; rw [bne, bne, k1, k2]; rfl)
            have n1 : (t.1 != 101) = true := by rw [bne, k1]; rfl
            have n2 : (t.1 != 102) = false := by rw [bne, k2]; rfl
            clear hskip hadd k1 k2
            go_wp2_with fail
            go_roundw
            case rel => exact ⟨k + 1, zs, by omega, by go_num, by first | rw [HWS.out] | (rw [hws]; simp), HS.out, hown2, HBA.out, hA1⟩
            case measure => simp [intOf]; omega
          | false =>
            have HS := hadd (by unfold sigB; rw [bne, bne, k1, k2]; rfl)
            have n1 : (t.1 != 101) = true := by rw [bne, k1]; rfl
            have n2 : (t.1 != 102) = true := by rw [bne, k2]; rfl
            clear hskip hadd k1 k2 hzs htl
            obtain ⟨W2, hW2⟩ : ∃ W2, W2 = wr.alloc (.cells #[.int .i64 t.1, .string (Lx.bs t.2)] 32) := ⟨_, rfl⟩
            rw [← hW2] at hown2 HBA
            have hz2 := HBA.out.size
            go_upto_region 10 with fail
            rw [← hW2]
            clear hW2
            go_wp2_with (at_builtin; refine wpList_append_own _ rfl _ _ 48 rfl w1.heap.size 3 j0 _ 1 8 Tryz.underlying48 ji jz0 jz1 jz2 rfl (by decide) _ _ _ rfl (World.ownsRow.alloc hown2.out _) ⟨W2.heap.size, 0, none⟩ 1 1 [.int .i64 ((wt (toks.take k) : Int) + ((Lx.bs t.2).size : Int))] rfl rfl (World.news_of_block (heap_alloc_new W2 _)) (by simp [Value.oneCell']) (by unfold maxLen; omega) (by omega) (by simp; omega) ?_)
            intro v' w3 hown' hgrow _
            have hown3 : Hid (OwnsI w3 w1.heap.size v' (zs ++ [((wt (toks.take (k + 1)) : Nat) : Int)])) := by
              show World.ownsRow _ _ _ _ _ _ _
              rw [List.length_append, iCells_append, ← HWS.out]
              exact hown'
            have hb4 : Hid (Below w1.heap.size w1 w3) := (HBA.out.alloc hz2 _).grown hgrow (by simp; omega) (fun j hj => (World.ownsRow.lt hown2.out j hj).1)
            clear hown' hgrow hown2
            go_wp2_with fail
            go_roundw
            case rel => exact ⟨k + 1, _, by omega, by go_num, by first | rw [HWS.out] | (rw [hws]; simp), HS.out, hown3, hb4.out, hA1⟩
            case measure => simp [intOf]; omega
    · have hA : Hid (ahead st 0 toks = toks.take k) := by show _ = _; rw [hA0.out, List.drop_eq_nil_of_le (by omega)]; simp [ahead]
      have HBF : Hid (Below w.heap.size w wr) := HB1.out.trans (hb.mono hz1)
      clear hA0
      obtain ⟨va, vc, hve, hin, _⟩ := OwnsI.ints hown.out
      subst hve
      have hzl : zs.length = (ends 0 (ahead st 0 toks)).length := by rw [hzs, hA.out, List.length_map]
      by_cases hle : zs.length ≤ 2
      · have HR : Hid (stable toks st = 0) := by show _ = _; unfold stable; rw [if_pos (by omega)]
        clear hin hown hzs hzl hA
        go_wp2_with fail
        first | go_ret | go_ret2
        exact ⟨by (first | rw [hTT, HR.out] | rw [HR.out]); rfl, HBF.out⟩
      · obtain ⟨z, hz⟩ : ∃ z, zs[zs.length - 3]? = some z := ⟨_, List.getElem?_eq_getElem (by omega)⟩
        obtain ⟨gb, go, hga, _, hgc⟩ := hin _ z hz
        subst hga
        have HR : Hid ((stable toks st : Int) = z) := by
          show _ = _
          unfold stable
          rw [if_neg (by omega), ← hzl, hA.out]
          rw [hzs, List.getElem?_map] at hz
          cases he : (ends 0 (toks.take k))[zs.length - 3]? with
          | none => rw [← hzs, he] at hz; cases hz
          | some u => rw [← hzs, he] at hz; rw [Option.getD_some]; exact Option.some.inj hz
        have hi1 : (zs.length : Int) - 1 - 2 = ((zs.length - 3 : Nat) : Int) := by omega
        have hi2 : ((zs.length - 3 : Nat) : Int) < (zs.length : Int) := by omega
        have hi3 : (0 : Int) ≤ ((zs.length - 3 : Nat) : Int) := by omega
        have hle2 : ¬ ((zs.length : Int) ≤ 2) := by omega
        have hzn : (zs.length : Int) ≤ 2000 := by omega
        clear hin hown hzs hzl hA hz
        generalize zs.length - 3 = j3 at *
        go_wp2_with fail
        first | go_ret | go_ret2
        exact ⟨by (first | rw [hTT, HR.out] | rw [HR.out]); rfl, HBF.out⟩
end Go.Proofs.YtbomilleckgalaaGreat.Ps
