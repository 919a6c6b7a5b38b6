/-
  Updating tokens after each of a sequence of edits yields the tokens of the final source: RelexSequence's walk, for every source and every list of edits.
-/
import Derived.Test.YtibiniokbcjjeaaRxIdW
import Derived.Test.YtibiniokbcjjeaaRxSplice
namespace Go.Proofs.Ytibiniokbcjjeaa
open Go.RowKit

theorem slice_head (a : Option Addr) (len cap n : Nat) (h : n ≤ cap) (hs : ∀ ad, a = some ad → ad.add 0 = ad) (W : World) : (Instr.slice 22 (.slice a len cap) none (some (.int .i64 n)) none).run Try.prog W = .ok (.slice a n cap) W := by
  rw [run_slice_h W 22 a len cap Try.underlying22 .i64 n (by omega) (by omega), show Try.prog.elem 22 = 30 from rfl, Try.sizeOf30]
  show Result.ok (sliced a 0 n cap 3) W = _
  cases a with
  | none => simp [sliced]
  | some ad =>
    have := hs ad rfl
    simp [sliced, this]

theorem eds_head {w : World} {B : Nat} {a : Option Addr} {l : List Ed} (h : Eds w B a l) (cap n : Nat) (hn : n ≤ l.length) (hc : l.length ≤ cap) (W : World) : (Instr.slice 22 (.slice a l.length cap) none (some (.int .i64 n)) none).run Try.prog W = .ok (.slice a n cap) W := by
  refine slice_head a l.length cap n (by omega) ?_ W
  rintro ad rfl
  unfold Addr.add
  split <;> simp_all

set_option maxHeartbeats 2000000 in
set_option maxRecDepth 100000 in
theorem seq_walk (s : ByteArray) (a : Option Addr) (cap : Nat) (l : List Ed) (w : World) (hs : s.size ≤ maxLen) (hl : l.length ≤ maxLen ∧ l.length ≤ cap) (hE : Eds w w.heap.size a l) :
    Calls Try.prog 3 #[.string s, .slice a l.length cap] w fun e w' => e = .returned (.bool true) ∧ Below w.heap.size w w' := by
  obtain ⟨hl1, hl2⟩ := hl
  obtain ⟨n, hn⟩ : ∃ n : Nat, n = min l.length 6 := ⟨_, rfl⟩
  have hn1 : n ≤ l.length := by omega
  have hn2 : n ≤ 6 := by omega
  have hif : min (l.length : Int) 6 = (n : Int) := by omega
  have hS := eds_head hE cap n hn1 hl2
  have g1 : (l.length : Int) ≤ 9223372036854775807 := by unfold maxLen at hl1; omega
  have KS := Lib.hid (fun W => short_any s 200 W hs (by omega))
  have sz := cut_size 200 s
  generalize cut 200 s = z at *
  have KT := Lib.hid (fun W => tokenize_any z W (by omega))
  unfold Toks at KT
  have HE := Lib.hid hE
  have HN1 := Lib.hid hn1
  have g2 : (n : Int) ≤ 6 := by omega
  clear hE hs hl1 hl2 hn hn1
  go_enter Try.func3, Try.ntmps3
  go_wp2_with fail
  refine (ex_keep w).mono ?_
  rintro e w1 ⟨rfl, B1⟩
  go_wp2_with fail
  refine (KS.out w1).mono ?_
  rintro e w2 ⟨rfl, rfl⟩
  go_wp2_with fail
  refine (KT.out w1).mono ?_
  rintro e w3 ⟨v, rfl, ho, hb⟩
  have B3 := B1.trans (hb.mono B1.size)
  have HO3 : Hid (OwnsT w3 w.heap.size v (T (L z))) := ho.out.lower B1.size
  clear KS KT B1 hb ho
  go_wp2_with fail
  go_loopw [0, 5, 30] (fun sv tv i wr => ∃ (k : Nat) (z : ByteArray), i = .int .i64 k ∧ sv = .string z ∧ k ≤ n ∧ z.size ≤ 200 + 40 * k ∧ Hid (OwnsT wr w.heap.size tv (T (L z))) ∧ Below w.heap.size w wr)
    (fun _ _ i _ => n - (intOf i).toNat)
  case atStart => exact ⟨0, z, rfl, rfl, Nat.zero_le _, by omega, HO3, B3⟩
  case round =>
    clear HO3 B3 hif hS sz
    obtain ⟨k, z, rfl, rfl, hk, hz, hown, hb⟩ := hrel
    have hzw := hb.size
    by_cases hlt : k < n
    · have hx : l[k]? = some (l[k]'(by have := HN1.out; omega)) := List.getElem?_eq_getElem _
      obtain ⟨x, hX⟩ : ∃ x, x = l[k]'(by have := HN1.out; omega) := ⟨_, rfl⟩
      rw [← hX] at hx
      clear hX
      obtain ⟨hok, b, o, rfl, hbl, p0, p1, p2⟩ := (HE.out.below hb) k x hx
      obtain ⟨xs, xe, xt⟩ := x
      obtain ⟨o1, o2, o3, o4, o5⟩ := hok
      simp only at o1 o2 o3 o4 o5 p0 p1 p2
      have KM := Lib.hid (fun W => mod_det xs (z.size + 1) W (by omega) (by omega) ⟨o1, o2⟩)
      have hst := gm_lt xs (m := z.size + 1) (by omega)
      rw [show ((z.size + 1 : Nat) : Int) = (z.size : Int) + 1 from by omega] at KM
      generalize gm xs (z.size + 1) = st at *
      have hz2 : (z.size : Int) ≤ 440 := by omega
      have hk0 : (0 : Int) ≤ (k : Int) := by omega
      have hk1 : (k : Int) < (n : Int) := by omega
      clear hx
      go_wp2_with fail
      change Calls _ _ _ (wr.alloc (.cells #[.int .i64 xs, .int .i64 xe, .string xt] 30)) _
      have G1 : (wr.alloc (.cells #[.int .i64 xs, .int .i64 xe, .string xt] 30)).heap[wr.heap.size]? = some (.cells #[.int .i64 xs, .int .i64 xe, .string xt] 30 (0, 0)) := heap_alloc_new _ _
      have BW := (Below.refl wr.heap.size wr).alloc (Nat.le_refl _) (.cells #[.int .i64 xs, .int .i64 xe, .string xt] 30)
      generalize wr.alloc (.cells #[.int .i64 xs, .int .i64 xe, .string xt] 30) = wa at *
      refine (KM.out wa).mono ?_
      rintro e wb ⟨rfl, rfl⟩
      have f0 : wb.frozen? ⟨wr.heap.size, 0, none⟩ = false := Lib.frozen_of_heap G1 0
      have c0 : wb.cell? ⟨wr.heap.size, 0, none⟩ = some (.int .i64 xs) := by rw [Lib.cell_of_heap G1]; rfl
      have HG1 := Lib.hid G1
      clear KM p0 p1 p2 G1
      go_wp2_with fail
      have G2 := set_three0 (u := .int .i64 st) HG1.out
      have BW2 := BW.setCell (p := ⟨wr.heap.size, 0, none⟩) (Nat.le_refl _) (.int .i64 st)
      clear f0 c0 BW HG1
      generalize hw2 : wb.setCell ⟨wr.heap.size, 0, none⟩ (.int .i64 st) = wc at *
      clear hw2
      have f1 : wc.frozen? ⟨wr.heap.size, 1, none⟩ = false := Lib.frozen_of_heap G2 1
      have c0 : wc.cell? ⟨wr.heap.size, 0, none⟩ = some (.int .i64 st) := by rw [Lib.cell_of_heap G2]; rfl
      have c1 : wc.cell? ⟨wr.heap.size, 1, none⟩ = some (.int .i64 xe) := by rw [Lib.cell_of_heap G2]; rfl
      have HG2 := Lib.hid G2
      obtain ⟨d, hd⟩ : ∃ d : Nat, d = z.size - st := ⟨_, rfl⟩
      obtain ⟨m, hm⟩ : ∃ m : Nat, m = d + 1 := ⟨_, rfl⟩
      have KN := Lib.hid (fun W => mod_det xe m W (by omega) (by omega) ⟨o3, o4⟩)
      have hj := gm_lt xe (m := m) (by omega)
      generalize gm xe m = j at *
      obtain ⟨en, hen⟩ : ∃ en : Nat, en = st + j := ⟨_, rfl⟩
      have he1 : st ≤ en := by omega
      have he2 : en ≤ z.size := by omega
      have hwa : IntKind.i64.wrap ((z.size : Int) - st) = (d : Int) := by rw [IntKind.wrap_i64]; omega
      have hwb : IntKind.i64.wrap ((d : Int) + 1) = (m : Int) := by rw [IntKind.wrap_i64]; omega
      have hwc : IntKind.i64.wrap ((st : Int) + j) = (en : Int) := by rw [IntKind.wrap_i64]; omega
      clear G2 hen hj hm hd
      go_still_tail 13, (by kernel_rfl)
      still_call (KN.out _)
      repeat still_step
      refine wpStill_nil ?_
      change wpList _ _ _ _ _ wc.drew
      have G3 : (wc.setCell ⟨wr.heap.size, 1, none⟩ (.int .i64 en)).drew.heap[wr.heap.size]? = some (.cells #[.int .i64 st, .int .i64 en, .string xt] 30 (0, 0)) := set_three1 (u := .int .i64 en) HG2.out
      have c2 : (wc.setCell ⟨wr.heap.size, 1, none⟩ (.int .i64 en)).drew.cell? ⟨wr.heap.size, 2, none⟩ = some (.string xt) := by rw [Lib.cell_of_heap G3]; rfl
      have BW3 : Below wr.heap.size wr (wc.setCell ⟨wr.heap.size, 1, none⟩ (.int .i64 en)).drew := (BW2.setCell (p := ⟨wr.heap.size, 1, none⟩) (Nat.le_refl _) (.int .i64 en)).drew
      have HG3 := Lib.hid G3
      have KS := Lib.hid (fun W => short_any xt 40 W o5 (by omega))
      have hxs := cut_size 40 xt
      generalize cut 40 xt = t at *
      clear BW2 HG2 KN hwa hwb hwc c0 G3
      go_wp2_with fail
      change Calls _ _ _ (wc.setCell ⟨wr.heap.size, 1, none⟩ (.int .i64 en)).drew _
      generalize (wc.setCell ⟨wr.heap.size, 1, none⟩ (.int .i64 en)).drew = wd at *
      refine (KS.out wd).mono ?_
      rintro e we ⟨rfl, rfl⟩
      have f2 : wd.frozen? ⟨wr.heap.size, 2, none⟩ = false := Lib.frozen_of_heap HG3.out 2
      have G4 := set_three2 (u := .string t) HG3.out
      have BW4 := BW3.setCell (p := ⟨wr.heap.size, 2, none⟩) (Nat.le_refl _) (.string t)
      have e0 : (wd.setCell ⟨wr.heap.size, 2, none⟩ (.string t)).cell? ⟨wr.heap.size, 0, none⟩ = some (.int .i64 st) := by rw [Lib.cell_of_heap G4]; rfl
      have e1 : (wd.setCell ⟨wr.heap.size, 2, none⟩ (.string t)).cell? ⟨wr.heap.size, 1, none⟩ = some (.int .i64 en) := by rw [Lib.cell_of_heap G4]; rfl
      have e2 : (wd.setCell ⟨wr.heap.size, 2, none⟩ (.string t)).cell? ⟨wr.heap.size, 2, none⟩ = some (.string t) := by rw [Lib.cell_of_heap G4]; rfl
      have HG4 := Lib.hid G4
      have hft : Fit z.size ⟨(st : Int), (en : Int), t⟩ := by
        refine ⟨?_, ?_, ?_, ?_, ?_⟩
        · show (0 : Int) ≤ st; omega
        · show (st : Int) ≤ en; omega
        · show (en : Int) ≤ z.size; omega
        · omega
        · show (z.size : Int) - ((en : Int) - (st : Int)) + t.size ≤ 2000
          omega
      have hlen := hft.len
      have hlen2 : ((next (L z) ⟨(st : Int), (en : Int), t⟩).length : Int) ≤ 200 + 40 * (k + 1) := by
        rw [hlen]
        show (z.size : Int) - ((en : Int) - (st : Int)) + t.size ≤ _
        omega
      have HLEN := Lib.hid hlen2
      have KU := Lib.hid (fun W h => update_ok z u5 ⟨(st : Int), (en : Int), t⟩ W hft h)
      have KP := Lib.hid (fun W => splice_any z t st en W he1 he2 (by omega) (by omega))
      clear BW3 HG3 KS c1 f1 G4 hlen hlen2 hft
      go_wp2_with fail
      change Calls _ _ _ (wd.setCell ⟨wr.heap.size, 2, none⟩ (.string t)) _
      generalize wd.setCell ⟨wr.heap.size, 2, none⟩ (.string t) = wf at *
      have HOF : Hid (OwnsT wf w.heap.size u5 (T (L z))) := ownsT_below hown.out BW4
      have BF := hb.trans (BW4.mono hzw)
      have hltb : wr.heap.size < wf.heap.size := (Array.getElem?_eq_some_iff.1 HG4.out).1
      refine (KU.out wf HOF.out.part).mono ?_
      rintro e wg ⟨v', p, q, rfl, hre, hown2, hb2⟩
      obtain ⟨hx1, hx2, hx3⟩ := hre.out.all (by show (0 : Int) ≤ st; omega) (by show (st : Int) ≤ en; omega) (by rw [L_len]; show (en : Int) ≤ z.size; omega)
      have BG := BF.trans (hb2.mono BF.size)
      have HOG : Hid (OwnsT wg w.heap.size v' (T (next (L z) ⟨(st : Int), (en : Int), t⟩))) := hown2.out.lower BF.size
      have d0 := (hb2.cell (p := ⟨wr.heap.size, 0, none⟩) hltb).trans e0
      have d1 := (hb2.cell (p := ⟨wr.heap.size, 1, none⟩) hltb).trans e1
      have d2 := (hb2.cell (p := ⟨wr.heap.size, 2, none⟩) hltb).trans e2
      have hlT := T_length _ (L z) (Nat.le_refl _)
      have hnT := T_length _ (next (L z) ⟨(st : Int), (en : Int), t⟩) (Nat.le_refl _)
      rw [L_len] at hlT
      have hnl := HLEN.out
      clear hre hx1 hown2 hb2 KU e0 e1 e2 f2 HG4 BW4 hown hb BF c2
      obtain ⟨a5, c5, rfl, _⟩ := HOF.out.whole
      obtain ⟨a6, c6, rfl, _⟩ := HOG.out.whole
      clear HOF
      have HTN : Hid (∀ y, L y = next (L z) ⟨(st : Int), (en : Int), t⟩ → T (L y) = T (next (L z) ⟨(st : Int), (en : Int), t⟩)) := fun y h => by rw [h]
      generalize T (L z) = l5 at *
      generalize T (next (L z) ⟨(st : Int), (en : Int), t⟩) = l6 at *
      obtain ⟨r, hr⟩ : ∃ r, p + q = r := ⟨_, rfl⟩
      rw [hr] at hx2 hx3 ⊢
      clear hr
      have hr1 : (r : Int) ≤ l5.length := by omega
      have hr2 : (r : Int) ≤ l6.length := by omega
      have hr0 : (0 : Int) ≤ (r : Int) := by omega
      clear hx2 hx3 hlT hnT
      go_wp2_with fail
      refine (KP.out wg).mono ?_
      rintro e wh ⟨y, rfl, hy, hb⟩
      have BH := BG.trans (hb.mono BG.size)
      have HOH : Hid (OwnsT wh w.heap.size (.slice a6 l6.length c6) (T (L y))) := by rw [HTN.out y hy]; exact ownsT_below HOG.out hb
      have hys : Hid (y.size ≤ 200 + 40 * (k + 1)) := by show _ ≤ _; rw [← hy, L_len] at hnl; omega
      clear KP HTN HOG BG hb d0 d1 d2 hnl hy HLEN
      go_wp2_with fail
      go_roundw
      case rel => exact ⟨k + 1, y, by go_num, rfl, by omega, hys.out, HOH, BH⟩
      case measure => simp [intOf]; omega
    · obtain rfl : k = n := by omega
      have KT := Lib.hid (fun W => tokenize_any z W (by omega))
      unfold Toks at KT
      have hlT := T_length _ (L z) (Nat.le_refl _)
      rw [L_len] at hlT
      generalize T (L z) = lt at *
      go_wp2_with fail
      refine (KT.out wr).mono ?_
      rintro e w4 ⟨v4, rfl, ho4, hb4⟩
      have B4 := hb.trans (hb4.mono hzw)
      have HA4 : Hid (OwnsT w4 w.heap.size u5 lt) := ownsT_below hown.out hb4
      have HB4 : Hid (OwnsT w4 w.heap.size v4 lt) := ho4.out.lower hzw
      clear KT hown hb hb4 ho4 hzw
      go_wp2_with fail
      refine (ex_keep w4).mono ?_
      rintro e w5 ⟨rfl, hb5⟩
      have B5 := B4.trans (hb5.mono B4.size)
      have HA5 : Hid (OwnsT w5 w.heap.size u5 lt) := ownsT_below HA4.out hb5
      have HB5 : Hid (OwnsT w5 w.heap.size v4 lt) := ownsT_below HB4.out hb5
      clear B4 HA4 HB4 hb5
      go_wp2_with fail
      refine (equal_any lt u5 v4 w5 _ _ (by omega) HA5.out.part HB5.out.part (Nat.le_refl _) (Nat.le_refl _)).mono ?_
      rintro e w6 ⟨rfl, hb6⟩
      have B6 := B5.trans (hb6.mono B5.size)
      clear HA5 HB5 hb6 B5
      go_wp2_with fail
      go_ret
      exact ⟨rfl, B6⟩
end Go.Proofs.Ytibiniokbcjjeaa
