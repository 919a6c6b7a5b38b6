/-
  ReparseEqualsParse's law, by its contract.
-/
import Derived.Test.YtbomilleckgalaaGreatRpErr
namespace Go.Proofs.YtbomilleckgalaaGreat.Ps
open Go.RowKit

set_option maxRecDepth 100000 in
theorem slice_head (a : Option Addr) (len cap n : Nat) (h : n ≤ cap) (hs : ∀ ad, a = some ad → ad.add 0 = ad) (W : World) : (Instr.slice 36 (.slice a len cap) none (some (.int .i64 n)) none).run Tryz.prog W = .ok (.slice a n cap) W := by
  rw [run_slice_h W 36 a len cap Tryz.underlying36 .i64 n (by omega) (by omega), show Tryz.prog.elem 36 = 23 from rfl, Tryz.sizeOf23]
  show Result.ok (sliced a 0 n cap 3) W = _
  cases a with
  | none => simp [sliced]
  | some ad =>
    have := hs ad rfl
    simp [sliced, this]
theorem eds_head {w : World} {B : Nat} {a : Option Addr} {l : List Te.Ed} (h : Te.Eds w B a l) (cap n : Nat) (hn : n ≤ l.length) (hc : l.length ≤ cap) (W : World) : (Instr.slice 36 (.slice a l.length cap) none (some (.int .i64 n)) none).run Tryz.prog W = .ok (.slice a n cap) W := by
  refine slice_head a l.length cap n (by omega) ?_ W
  rintro ad rfl
  unfold Addr.add
  split <;> simp_all

/-- The block n holds the tree of l. -/
def TBox (W : World) (n : Nat) (l : List UInt8) (m : Nat) (ra : Option Addr) (rc : Nat) : Prop :=
  W.heap[n]? = some (.cells #[.int .i64 (fileT l).k, .string (fileT l).t, .slice ra (fileT l).c.length rc] 40 (0, 0)) ∧ (fileT l).ok ∧ Kids W (fun j => j < W.heap.size ∧ j ≠ n) m ra (fileT l).c
theorem TBox.to {w w' : World} {n m : Nat} {l : List UInt8} {ra : Option Addr} {rc : Nat} (h : TBox w n l m ra rc) (hb : Below w.heap.size w w') : TBox w' n l m ra rc :=
  ⟨held_to h.1 hb, h.2.1, (h.2.2.kept ((kept_below hb).sub fun _ hj => hj.1)).up (fun _ hj => ⟨Nat.lt_of_lt_of_le hj.1 hb.size, hj.2⟩) (Nat.le_refl _)⟩

set_option maxRecDepth 100000 in
set_option maxHeartbeats 8000000 in
theorem seq_any (s : ByteArray) (a : Option Addr) (cap : Nat) (l : List Te.Ed) (w : World) (hs : s.size ≤ maxLen) (hl : l.length ≤ maxLen ∧ l.length ≤ cap) (hE : Te.Eds w w.heap.size a l) :
    Calls Tryz.prog 4 #[.string s, .slice a l.length cap] w fun e w' => e = .returned (.bool true) ∧ Below w.heap.size w w' := by
  obtain ⟨hl1, hl2⟩ := hl
  obtain ⟨n, hn⟩ : ∃ n : Nat, n = min l.length 5 := ⟨_, rfl⟩
  have hn1 : n ≤ l.length := by omega
  have hn2 : n ≤ 5 := by omega
  have hif : min (l.length : Int) 5 = (n : Int) := by omega
  have hS := eds_head hE cap n hn1 hl2
  have g1 : (l.length : Int) ≤ 9223372036854775807 := by unfold maxLen at hl1; omega
  have KS := Lib.hid (fun W => short_any s 250 W hs (by omega))
  have sz := cutB_size 250 s
  generalize cutB 250 s = z at *
  have HE := fun W : World => Lib.hid (example_any W)
  have KT := Lib.hid (fun W => parse_law z W (by omega))
  have HE0 := Lib.hid hE
  have HN1 := Lib.hid hn1
  have g2 : (n : Int) ≤ 5 := by omega
  clear hE hs hl1 hl2 hn hn1
  go_enter Tryz.func4, Tryz.ntmps4
  go_wp2_with fail
  refine (HE w).out.mono ?_
  rintro e w1 ⟨rfl, B1⟩
  go_wp2_with fail
  refine (KS.out w1).mono ?_
  rintro e w2 ⟨rfl, rfl⟩
  go_wp2_with fail
  refine (KT.out w1).mono ?_
  rintro e w3 ⟨hb, m0, ra0, rc0, rfl, hk, hok⟩
  have hb3 : Below w3.heap.size w3 (w3.alloc (.cells #[.int .i64 (fileT (Lx.L z)).k, .string (fileT (Lx.L z)).t, .slice ra0 (fileT (Lx.L z)).c.length rc0] 40)) := (Below.refl _ _).alloc (Nat.le_refl _) _
  have B3 := Lib.hid ((B1.trans (hb.mono B1.size)).trans (hb3.mono (by have := hb.size; have := B1.size; omega)))
  have hbt : w.heap.size ≤ w3.heap.size := Nat.le_trans B1.size hb.size
  have HT3 : Hid (TBox (w3.alloc (.cells #[.int .i64 (fileT (Lx.L z)).k, .string (fileT (Lx.L z)).t, .slice ra0 (fileT (Lx.L z)).c.length rc0] 40)) w3.heap.size (Lx.L z) m0 ra0 rc0) :=
    ⟨heap_alloc_new w3 _, hok, (hk.kept (kept_below hb3)).up (fun j hj => ⟨by have : j < w3.heap.size := hj; simp; omega, by have : j < w3.heap.size := hj; omega⟩) (Nat.le_refl _)⟩
  clear KS KT B1 hb hb3 hk hok
  go_wp2_with fail
  change Calls _ _ _ (w3.alloc (.cells #[.int .i64 (fileT (Lx.L z)).k, .string (fileT (Lx.L z)).t, .slice ra0 (fileT (Lx.L z)).c.length rc0] 40)) _
  generalize (w3.alloc (.cells #[.int .i64 (fileT (Lx.L z)).k, .string (fileT (Lx.L z)).t, .slice ra0 (fileT (Lx.L z)).c.length rc0] 40)) = w4 at *
  generalize w3.heap.size = bt at *
  refine (HE w4).out.mono ?_
  rintro e w5 ⟨rfl, hb⟩
  have B5 := Lib.hid (B3.out.trans (hb.mono B3.out.size))
  have HT5 := Lib.hid (HT3.out.to hb)
  clear hb B3 HT3
  go_wp2_with fail
  go_loopw [0, 35] (fun sv i wr => ∃ (k : Nat) (z : ByteArray) (m : Nat) (ra : Option Addr) (rc : Nat), i = .int .i64 k ∧ sv = .string z ∧ k ≤ n ∧ z.size ≤ 250 + 40 * k ∧ Hid (TBox wr bt (Lx.L z) m ra rc) ∧ Below w.heap.size w wr)
    (fun _ i _ => n - (intOf i).toNat)
  case atStart => exact ⟨0, z, m0, ra0, rc0, rfl, rfl, Nat.zero_le _, by omega, HT5, B5.out⟩
  case round =>
    clear HT5 B5 hif hS sz
    obtain ⟨k, z, m, ra, rc, rfl, rfl, hk, hz, HT, hb⟩ := hrel
    have hzw := hb.size
    by_cases hlt : k < n
    · have hx : l[k]? = some (l[k]'(by have := HN1.out; omega)) := List.getElem?_eq_getElem _
      obtain ⟨x, hX⟩ : ∃ x, x = l[k]'(by have := HN1.out; omega) := ⟨_, rfl⟩
      rw [← hX] at hx
      clear hX
      obtain ⟨hok, b, o, rfl, hbl, p0, p1, p2⟩ := (HE0.out.below hb) k x hx
      obtain ⟨xs, xe, xt⟩ := x
      obtain ⟨o1, o2, o3, o4, o5⟩ := hok
      simp only at o1 o2 o3 o4 o5 p0 p1 p2
      have KM := Lib.hid (fun W => Te.mod_det xs (z.size + 1) W (by omega) (by omega) ⟨o1, o2⟩)
      have hst := Te.gm_lt xs (m := z.size + 1) (by omega)
      rw [show ((z.size + 1 : Nat) : Int) = (z.size : Int) + 1 from by omega] at KM
      generalize Te.gm xs (z.size + 1) = st at *
      have hz2 : (z.size : Int) ≤ 450 := by omega
      have hk0 : (0 : Int) ≤ (k : Int) := by omega
      have hk1 : (k : Int) < (n : Int) := by omega
      have hbtr : bt < wr.heap.size := (Array.getElem?_eq_some_iff.1 HT.out.1).1
      clear hx
      go_wp2_with fail
      change Calls _ _ _ (wr.alloc (.cells #[.int .i64 xs, .int .i64 xe, .string xt] 23)) _
      have G1 : (wr.alloc (.cells #[.int .i64 xs, .int .i64 xe, .string xt] 23)).heap[wr.heap.size]? = some (.cells #[.int .i64 xs, .int .i64 xe, .string xt] 23 (0, 0)) := heap_alloc_new _ _
      have BW := (Below.refl wr.heap.size wr).alloc (Nat.le_refl _) (.cells #[.int .i64 xs, .int .i64 xe, .string xt] 23)
      generalize wr.alloc (.cells #[.int .i64 xs, .int .i64 xe, .string xt] 23) = wa at *
      refine (KM.out wa).mono ?_
      rintro e wb ⟨rfl, rfl⟩
      have f0 : wb.frozen? ⟨wr.heap.size, 0, none⟩ = false := Lib.frozen_of_heap G1 0
      have c0 : wb.cell? ⟨wr.heap.size, 0, none⟩ = some (.int .i64 xs) := by rw [Lib.cell_of_heap G1]; rfl
      have HG1 := Lib.hid G1
      clear KM p0 p1 p2 G1
      go_wp2_with fail
      have G2 := Te.set_three0 (u := .int .i64 st) HG1.out
      have BW2 := BW.setCell (p := ⟨wr.heap.size, 0, none⟩) (Nat.le_refl _) (.int .i64 st)
      clear f0 c0 BW HG1
      generalize hw2 : wb.setCell ⟨wr.heap.size, 0, none⟩ (.int .i64 st) = wc at *
      clear hw2
      have f1 : wc.frozen? ⟨wr.heap.size, 1, none⟩ = false := Lib.frozen_of_heap G2 1
      have c0 : wc.cell? ⟨wr.heap.size, 0, none⟩ = some (.int .i64 st) := by rw [Lib.cell_of_heap G2]; rfl
      have c1 : wc.cell? ⟨wr.heap.size, 1, none⟩ = some (.int .i64 xe) := by rw [Lib.cell_of_heap G2]; rfl
      have HG2 := Lib.hid G2
      obtain ⟨d, hd⟩ : ∃ d : Nat, d = z.size - st := ⟨_, rfl⟩
      obtain ⟨mm, hm⟩ : ∃ mm : Nat, mm = d + 1 := ⟨_, rfl⟩
      have KN := Lib.hid (fun W => Te.mod_det xe mm W (by omega) (by omega) ⟨o3, o4⟩)
      have hj := Te.gm_lt xe (m := mm) (by omega)
      generalize Te.gm xe mm = j at *
      obtain ⟨en, hen⟩ : ∃ en : Nat, en = st + j := ⟨_, rfl⟩
      have he1 : st ≤ en := by omega
      have he2 : en ≤ z.size := by omega
      have hwa : IntKind.i64.wrap ((z.size : Int) - st) = (d : Int) := by rw [IntKind.wrap_i64]; omega
      have hwb : IntKind.i64.wrap ((d : Int) + 1) = (mm : Int) := by rw [IntKind.wrap_i64]; omega
      have hwc : IntKind.i64.wrap ((st : Int) + j) = (en : Int) := by rw [IntKind.wrap_i64]; omega
      clear G2 hen hj hm hd
      go_still_tail 13, (by kernel_rfl)
      still_call (KN.out _)
      repeat still_step
      refine wpStill_nil ?_
      change wpList _ _ _ _ _ wc.drew
      have G3 : (wc.setCell ⟨wr.heap.size, 1, none⟩ (.int .i64 en)).drew.heap[wr.heap.size]? = some (.cells #[.int .i64 st, .int .i64 en, .string xt] 23 (0, 0)) := Te.set_three1 (u := .int .i64 en) HG2.out
      have c2 : (wc.setCell ⟨wr.heap.size, 1, none⟩ (.int .i64 en)).drew.cell? ⟨wr.heap.size, 2, none⟩ = some (.string xt) := by rw [Lib.cell_of_heap G3]; rfl
      have BW3 : Below wr.heap.size wr (wc.setCell ⟨wr.heap.size, 1, none⟩ (.int .i64 en)).drew := (BW2.setCell (p := ⟨wr.heap.size, 1, none⟩) (Nat.le_refl _) (.int .i64 en)).drew
      have HG3 := Lib.hid G3
      have KS := Lib.hid (fun W => short_any xt 40 W o5 (by omega))
      have hxs := cutB_size 40 xt
      generalize cutB 40 xt = t at *
      clear BW2 HG2 KN hwa hwb hwc c0 G3
      go_wp2_with fail
      change Calls _ _ _ (wc.setCell ⟨wr.heap.size, 1, none⟩ (.int .i64 en)).drew _
      generalize (wc.setCell ⟨wr.heap.size, 1, none⟩ (.int .i64 en)).drew = wd at *
      refine (KS.out wd).mono ?_
      rintro e we ⟨rfl, rfl⟩
      have f2 : wd.frozen? ⟨wr.heap.size, 2, none⟩ = false := Lib.frozen_of_heap HG3.out 2
      have HG4 : Hid ((wd.setCell ⟨wr.heap.size, 2, none⟩ (.string t)).heap[wr.heap.size]? = some (.cells #[.int .i64 st, .int .i64 en, .string t] 23 (0, 0))) := Te.set_three2 (u := .string t) HG3.out
      have BW4 := BW3.setCell (p := ⟨wr.heap.size, 2, none⟩) (Nat.le_refl _) (.string t)
      have KU := Lib.hid (fun ra rc m W hy hk => update_any z t st en (fileT (Lx.L z)) ra rc m W he1 he2 (by omega) (by omega) hy hk)
      have KP := Lib.hid (fun W => Te.splice_any z t st en W he1 he2 (by omega) (by omega))
      have hft : Te.Fit z.size ⟨(st : Int), (en : Int), t⟩ := by
        refine ⟨?_, ?_, ?_, ?_, ?_⟩
        · show (0 : Int) ≤ st; omega
        · show (st : Int) ≤ en; omega
        · show (en : Int) ≤ z.size; omega
        · omega
        · show (z.size : Int) - ((en : Int) - (st : Int)) + t.size ≤ 2000
          omega
      have hlen := hft.len
      have HLEN : Hid (∀ y : ByteArray, Lx.L y = Te.next (Lx.L z) ⟨(st : Int), (en : Int), t⟩ → y.size ≤ 250 + 40 * (k + 1)) := fun y hy => by
        rw [← hy, Lx.L_len] at hlen
        change (y.size : Int) = (z.size : Int) - ((en : Int) - st) + t.size at hlen
        omega
      have hkn := (reparse_ok (l := Lx.L z) (t := Lx.L t) (s := st) (e := en) (by rw [Lx.L_len]; omega) (by rw [Lx.L_len]; omega) (by
        have e9 : Te.next (Lx.L z) ⟨(st : Int), (en : Int), t⟩ = (Lx.L z).take st ++ (Lx.L t ++ (Lx.L z).drop en) := by simp [Te.next]
        rw [← e9]
        change (((Te.next (Lx.L z) ⟨(st : Int), (en : Int), t⟩).length : Nat) : Int) = (z.size : Int) - ((en : Int) - st) + t.size at hlen
        omega)).2
      rw [show (Lx.L z).take st ++ (Lx.L t ++ (Lx.L z).drop en) = Te.next (Lx.L z) ⟨(st : Int), (en : Int), t⟩ from by simp [Te.next]] at hkn
      have hKN : (kept (Lx.L z) st).1 ≤ (fileT (Te.next (Lx.L z) ⟨(st : Int), (en : Int), t⟩)).c.length := by
        rw [fileT_c, hkn.2, List.length_append, List.length_take]
        have := hkn.1
        omega
      have KQ : Hid (∀ y : ByteArray, Lx.L y = Te.next (Lx.L z) ⟨(st : Int), (en : Int), t⟩ → ∀ W, Calls Tryz.prog 15 #[.string y] W fun e w' => Below W.heap.size W w' ∧ ∃ m ra rc, e = .returned (.tuple #[tv (fileT (Te.next (Lx.L z) ⟨(st : Int), (en : Int), t⟩)) ra rc, .int .i64 0]) ∧ Kids w' (· < w'.heap.size) m ra (fileT (Te.next (Lx.L z) ⟨(st : Int), (en : Int), t⟩)).c ∧ (fileT (Te.next (Lx.L z) ⟨(st : Int), (en : Int), t⟩)).ok) := fun y hy W => by
        have h9 := HLEN.out y hy
        have := parse_law y W (by omega)
        rw [hy] at this
        exact this
      unfold UpPost at KU
      have hzk : z.size ≤ 450 := by omega
      clear BW3 HG3 KS c1 f1 hlen hft hkn
      have HY0 : Hid (∀ y : ByteArray, Lx.L y = Te.next (Lx.L z) ⟨(st : Int), (en : Int), t⟩ → fileT (Lx.L y) = fileT (Te.next (Lx.L z) ⟨(st : Int), (en : Int), t⟩)) := fun y hy => by rw [hy]
      have HFC : Hid (parseC (Te.next (Lx.L z) ⟨(st : Int), (en : Int), t⟩) = (fileT (Te.next (Lx.L z) ⟨(st : Int), (en : Int), t⟩)).c) := rfl
      rw [HFC.out] at KU
      clear HFC
      obtain ⟨N, hN⟩ : ∃ N, N = fileT (Te.next (Lx.L z) ⟨(st : Int), (en : Int), t⟩) := ⟨_, rfl⟩
      rw [← hN] at KU KQ hKN HY0
      clear hN
      generalize Te.next (Lx.L z) ⟨(st : Int), (en : Int), t⟩ = l' at *
      generalize (kept (Lx.L z) st).1 = K at *
      unfold TBox at HT
      generalize fileT (Lx.L z) = F at *
      have hKi : (K : Int) ≤ (N.c.length : Int) := by omega
      have HF5 : Hid ((wd.setCell ⟨wr.heap.size, 2, none⟩ (.string t)).heap[bt]? = some (.cells #[.int .i64 F.k, .string F.t, .slice ra F.c.length rc] 40 (0, 0))) := held_to HT.out.1 BW4
      have HK5 : Hid (Kids (wd.setCell ⟨wr.heap.size, 2, none⟩ (.string t)) (· < (wd.setCell ⟨wr.heap.size, 2, none⟩ (.string t)).heap.size) m ra F.c) := Kids.to (HT.out.2.2.up (fun j hj => hj.1) (Nat.le_refl _)) BW4
      have HOF := Lib.hid HT.out.2.1
      have BF := Lib.hid (hb.trans (BW4.mono hzw))
      obtain ⟨e0, e1, e2, _⟩ := three_facts HG4.out
      obtain ⟨t0, t1, t2, _⟩ := three_facts HF5.out
      have hsz4 := BW4.size
      clear BW4 HT hb
      go_wp2_with fail
      change Calls _ _ _ (wd.setCell ⟨wr.heap.size, 2, none⟩ (.string t)) _
      clear e0 e1 e2 t0 t1 t2 f2 c2
      generalize wd.setCell ⟨wr.heap.size, 2, none⟩ (.string t) = wf at *
      generalize wr.heap.size = eb at *
      have hbtf : bt < wf.heap.size := by omega
      refine (KU.out ra rc m wf HOF.out HK5.out).mono ?_
      rintro e wg ⟨hb, hcase⟩
      rcases hcase with ⟨_, mN, raN, rcN, rfl, hkN, hokN⟩ | ⟨hne, _⟩
      case inr => first | exact absurd trivial hne | exact absurd rfl hne
      have hb2 : Below wg.heap.size wg (wg.alloc (.cells #[.int .i64 N.k, .string N.t, .slice raN N.c.length rcN] 40)) := (Below.refl _ _).alloc (Nat.le_refl _) _
      have BG := Lib.hid ((BF.out.trans (hb.mono BF.out.size)).trans (hb2.mono (by have := BF.out.size; have := hb.size; omega)))
      have HG6 := Lib.hid (held_to (held_to HG4.out hb) hb2)
      have HF6 := Lib.hid (held_to (held_to HF5.out hb) hb2)
      have HN6 : Hid ((wg.alloc (.cells #[.int .i64 N.k, .string N.t, .slice raN N.c.length rcN] 40)).heap[wg.heap.size]? = some (.cells #[.int .i64 N.k, .string N.t, .slice raN N.c.length rcN] 40 (0, 0))) := heap_alloc_new wg _
      have HKN : Hid (Kids (wg.alloc (.cells #[.int .i64 N.k, .string N.t, .slice raN N.c.length rcN] 40)) (fun j => j < (wg.alloc (.cells #[.int .i64 N.k, .string N.t, .slice raN N.c.length rcN] 40)).heap.size ∧ j ≠ bt) mN raN N.c) := (hkN.kept ((kept_below hb2).sub fun _ hj => hj.1)).up (fun j hj => ⟨by have := hj.1; simp; omega, by have := hj.2; omega⟩) (Nat.le_refl _)
      have HON := Lib.hid hokN
      obtain ⟨e0, e1, e2, _⟩ := three_facts HG6.out
      clear hb hb2 hkN hokN HG4 HF5 HK5 HOF BF KU
      go_wp2_with fail
      change Calls _ _ _ (wg.alloc (.cells #[.int .i64 N.k, .string N.t, .slice raN N.c.length rcN] 40)) _
      clear e0 e1 e2
      generalize hwh : (wg.alloc (.cells #[.int .i64 N.k, .string N.t, .slice raN N.c.length rcN] 40)) = wh at *
      generalize wg.heap.size = nb at *
      clear hwh
      refine (KP.out wh).mono ?_
      rintro e wi ⟨y, rfl, hy, hb⟩
      have BI := Lib.hid (BG.out.trans (hb.mono BG.out.size))
      have HF7 := Lib.hid (held_to HF6.out hb)
      have HN7 := Lib.hid (held_to HN6.out hb)
      have HKN7 : Hid (Kids wi (fun j => j < wi.heap.size ∧ j ≠ bt) mN raN N.c) := (HKN.out.kept ((kept_below hb).sub fun _ hj => hj.1)).up (fun j hj => ⟨Nat.lt_of_lt_of_le hj.1 hb.size, hj.2⟩) (Nat.le_refl _)
      have HQY := Lib.hid (KQ.out y hy)
      have HLY := Lib.hid (HLEN.out y hy)
      have HYY := Lib.hid (HY0.out y hy)
      clear hb HF6 HN6 HKN HG6 BG KP KQ HLEN HY0 hy
      go_wp2_with fail
      refine (HQY.out wi).mono ?_
      rintro e wj ⟨hb, mM, raM, rcM, rfl, hkM, hokM⟩
      have hb2 : Below wj.heap.size wj (wj.alloc (.cells #[.int .i64 N.k, .string N.t, .slice raM N.c.length rcM] 40)) := (Below.refl _ _).alloc (Nat.le_refl _) _
      have BJ := Lib.hid ((BI.out.trans (hb.mono BI.out.size)).trans (hb2.mono (by have := BI.out.size; have := hb.size; omega)))
      have HF8 := Lib.hid (held_to (held_to HF7.out hb) hb2)
      have HN8 := Lib.hid (held_to (held_to HN7.out hb) hb2)
      have HM8 : Hid ((wj.alloc (.cells #[.int .i64 N.k, .string N.t, .slice raM N.c.length rcM] 40)).heap[wj.heap.size]? = some (.cells #[.int .i64 N.k, .string N.t, .slice raM N.c.length rcM] 40 (0, 0))) := heap_alloc_new wj _
      have hz8 := (hb.trans (hb2.mono hb.size)).size
      have HKN8 : Hid (Kids (wj.alloc (.cells #[.int .i64 N.k, .string N.t, .slice raM N.c.length rcM] 40)) (fun j => j < (wj.alloc (.cells #[.int .i64 N.k, .string N.t, .slice raM N.c.length rcM] 40)).heap.size ∧ j ≠ bt) mN raN N.c) := (HKN7.out.kept ((kept_below (hb.trans (hb2.mono hb.size))).sub fun _ hj => hj.1)).up (fun j hj => ⟨Nat.lt_of_lt_of_le hj.1 hz8, hj.2⟩) (Nat.le_refl _)
      have HKM : Hid (Kids (wj.alloc (.cells #[.int .i64 N.k, .string N.t, .slice raM N.c.length rcM] 40)) (· < (wj.alloc (.cells #[.int .i64 N.k, .string N.t, .slice raM N.c.length rcM] 40)).heap.size) mM raM N.c) := hkM.to hb2
      have HQ := Lib.hid (tree_eq mN N N raN rcN mM raM rcM (wj.alloc (.cells #[.int .i64 N.k, .string N.t, .slice raM N.c.length rcM] 40)) HON.out HON.out (HKN8.out.up (fun j hj => hj.1) (Nat.le_refl _)) HKM.out)
      obtain ⟨n0, n1, n2, _⟩ := three_facts HN8.out
      clear hb hb2 hkM hokM HF7 HN7 HKN7 BI HQY HKM
      go_wp2_with fail
      change Calls _ _ _ (wj.alloc (.cells #[.int .i64 N.k, .string N.t, .slice raM N.c.length rcM] 40)) _
      clear n0 n1 n2
      generalize hwk : (wj.alloc (.cells #[.int .i64 N.k, .string N.t, .slice raM N.c.length rcM] 40)) = wk at *
      generalize wj.heap.size = mb at *
      clear hwk
      refine HQ.out.mono ?_
      rintro e wl ⟨hb, ⟨_, rfl⟩ | ⟨hne, _⟩⟩
      case inr => first | exact absurd trivial hne | exact absurd rfl hne
      have BL := Lib.hid (BJ.out.trans (hb.mono BJ.out.size))
      have HFl := Lib.hid (held_to HF8.out hb)
      have HNl := Lib.hid (held_to HN8.out hb)
      have HMl := Lib.hid (held_to HM8.out hb)
      have HKNl : Hid (Kids wl (fun j => j < wl.heap.size ∧ j ≠ bt) mN raN N.c) := (HKN8.out.kept ((kept_below hb).sub fun _ hj => hj.1)).up (fun j hj => ⟨Nat.lt_of_lt_of_le hj.1 hb.size, hj.2⟩) (Nat.le_refl _)
      obtain ⟨n0, n1, n2, _⟩ := three_facts HNl.out
      obtain ⟨q0, q1, q2, _⟩ := three_facts HMl.out
      obtain ⟨r0, r1, r2, y0, y1, y2⟩ := three_facts HFl.out
      have HFIN : Hid (TBox (((wl.setCell ⟨bt, 0, none⟩ (.int .i64 N.k)).setCell ⟨bt, 1, none⟩ (.string N.t)).setCell ⟨bt, 2, none⟩ (.slice raN N.c.length rcN)) bt (Lx.L y) mN raN rcN) := by
        unfold TBox
        rw [HYY.out]
        refine ⟨set_three HFl.out, HON.out, (HKNl.out.kept fun j _ hj => World.cell?_of_block ?_).up (fun j hj => ⟨by simp; exact hj.1, hj.2⟩) (Nat.le_refl _)⟩
        rw [heap_setCell_other _ ⟨bt, 2, none⟩ j _ (fun e => hj.2 e), heap_setCell_other _ ⟨bt, 1, none⟩ j _ (fun e => hj.2 e), heap_setCell_other _ ⟨bt, 0, none⟩ j _ (fun e => hj.2 e)]
      have BFIN : Hid (Below w.heap.size w (((wl.setCell ⟨bt, 0, none⟩ (.int .i64 N.k)).setCell ⟨bt, 1, none⟩ (.string N.t)).setCell ⟨bt, 2, none⟩ (.slice raN N.c.length rcN))) := ((BL.out.setCell (p := ⟨bt, 0, none⟩) hbt _).setCell (p := ⟨bt, 1, none⟩) hbt _).setCell (p := ⟨bt, 2, none⟩) hbt _
      clear hb HF8 HN8 HM8 HKN8 BJ HQ
      go_wp2_with fail
      go_roundw
      case rel => exact ⟨k + 1, y, mN, raN, rcN, by go_num, rfl, by omega, HLY.out, HFIN, BFIN.out⟩
      case measure => simp [intOf]; omega
    · obtain rfl : k = n := by omega
      go_wp2_with fail
      go_ret
      exact ⟨rfl, hb⟩
end Go.Proofs.YtbomilleckgalaaGreat.Ps
