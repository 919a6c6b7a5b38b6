/-
  ArenaError of the reference, by its contract.
-/
import Derived.Test.YtjnnilidnceplaaGtIndex
import Derived.Test.YtjnnilidnceplaaGtWidth
import Derived.Deep.DeepCutAuto
namespace Go.Proofs.Ytjnnilidnceplaa
open Go.RowKit

/-- What ArenaError answers. -/
def ErrPost (l : List N) (w : World) (e : Ending) (w' : World) : Prop :=
  (OkTo (gs l) l.length ∧ e = .returned (.int .i64 0) ∧ Below w.heap.size w w') ∨ (¬ OkTo (gs l) l.length ∧ e = .returned (.int .i64 3) ∧ Below w.heap.size w w')

theorem ErrPost.bad {l : List N} {w w' : World} {e : Ending} (h1 : ¬ OkTo (gs l) (gs l).length) (h2 : e = .returned (.int .i64 3)) (h3 : Below w.heap.size w w') : ErrPost l w e w' :=
  Or.inr ⟨by rw [← gs_len]; exact h1, h2, h3⟩
theorem ErrPost.good {l : List N} {w w' : World} {e : Ending} (h1 : OkTo (gs l) l.length) (h2 : e = .returned (.int .i64 0)) (h3 : Below w.heap.size w w') : ErrPost l w e w' :=
  Or.inl ⟨h1, h2, h3⟩

theorem not_inR {l : List G} {k q : Nat} {x : G} {z : Int} (hx : l[k]? = some x) (hz : x.c[q]? = some z) (h : ¬ (0 ≤ z ∧ z < k)) : ¬ OkTo l l.length := by
  intro ho
  have hk : k < l.length := (List.getElem?_eq_some_iff.1 hx).1
  exact h ((ho k x hk hx).1 z (List.mem_of_getElem? hz))

theorem dup_bad {l : List G} {k j : Nat} {x y : G} (hx : l[k]? = some x) (hy : l[j]? = some y) (hj : j < k) (h : y.k = x.k ∧ y.w = x.w ∧ y.t = x.t ∧ y.c = x.c) : ¬ OkTo l l.length := by
  intro ho
  have hk : k < l.length := (List.getElem?_eq_some_iff.1 hx).1
  exact (ho k x hk hx).2.2.2 j y hj hy ⟨h.1, h.2.2.1, h.2.2.2⟩

theorem ok_of {l : List G} {k : Nat} {x : G} (hok : OkTo l k) (h1 : InR k x.c) (h2 : wfN x.k x.t x.c.length = true) (h3 : x.w = wid l x.t x.c)
    (h4 : ∀ j y, j < k → l[j]? = some y → ¬ (y.k = x.k ∧ y.w = x.w ∧ y.t = x.t ∧ y.c = x.c)) : OkAt l k x := by
  refine ⟨h1, h2, h3, fun j y hj hy hs => ?_⟩
  have hw := (hok j y hj hy).2.2.1
  refine h4 j y hj hy ⟨hs.1, ?_, hs.2.1, hs.2.2⟩
  rw [hw, h3, hs.2.1, hs.2.2]

/-- None of the first j nodes is the node x. -/
def NoDup (l : List G) (j : Nat) (x : G) : Prop := ∀ (i : Nat) (y : G), i < j → l[i]? = some y → ¬ (y.k = x.k ∧ y.w = x.w ∧ y.t = x.t ∧ y.c = x.c)
theorem NoDup.step {l : List G} {j : Nat} {x y : G} (h : NoDup l j x) (hy : l[j]? = some y) (hn : ¬ (y.k = x.k ∧ y.w = x.w ∧ y.t = x.t ∧ y.c = x.c)) : NoDup l (j + 1) x := by
  intro i z hi hz
  by_cases e : i = j
  · subst e
    rw [hy] at hz
    cases hz
    exact hn
  · exact h i z (by omega) hz

set_option maxRecDepth 100000 in
set_option maxHeartbeats 8000000 in
theorem rerr_any (l : List N) (a : Option Addr) (cap : Nat) (w : World) (hlen : l.length ≤ 4000) (hcap : l.length ≤ cap) (hn : Nodes w (· < w.heap.size) a l) :
    Calls Try.prog 7 #[.agg #[.slice a l.length cap]] w (ErrPost l w) := by
  have HN := Lib.hid hn
  clear hn
  have hl : (l.length : Int) ≤ 4000 := by omega
  go_enter Try.func7, Try.ntmps7
  go_wp2_with fail
  obtain ⟨W0, hW0⟩ : ∃ W0, W0 = w.alloc (oneBox (.slice a l.length cap)) := ⟨_, rfl⟩
  have HB0 : Hid (Below w.heap.size w W0) := by rw [hW0]; exact (Below.refl _ _).alloc (Nat.le_refl _) _
  have HZ0 : Hid (W0.heap.size = w.heap.size + 1) := by rw [hW0]; show _ = _; simp
  have HC0 : Hid (W0.cell? ⟨w.heap.size, 0, none⟩ = some (.slice a l.length cap)) := by
    rw [hW0]
    show _ = _
    simp [oneBox, go_sem]
  go_loopw [17] (fun i wr => ∃ k : Nat, k ≤ l.length ∧ i = .int .i64 k ∧ Hid (OkTo (gs l) k) ∧ Below (w.heap.size + 1) W0 wr)
    (fun i _ => l.length - (intOf i).toNat)
  case atStart =>
    refine ⟨0, Nat.zero_le _, rfl, OkTo.zero _, ?_⟩
    rw [hW0]
    exact Below.refl _ _
  case round =>
    clear hW0
    obtain ⟨k, hk, rfl, hok, hb⟩ := hrel
    obtain ⟨wo, rfl⟩ : ∃ wo : World, wo = wr := ⟨_, rfl⟩
    have hz := HZ0.out
    have hzw := hb.size
    have f1 : wo.cell? ⟨w.heap.size, 0, none⟩ = some (.slice a l.length cap) := (hb.cell (p := ⟨_, _, none⟩) (by simp)).trans HC0.out
    have hbw : Hid (Below w.heap.size w wo) := HB0.out.trans (hb.mono (by omega))
    have f3 : w.heap.size < wo.heap.size := by omega
    have HB1 := Lib.hid hb
    clear hz hzw hb
    by_cases hlt : k < l.length
    · have hx : l[k]? = some l[k] := List.getElem?_eq_getElem hlt
      obtain ⟨x, hX⟩ : ∃ x, x = l[k] := ⟨_, rfl⟩
      rw [← hX] at hx
      clear hX
      obtain ⟨⟨xk, xw, xt, xc⟩, xa, xcap⟩ := x
      have HX := Lib.hid hx
      have hnr := HN.out.to hbw.out
      obtain ⟨⟨o1, o2, o3, o4, o5, _⟩, b, o, rfl, _, p0, p1, p2, p3, pI⟩ := hnr k _ hx
      simp only at o1 o2 o3 o4 o5 p0 p1 p2 p3 pI
      have hk0 : (0 : Int) ≤ (k : Int) := by omega
      have hk1 : (k : Int) < (l.length : Int) := by omega
      have hcap1 : (k : Int) ≤ (cap : Int) := by omega
      have hcn : (xc.length : Int) ≤ 17592186043904 := by omega
      have HNr := Lib.hid hnr
      have HI := Lib.hid pI
      have HCI := Lib.hid o5
      have HO4 := Lib.hid o4
      have HF := Lib.hid (nodeBox_facts wo xk xw xt (.slice xa xc.length xcap))
      clear hx hnr pI o1 o2 o5 o4
      obtain ⟨W1, hW1⟩ : ∃ W1, W1 = wo.alloc (nodeBox xk xw xt (.slice xa xc.length xcap)) := ⟨_, rfl⟩
      have HB2 : Hid (Below wo.heap.size wo W1) := by rw [hW1]; exact (Below.refl _ _).alloc (Nat.le_refl _) _
      have HZ1 : Hid (W1.heap.size = wo.heap.size + 1) := by rw [hW1]; show _ = _; simp
      have HF1 : Hid (W1.cell? ⟨wo.heap.size, 0, none⟩ = some (.int .i64 xk) ∧ W1.cell? ⟨wo.heap.size, 1, none⟩ = some (.int .i64 xw) ∧ W1.cell? ⟨wo.heap.size, 2, none⟩ = some (.string xt) ∧ W1.cell? ⟨wo.heap.size, 3, none⟩ = some (.slice xa xc.length xcap)) := by rw [hW1]; exact HF.out
      go_wp2_with fail
      go_loop [5, 28] (fun s p => ∃ q : Nat, q ≤ xc.length ∧ p = .int .i64 q ∧ s = .int .i64 (wid (gs l) xt (xc.take q)) ∧ Hid (InR k (xc.take q)))
        (fun _ p => xc.length - (intOf p).toNat)
      case atStart => exact ⟨0, Nat.zero_le _, rfl, rfl, fun z hz => by simp at hz⟩
      case round =>
        obtain ⟨q, hq, rfl, rfl, hin⟩ := hrel
        have HBW1 : Hid (Below w.heap.size w (wo.alloc (.cells #[.int .i64 xk, .int .i64 xw, .string xt, .slice xa xc.length xcap] 48))) := below_al hbw.out (Nat.le_refl _) _
        by_cases hlt2 : q < xc.length
        · have hz : xc[q]? = some xc[q] := List.getElem?_eq_getElem hlt2
          obtain ⟨z, hZ⟩ : ∃ y, y = xc[q] := ⟨_, rfl⟩
          rw [← hZ] at hz
          clear hZ
          have hzi := HCI.out z (List.mem_of_getElem? hz)
          unfold I64 at hzi
          obtain ⟨hz1, hz2⟩ := hzi
          obtain ⟨bb, oo, rfl, hbb, g0⟩ := HI.out q _ hz
          have hq0 : (0 : Int) ≤ (q : Int) := by omega
          have hq1 : (q : Int) < (xc.length : Int) := by omega
          by_cases hr : 0 ≤ z ∧ z < k
          · obtain ⟨hr1, hr2⟩ := hr
            have hnew : Hid (InR k (xc.take (q + 1))) := inR_take hin.out hz ⟨hr1, hr2⟩
            have HST := Lib.hid (wid_take (gs l) xt hz)
            obtain ⟨j, rfl⟩ : ∃ j : Nat, z = j := ⟨z.toNat, by omega⟩
            have hjl : j < l.length := by omega
            obtain ⟨y, hY⟩ : ∃ y, l[j]? = some y := ⟨_, List.getElem?_eq_getElem hjl⟩
            obtain ⟨_, b2, o2, hb2e, hb2l, r0, r1, r2, r3, _⟩ := HNr.out j y hY
            have hST2 := HST.out
            rw [wAt_at hY] at hST2
            have HST3 := Lib.hid hST2
            cases hb2e
            have hj1 : (j : Int) < (l.length : Int) := by omega
            clear hz hY hST2 HST
            generalize wid (gs l) xt (xc.take q) = s at *
            go_wp2_with fail
            go_round
            case rel => exact ⟨q + 1, by omega, by go_num, by rw [HST3.out], hnew⟩
            case measure => simp [intOf]; omega
          · have hnot : Hid (¬ OkTo (gs l) (gs l).length) := not_inR (gs_at HX.out) hz hr
            generalize wid (gs l) xt (xc.take q) = s at *
            by_cases hz0 : z < 0
            · clear hz hr
              go_wp2_with fail
              go_ret
              exact ErrPost.bad hnot.out rfl HBW1.out
            · have hz3 : (k : Int) - 1 < z := by omega
              clear hz hr
              go_wp2_with fail
              go_ret
              exact ErrPost.bad hnot.out rfl HBW1.out
        · obtain rfl : q = xc.length := by omega
          have hall : Hid (InR k xc) := by have := hin.out; rwa [List.take_length] at this
          have hwd : wid (gs l) xt (xc.take xc.length) = wid (gs l) xt xc := by rw [List.take_length]
          rw [hwd]
          clear hwd hin
          by_cases hweq : xw = wid (gs l) xt xc
          case neg =>
            have hnot : Hid (¬ OkTo (gs l) (gs l).length) := not_okTo (gs_at HX.out) (fun h => hweq h.2.2)
            have e1 : (wid (gs l) xt xc != xw) = true := by simp; exact fun h => hweq h.symm
            have e2 : (wid (gs l) xt xc == xw) = false := by simp; exact fun h => hweq h.symm
            clear hweq
            generalize wid (gs l) xt xc = s at *
            go_wp2_with fail
            go_ret
            exact ErrPost.bad hnot.out rfl HBW1.out
          case pos =>
            by_cases hwf : wfN xk xt xc.length = true
            case neg =>
              have hnot : Hid (¬ OkTo (gs l) (gs l).length) := not_okTo (gs_at HX.out) (fun h => hwf h.2.1)
              subst hweq
              rcases wfN_bad hwf with ⟨h100, hl0⟩ | ⟨h100, hl0⟩
              all_goals
                clear hwf
                generalize wid (gs l) xt xc = s at *
                go_wp2_with fail
                go_ret
                exact ErrPost.bad hnot.out rfl HBW1.out
            case pos =>
              have HC : Hid (xw = wid (gs l) xt xc) := hweq
              have HWF := Lib.hid hwf
              subst hweq
              have hgood := wfN_good hwf
              clear hwf
              obtain ⟨X, hXX⟩ : ∃ X : G, X = ⟨xk, wid (gs l) xt xc, xt, xc⟩ := ⟨_, rfl⟩
              have HXX : True := trivial
              have HLX : Hid ((gs l)[k]? = some X) := by show _ = _; rw [hXX]; exact gs_at HX.out
              have HOKX : Hid (NoDup (gs l) k X → OkAt (gs l) k X) := by
                intro h
                rw [hXX] at h ⊢
                exact ok_of hok.out hall.out HWF.out HC.out h
              have HGV : Hid (gv X xa xcap = .agg #[.int .i64 xk, .int .i64 (wid (gs l) xt xc), .string xt, .slice xa xc.length xcap]) := by show _ = _; rw [hXX]
              have HXC : Hid (X.c = xc) := by show _ = _; rw [hXX]
              clear hXX HXX
              generalize hV : wid (gs l) xt xc = V at *
              clear hV
              rcases hgood with ⟨h100, hl0⟩ | ⟨h100, rfl⟩
              all_goals
                go_upto_region 16 with fail
                go_wp2_with fail
                go_loopw [79] (fun p wr => ∃ j : Nat, j ≤ k ∧ p = .int .i64 j ∧ Hid (NoDup (gs l) j X) ∧ Below W1.heap.size W1 wr)
                  (fun p _ => k - (intOf p).toNat)
                case atStart => exact ⟨0, Nat.zero_le _, rfl, fun i y hi => absurd hi (by omega), by rw [hW1]; exact Below.refl _ _⟩
                case round =>
                  clear hW1
                  obtain ⟨j, hj, rfl, hnd, hb3⟩ := hrel
                  have hz1 := HZ1.out
                  have hz3 := hb3.size
                  have HB3 : Hid (Below wo.heap.size wo wr) := HB2.out.trans (hb3.mono (by omega))
                  have HB3w : Hid (Below w.heap.size w wr) := hbw.out.trans (HB3.out.mono hbw.out.size)
                  have c0 := (hb3.cell (p := ⟨wo.heap.size, 0, none⟩) (by simp; omega)).trans HF1.out.1
                  have c1 := (hb3.cell (p := ⟨wo.heap.size, 1, none⟩) (by simp; omega)).trans HF1.out.2.1
                  have c2 := (hb3.cell (p := ⟨wo.heap.size, 2, none⟩) (by simp; omega)).trans HF1.out.2.2.1
                  have c3 := (hb3.cell (p := ⟨wo.heap.size, 3, none⟩) (by simp; omega)).trans HF1.out.2.2.2
                  have g3 : wo.heap.size < wr.heap.size := by omega
                  have HB4 := Lib.hid hb3
                  clear hz1 hz3 hb3
                  by_cases hlt3 : j < k
                  · have hjl : j < l.length := by omega
                    obtain ⟨y, hY⟩ : ∃ y, l[j]? = some y := ⟨_, List.getElem?_eq_getElem hjl⟩
                    obtain ⟨⟨_, _, _, hc8, _⟩, b2, o2, hb2e, hb2l, r0, r1, r2, r3, rI⟩ := (HNr.out.to HB3.out) j y hY
                    cases hb2e
                    have hj0 : (0 : Int) ≤ (j : Int) := by omega
                    have hj1 : (j : Int) < (k : Int) := by omega
                    have HY := Lib.hid hY
                    have HL : Hid (y.g.c.length ≤ maxLen) := by show _ ≤ _; unfold maxLen; omega
                    have HRI := Lib.hid (rI.alloc (nodeBox y.g.k y.g.w y.g.t (.slice y.a y.g.c.length y.cap)))
                    have HXI := Lib.hid ((HI.out.to HB3.out).alloc (nodeBox y.g.k y.g.w y.g.t (.slice y.a y.g.c.length y.cap)))
                    clear hY rI hc8
                    go_wp2_with fail
                    change Calls _ _ _ (wr.alloc (nodeBox y.g.k y.g.w y.g.t (.slice y.a y.g.c.length y.cap))) _
                    by_cases heq : y.g.k = X.k ∧ y.g.w = X.w ∧ y.g.t = X.t ∧ y.g.c = X.c
                    · have hyx : y.g = X := by
                        obtain ⟨h1, h2, h3, h4⟩ := heq
                        cases hyg : y.g; cases X
                        rw [hyg] at h1 h2 h3 h4
                        simp only at h1 h2 h3 h4
                        rw [h1, h2, h3, h4]
                      have hnot : Hid (¬ OkTo (gs l) (gs l).length) := dup_bad HLX.out (gs_at HY.out) hlt3 heq
                      have hI' : ∀ c', c' = xc → Ints (wr.alloc (nodeBox y.g.k y.g.w y.g.t (.slice y.a y.g.c.length y.cap))) (· < (wr.alloc (nodeBox y.g.k y.g.w y.g.t (.slice y.a y.g.c.length y.cap))).heap.size) xa c' := fun c' h => by subst h; exact HXI.out
                      have KC := green_yes y.g y.a y.cap xa xcap (wr.alloc (nodeBox y.g.k y.g.w y.g.t (.slice y.a y.g.c.length y.cap))) HL.out HRI.out (hI' _ (by rw [hyx, HXC.out]))
                      rw [show gv y.g xa xcap = gv X xa xcap from by rw [hyx], HGV.out] at KC
                      refine KC.mono ?_
                      rintro e w5 ⟨rfl, hb5⟩
                      have hfin : Hid (Below w.heap.size w w5) := (below_al HB3w.out (Nat.le_refl _) _).trans (hb5.mono (by have := HB3w.out.size; simp; omega))
                      clear hb5 KC heq hyx
                      go_wp2_with fail
                      go_ret
                      exact ErrPost.bad hnot.out rfl hfin.out
                    · have KC := green_no y.g X y.a y.cap xa xcap (wr.alloc (nodeBox y.g.k y.g.w y.g.t (.slice y.a y.g.c.length y.cap))) heq HL.out HRI.out (by rw [HXC.out]; exact HXI.out)
                      rw [HGV.out] at KC
                      have hnd' : Hid (NoDup (gs l) (j + 1) X) := hnd.out.step (gs_at HY.out) heq
                      refine KC.mono ?_
                      rintro e w5 ⟨rfl, hb5⟩
                      have hfin : Hid (Below W1.heap.size W1 w5) := (below_al HB4.out (Nat.le_refl _) _).trans (hb5.mono (by have := HB4.out.size; simp; omega))
                      clear hb5 KC heq
                      go_wp2_with fail
                      go_roundw
                      case rel => exact ⟨j + 1, by omega, by go_num, hnd', hfin.out⟩
                      case measure => simp [intOf]; omega
                  · obtain rfl : j = k := by omega
                    have hok' : Hid (OkTo (gs l) (j + 1)) := hok.out.step HLX.out (HOKX.out hnd.out)
                    have hfin : Hid (Below (w.heap.size + 1) W0 wr) := HB1.out.trans (HB3.out.mono (by omega))
                    clear c0 c1 c2 c3 hj hlt3 p0 p1 p2 p3 f1
                    go_wp2_with fail
                    go_roundw
                    case rel => exact ⟨j + 1, by omega, by go_num, hok', hfin.out⟩
                    case measure => simp [intOf]; omega
    · obtain rfl : k = l.length := by omega
      go_wp2_with fail
      go_ret
      exact ErrPost.good hok.out rfl hbw.out
end Go.Proofs.Ytjnnilidnceplaa
