/-
  indexNodes and Validate of the program by their contracts.
-/
import Derived.Test.YtbgahkicinkgfaaGreatGtValid
import Derived.Test.YtbgahkicinkgfaaGreatGtSame
namespace Go.Proofs.YtbgahkicinkgfaaGreat
open Go.RowKit

/-- What indexNodes leaves. -/
def IdxPost (l : List N) (w : World) (e : Ending) (w' : World) : Prop :=
  (OkTo (gs l) l.length ∧ ∃ mb, e = .returned (.tuple #[.map (some mb), .int .i64 0]) ∧ IdxAt w' mb (gs l) ∧ w.heap.size ≤ mb ∧ Below w.heap.size w w') ∨
  (¬ OkTo (gs l) l.length ∧ e = .returned (.tuple #[.map none, .int .i64 3]) ∧ Below w.heap.size w w')

theorem place_take_some {l : List G} {k j : Nat} {x : G} (hx : l[k]? = some x) (hp : place (l.take k) x.k x.t x.c = some j) : ¬ OkTo l l.length := by
  intro h
  have hk : k < l.length := (List.getElem?_eq_some_iff.1 hx).1
  obtain ⟨y, hy, e1, e2, e3, _⟩ := place_some hp
  have hj : j < k := by
    have := (List.getElem?_eq_some_iff.1 hy).1
    simp at this
    omega
  rw [List.getElem?_take_of_lt hj] at hy
  exact (h k x hk hx).2.2.2 j y hj hy ⟨e1, e2, e3⟩

theorem place_take_none {l : List G} {k : Nat} {x : G} (hp : place (l.take k) x.k x.t x.c = none) : ∀ j y, j < k → l[j]? = some y → ¬ same y x := by
  intro j y hj hy hs
  rw [← List.getElem?_take_of_lt hj] at hy
  exact place_none hp j y hy hs

theorem okTo_small {l : List G} {k : Nat} (h : OkTo l k) (hk : k ≤ 60000) : ∀ x, x ∈ l.take k → InR 60000 x.c := by
  intro x hx
  obtain ⟨i, hi⟩ := List.getElem?_of_mem hx
  have hlt : i < (l.take k).length := (List.getElem?_eq_some_iff.1 hi).1
  simp at hlt
  rw [List.getElem?_take_of_lt (by omega)] at hi
  exact (h i x (by omega) hi).1.mono (by omega)

theorem not_okTo {l : List G} {k : Nat} {x : G} (hx : l[k]? = some x) (h : ¬ (InR k x.c ∧ wfN x.k x.t x.c.length = true ∧ x.w = wid l x.t x.c)) : ¬ OkTo l l.length := by
  intro ho
  have hk : k < l.length := (List.getElem?_eq_some_iff.1 hx).1
  have := ho k x hk hx
  exact h ⟨this.1, this.2.1, this.2.2.1⟩

set_option maxHeartbeats 4000000 in
theorem index_any (l : List N) (a : Option Addr) (cap : Nat) (w : World) (hlen : l.length ≤ 4000) (hn : Nodes w (· < w.heap.size) a l) :
    Calls Tryz.prog 19 #[.agg #[.slice a l.length cap]] w (IdxPost l w) := by
  have HN := Lib.hid hn
  clear hn
  have hl : (l.length : Int) ≤ 4000 := by omega
  have hmm := @run_makeMap Tryz.prog
  go_enter Tryz.func19, Tryz.ntmps19
  go_wp2_with fail
  obtain ⟨W0, hW0⟩ : ∃ W0, W0 = w.alloc (oneBox (.slice a l.length cap)) := ⟨_, rfl⟩
  have HB0 : Hid (Below w.heap.size w W0) := by rw [hW0]; exact (Below.refl _ _).alloc (Nat.le_refl _) _
  have HZ0 : Hid (W0.heap.size = w.heap.size + 1) := by rw [hW0]; show _ = _; simp
  have HC0 : Hid (W0.cell? ⟨w.heap.size, 0, none⟩ = some (.slice a l.length cap)) := by
    rw [hW0]
    show _ = _
    simp [oneBox, go_sem]
  go_loopw [18] (fun i wr => ∃ k : Nat, k ≤ l.length ∧ i = .int .i64 k ∧ Hid (OkTo (gs l) k) ∧ Hid (IdxAt wr (w.heap.size + 1) ((gs l).take k)) ∧ Below (w.heap.size + 1) W0 wr)
    (fun i _ => l.length - (intOf i).toNat)
  case atStart =>
    refine ⟨0, Nat.zero_le _, rfl, OkTo.zero _, ?_, ?_⟩
    · have := idxAt_made W0
      rw [HZ0.out] at this
      rw [hW0] at this
      exact this
    · rw [hW0]
      exact (Below.refl _ _).alloc (by simp) _
  case round =>
    clear hW0
    obtain ⟨k, hk, rfl, hok, hidx, hb⟩ := hrel
    have hz := HZ0.out
    have hzw := hb.size
    have f1 : wr.cell? ⟨w.heap.size, 0, none⟩ = some (.slice a l.length cap) := (hb.cell (p := ⟨_, _, none⟩) (by simp)).trans HC0.out
    have hbw : Hid (Below w.heap.size w wr) := HB0.out.trans (hb.mono (by omega))
    have f2 : w.heap.size + 1 < wr.heap.size := hidx.out.lt
    have f3 : w.heap.size < wr.heap.size := by omega
    have HB1 := Lib.hid hb
    clear hz hzw hb
    by_cases hlt : k < l.length
    · have hx : l[k]? = some l[k] := List.getElem?_eq_getElem hlt
      obtain ⟨x, hX⟩ : ∃ x, x = l[k] := ⟨_, rfl⟩
      rw [← hX] at hx
      clear hX
      have HX := Lib.hid hx
      have hnr := HN.out.to hbw.out
      obtain ⟨⟨o1, o2, o3, o4, o5⟩, b, o, rfl, _, p0, p1, p2, p3, pI⟩ := hnr k x hx
      have hk0 : (0 : Int) ≤ (k : Int) := by omega
      have hk1 : (k : Int) < (l.length : Int) := by omega
      have HNW := Lib.hid (hnr.alloc (nodeBox x.g.k x.g.w x.g.t (.slice x.a x.g.c.length x.cap)))
      have HIW := Lib.hid (pI.alloc (nodeBox x.g.k x.g.w x.g.t (.slice x.a x.g.c.length x.cap)))
      have HF := Lib.hid (nodeBox_facts wr x.g.k x.g.w x.g.t (.slice x.a x.g.c.length x.cap))
      have HBn : Hid (Below w.heap.size w (wr.alloc (nodeBox x.g.k x.g.w x.g.t (.slice x.a x.g.c.length x.cap)))) := below_al hbw.out (Nat.le_refl _) _
      clear hx hnr pI
      by_cases hv : InR k x.g.c ∧ wfN x.g.k x.g.t x.g.c.length = true ∧ x.g.w = wid (gs l) x.g.t x.g.c
      · have HV := Lib.hid hv
        clear hv
        go_wp2_with fail
        change Calls _ _ _ (wr.alloc (nodeBox x.g.k x.g.w x.g.t (.slice x.a x.g.c.length x.cap))) _
        refine (valid_yes l _ cap k x _ HX.out HNW.out HV.out.1 HV.out.2.1 HV.out.2.2).mono ?_
        rintro e w2 ⟨rfl, hb2⟩
        have hlt2 : wr.heap.size < (wr.alloc (nodeBox x.g.k x.g.w x.g.t (.slice x.a x.g.c.length x.cap))).heap.size := by simp
        have c0 := (hb2.cell (p := ⟨wr.heap.size, 0, none⟩) hlt2).trans HF.out.1
        have c2 := (hb2.cell (p := ⟨wr.heap.size, 2, none⟩) hlt2).trans HF.out.2.2.1
        have c3 := (hb2.cell (p := ⟨wr.heap.size, 3, none⟩) hlt2).trans HF.out.2.2.2
        have hI2 := Lib.hid (HIW.out.to hb2)
        have HB2 : Hid (Below wr.heap.size wr w2) := ((Below.refl _ _).alloc (Nat.le_refl _) _).trans (hb2.mono (by simp))
        have HK : Hid (KeyOk x.g.k x.g.t x.g.c) := ⟨o1, o3, o4, HV.out.1.mono (by omega)⟩
        clear hb2 hlt2 HF HIW HNW HBn
        go_wp2_with fail
        change Calls _ _ _ w2 _
        refine (content_any x.g.k x.g.t x.g.c x.a x.cap w2 HK.out.len HK.out.c hI2.out).mono ?_
        rintro e w3 ⟨rfl, hb3⟩
        have HB3 : Hid (Below wr.heap.size wr w3) := HB2.out.trans (hb3.mono HB2.out.size)
        have hidx3 : IdxAt (w3.alloc (.cells #[.int .i64 x.g.k, .string x.g.t, .string (encB x.g.c)] 81)) (w.heap.size + 1) ((gs l).take k) := (hidx.out.to HB3.out).to ((Below.refl _ _).alloc (Nat.le_refl _) _)
        have hsm := okTo_small hok.out (by omega)
        clear hb3 HB2 hI2
        cases hp : place ((gs l).take k) x.g.k x.g.t x.g.c with
        | some j =>
          have hlook := hidx3.found hp
          unfold keyV at hlook
          have hno : Hid (¬ OkTo (gs l) l.length) := by
            show ¬ _
            rw [← gs_len]
            exact place_take_some (gs_at HX.out) hp
          have hfin : Hid (Below w.heap.size w (w3.alloc (.cells #[.int .i64 x.g.k, .string x.g.t, .string (encB x.g.c)] 81))) := (hbw.out.trans (HB3.out.mono hbw.out.size)).alloc (Nat.le_trans hbw.out.size HB3.out.size) _
          clear hp hidx3 hsm
          go_wp2_with fail
          go_ret2
          exact Or.inr ⟨hno.out, rfl, hfin.out⟩
        | none =>
          have hlook := hidx3.missing hsm hp HK.out
          have hkl : ((gs l).take k).length = k := by rw [List.length_take, gs_len]; omega
          obtain ⟨w5, hst, hidx5, hg5⟩ := hidx3.store hsm (by omega) (x := x.g) hp HK.out
          rw [hkl] at hst
          unfold keyV at hlook hst
          have hok' : Hid (OkTo (gs l) (k + 1)) := hok.out.step (gs_at HX.out) ⟨HV.out.1, HV.out.2.1, HV.out.2.2, place_take_none hp⟩
          have hidx' : Hid (IdxAt w5 (w.heap.size + 1) ((gs l).take (k + 1))) := by
            show IdxAt _ _ _
            rw [List.take_add_one, gs_at HX.out]
            exact hidx5
          have hbfin : Hid (Below (w.heap.size + 1) W0 w5) := by
            have q1 := HB1.out.trans (HB3.out.mono (by omega))
            have q2 := q1.alloc (by have := HB3.out.size; omega) (.cells #[.int .i64 x.g.k, .string x.g.t, .string (encB x.g.c)] 81)
            exact q2.grown hg5 (by have := HB3.out.size; simp; omega) (fun j hj => by cases hj; exact Nat.le_refl _)
          clear hp hidx3 hidx5 hg5 hsm hkl
          go_wp2_with fail
          go_roundw
          case rel => exact ⟨k + 1, by omega, by go_num, hok', hidx', hbfin.out⟩
          case measure => simp [intOf]; omega
      · have HV := Lib.hid hv
        clear hv
        go_wp2_with fail
        change Calls _ _ _ (wr.alloc (nodeBox x.g.k x.g.w x.g.t (.slice x.a x.g.c.length x.cap))) _
        refine (valid_no l _ cap k x _ HX.out HNW.out HV.out).mono ?_
        rintro e w2 ⟨rfl, hb2⟩
        have hfin : Hid (Below w.heap.size w w2) := HBn.out.trans (hb2.mono HBn.out.size)
        go_wp2_with fail
        go_ret2
        exact Or.inr ⟨by rw [← gs_len]; exact not_okTo (gs_at HX.out) HV.out, rfl, hfin.out⟩
    · obtain rfl : k = l.length := by omega
      go_wp2_with fail
      go_ret2
      have h1 := hidx.out
      rw [List.take_of_length_le (by rw [gs_len]; omega)] at h1
      exact Or.inl ⟨hok.out, _, rfl, h1, by omega, hbw.out⟩

theorem index_ok (l : List N) (a : Option Addr) (cap : Nat) (w : World) (hlen : l.length ≤ 4000) (hn : Nodes w (· < w.heap.size) a l) (hok : OkTo (gs l) l.length) :
    Calls Tryz.prog 19 #[.agg #[.slice a l.length cap]] w fun e w' => ∃ mb, e = .returned (.tuple #[.map (some mb), .int .i64 0]) ∧ IdxAt w' mb (gs l) ∧ w.heap.size ≤ mb ∧ Below w.heap.size w w' :=
  (index_any l a cap w hlen hn).mono fun _ _ h => h.elim (fun h => h.2) (fun h => absurd hok h.1)

theorem index_bad (l : List N) (a : Option Addr) (cap : Nat) (w : World) (hlen : l.length ≤ 4000) (hn : Nodes w (· < w.heap.size) a l) (hok : ¬ OkTo (gs l) l.length) :
    Calls Tryz.prog 19 #[.agg #[.slice a l.length cap]] w fun e w' => e = .returned (.tuple #[.map none, .int .i64 3]) ∧ Below w.heap.size w w' :=
  (index_any l a cap w hlen hn).mono fun _ _ h => h.elim (fun h => absurd h.1 hok) (fun h => h.2)

theorem check_ok (l : List N) (a : Option Addr) (cap : Nat) (w : World) (hlen : l.length ≤ 4000) (hn : Nodes w (· < w.heap.size) a l) (hok : OkTo (gs l) l.length) :
    Calls Tryz.prog 12 #[.agg #[.slice a l.length cap]] w fun e w' => e = .returned (.int .i64 0) ∧ Below w.heap.size w w' := by
  have HN := Lib.hid (hn.alloc (oneBox (.slice a l.length cap)))
  have HO := Lib.hid hok
  have HL := Lib.hid hlen
  clear hn hok hlen
  go_enter Tryz.func12, Tryz.ntmps12
  go_wp2_with fail
  change Calls _ _ _ (w.alloc (oneBox (.slice a l.length cap))) _
  refine (index_ok l a cap _ HL.out HN.out HO.out).mono ?_
  rintro e w2 ⟨mb, rfl, _, _, hb2⟩
  have hfin : Hid (Below w.heap.size w w2) := (below_al (Below.refl _ _) (Nat.le_refl _) _).trans (hb2.mono (by simp))
  clear hb2
  go_wp2_with fail
  go_ret
  exact ⟨rfl, hfin.out⟩

theorem check_bad (l : List N) (a : Option Addr) (cap : Nat) (w : World) (hlen : l.length ≤ 4000) (hn : Nodes w (· < w.heap.size) a l) (hok : ¬ OkTo (gs l) l.length) :
    Calls Tryz.prog 12 #[.agg #[.slice a l.length cap]] w fun e w' => e = .returned (.int .i64 3) ∧ Below w.heap.size w w' := by
  have HN := Lib.hid (hn.alloc (oneBox (.slice a l.length cap)))
  have HO := Lib.hid hok
  have HL := Lib.hid hlen
  clear hn hok hlen
  go_enter Tryz.func12, Tryz.ntmps12
  go_wp2_with fail
  change Calls _ _ _ (w.alloc (oneBox (.slice a l.length cap))) _
  refine (index_bad l a cap _ HL.out HN.out HO.out).mono ?_
  rintro e w2 ⟨rfl, hb2⟩
  have hfin : Hid (Below w.heap.size w w2) := (below_al (Below.refl _ _) (Nat.le_refl _) _).trans (hb2.mono (by simp))
  clear hb2
  go_wp2_with fail
  go_ret
  exact ⟨rfl, hfin.out⟩
end Go.Proofs.YtbgahkicinkgfaaGreat
