/-
  anchor.MapAll by its contract.
-/
import Derived.Test.YtdmmoknddkfnmaaAMap
import Derived.Test.YtdmmoknddkfnmaaInts
import Derived.Laws.AppendOwnNone
namespace Go.Proofs.Ytdmmoknddkfnmaa
open Go.RowKit

def negB (zs : List Int) : Bool := zs.any (fun z => decide (z < 0))
/-- The error of MapAll. -/
def errL (l : List Ed) (zs : List Int) : Int := if errA l ≠ 0 then errA l else if negB zs then 1 else 0
def allL (l : List Ed) (r : Bool) (zs : List Int) : List Int := zs.map (fun o => wrap64 (mp o r l))
def allV (l : List Ed) (zs : List Int) (r : Bool) : List Int := if errL l zs = 0 then allL l r zs else []

theorem allL_in (l : List Ed) (r : Bool) (zs : List Int) : InI (allL l r zs) := by
  intro z hz
  obtain ⟨o, _, rfl⟩ := List.mem_map.1 hz
  exact wrap_in64 _

theorem allV_in (l : List Ed) (r : Bool) (zs : List Int) : InI (allV l zs r) := by
  unfold allV; split
  · exact allL_in l r zs
  · intro z hz; simp at hz

theorem errL_bad {l : List Ed} {zs : List Int} (h : errA l ≠ 0) : errL l zs = errA l := by unfold errL; rw [if_pos h]
theorem errL_neg {l : List Ed} {zs : List Int} (h : errA l = 0) (h2 : negB zs = true) : errL l zs = 1 := by unfold errL; rw [if_neg (by simp [h]), if_pos h2]
theorem errL_ok {l : List Ed} {zs : List Int} (h : errA l = 0) (h2 : negB zs = false) : errL l zs = 0 := by unfold errL; rw [if_neg (by simp [h]), if_neg (by simp [h2])]
theorem allV_bad {l : List Ed} {zs : List Int} {r : Bool} (h : errL l zs ≠ 0) : allV l zs r = [] := by unfold allV; rw [if_neg h]
theorem allV_ok {l : List Ed} {zs : List Int} {r : Bool} (h : errL l zs = 0) : allV l zs r = allL l r zs := by unfold allV; rw [if_pos h]

theorem all_step {l : List Ed} {r : Bool} {zs : List Int} {acc : List Int} {k : Nat} {z : Int} (hz : zs[k]? = some z) (h : allL l r zs = acc ++ allL l r (zs.drop k)) :
    allL l r zs = (acc ++ [wrap64 (mp z r l)]) ++ allL l r (zs.drop (k + 1)) := by
  rw [h, drop_at hz]; simp [allL]

theorem neg_step {zs : List Int} {k : Nat} {z : Int} (hz : zs[k]? = some z) (h : negB zs = negB (zs.drop k)) : negB zs = (decide (z < 0) || negB (zs.drop (k + 1))) := by
  rw [h, drop_at hz]; simp [negB]

set_option maxHeartbeats 1000000 in
theorem all_any (a : Option Addr) (cap : Nat) (l : List Ed) (a2 : Option Addr) (cap2 : Nat) (zs : List Int) (r : Bool) (w : World) (hl : l.length ≤ maxLen) (hreach : zs.length * 8 ≤ 140737488351232) (h : Eds w w.heap.size a l) (hI : Ints w w.heap.size a2 zs) :
    Calls Try.prog 16 #[.slice a l.length cap, .slice a2 zs.length cap2, .bool r] w fun e w' => ∃ v, e = .returned (.tuple #[v, .int .i64 (errL l zs)]) ∧ Hid (OwnsI w' w.heap.size v (allV l zs r)) ∧ Below w.heap.size w w' := by
  have hv := aval_any a cap l w hl h
  by_cases h0 : errA l = 0
  · obtain ⟨i0, hi, hz0, hz1, hz2⟩ := info_parts info_int
    have HV := Lib.hid (h0 ▸ hv)
    have HL := Lib.hid (errA_zero h0)
    have HN : Hid (negB zs = true → errL l zs = 1) := errL_neg h0
    have HY : Hid (negB zs = false → errL l zs = 0) := errL_ok h0
    have HK := Lib.hid (fun o W ho (hW : Eds W W.heap.size a l) => moved_any a cap l o r W (by have := HL.out.1; omega) ho hW)
    have hmk := fun W => run_make (P := Try.prog) W 39 3 i0 _ Try.underlying39 hi hz0 .i64 .i64 0 zs.length (by omega) (by omega) (by rw [hz2]; omega) (by omega)
    clear hv h0
    go_enter Try.func16, Try.ntmps16
    go_wp2_with fail
    refine HV.out.mono ?_
    rintro e w1 ⟨rfl, hb1⟩
    clear HV
    have hz1' := hb1.size
    have h1 := h.fwd hb1
    have hI1 := hI.to hb1
    clear h hI
    go_wp2_with fail
    go_loopw [9, 22] (fun v i wr => ∃ (k : Nat) (acc : List Int), k ≤ zs.length ∧ i = .int .i64 k ∧ acc.length ≤ k ∧ Hid (allL l r zs = acc ++ allL l r (zs.drop k)) ∧ Hid (negB zs = negB (zs.drop k)) ∧ Hid (OwnsI wr w1.heap.size v acc) ∧ Below w1.heap.size w1 wr)
      (fun _ i _ => zs.length - (intOf i).toNat)
    case atStart => exact ⟨0, [], Nat.zero_le _, rfl, Nat.le_refl _, rfl, rfl, World.ownsRow_made w1 _ _ (Nat.le_refl _) (by unfold maxLen; omega) (by rw [size_madeCells, Nat.mul_one]), (Below.refl _ _).alloc (Nat.le_refl _) _⟩
    case round =>
      obtain ⟨k, acc, hk, rfl, hak, hacc, hneg, hown, hb⟩ := hrel
      have hzw := hb.size
      by_cases hlt : k < zs.length
      · have hx : zs[k]? = some zs[k] := List.getElem?_eq_getElem hlt
        obtain ⟨x, hX⟩ : ∃ x, x = zs[k] := ⟨_, rfl⟩
        rw [← hX] at hx
        clear hX
        obtain ⟨hin, b, oo, rfl, hbl, g0⟩ := (hI1.below hb) k x hx
        obtain ⟨hin1, hin2⟩ := hin
        have hacc2 := Lib.hid (all_step hx hacc.out)
        have hneg2 := Lib.hid (neg_step hx hneg.out)
        clear hacc hneg hx
        by_cases c : x < 0
        · have HE := Lib.hid (HN.out (by rw [hneg2.out, decide_eq_true c]; rfl))
          have HA : Hid (allV l zs r = []) := allV_bad (by rw [HE.out]; decide)
          clear HN HY hneg2
          go_wp2_with fail
          go_ret2
          exact ⟨_, by rw [HE.out]; rfl, by rw [HA.out]; exact OwnsI.nil _ _, hb1.trans (hb.mono hz1')⟩
        · have hneg3 : Hid (negB zs = negB (zs.drop (k + 1))) := by show _ = _; rw [hneg2.out, decide_eq_false c]; rfl
          clear hneg2
          go_wp2_with fail
          refine (HK.out x wr ⟨hin1, hin2⟩ (h1.fwd hb)).mono ?_
          rintro e w2 ⟨rfl, hb2⟩
          have hb3 := hb.trans (hb2.mono hzw)
          have hown2 := Lib.hid (hown.out.below hb2)
          have hz3 := hb3.size
          clear hb2 hown
          go_wp2_with (at_builtin; refine wpList_append_own _ rfl _ _ 39 rfl w1.heap.size 3 i0 _ 1 8 Try.underlying39 hi hz0 hz1 hz2 rfl (by decide) _ _ _ rfl (hown2.out.alloc _) ⟨w2.heap.size, 0, none⟩ 1 1 [.int .i64 (wrap64 (mp x r l))] rfl rfl (World.news_of_block (heap_alloc_new w2 _)) (by simp [Value.oneCell']) (by unfold maxLen; omega) (by omega) (by simp; omega) ?_)
          intro v' w3 hown' hgrow _
          have hown3 : Hid (OwnsI w3 w1.heap.size v' (acc ++ [wrap64 (mp x r l)])) := by
            show World.ownsRow _ _ _ _ _ _ _
            rw [List.length_append, iCells_append]
            exact hown'
          have hb4 : Below w1.heap.size w1 w3 := (hb3.alloc hz3 _).grown hgrow (by simp; omega) (fun j hj => (hown2.out.lt j hj).1)
          clear hown' hgrow hown2
          go_wp2_with fail
          go_roundw
          case rel => exact ⟨k + 1, _, by omega, by go_num, by simp; omega, hacc2, hneg3, hown3, hb4⟩
          case measure => simp [intOf]; omega
      · have HE := Lib.hid (HY.out (by rw [hneg.out, List.drop_eq_nil_of_le (by omega)]; rfl))
        have HA : Hid (allV l zs r = allL l r zs) := allV_ok HE.out
        have hfin : Hid (OwnsI wr w1.heap.size u9 (allV l zs r)) := by
          have := hacc.out
          rw [List.drop_eq_nil_of_le (by omega), show allL l r [] = [] from rfl, List.append_nil] at this
          rw [HA.out, this]
          exact hown
        clear HN HY hneg hacc hown
        go_wp2_with fail
        go_ret2
        exact ⟨_, by rw [HE.out]; rfl, ⟨hfin.out.1, hfin.out.2.imp id (fun ⟨g, c, u, q1, q2, q3⟩ => ⟨g, c, u, q1, by omega, q3⟩)⟩, hb1.trans (hb.mono hz1')⟩
  · have HE := Lib.hid (errL_bad (zs := zs) h0)
    have HA : Hid (allV l zs r = []) := allV_bad (by rw [HE.out]; exact h0)
    generalize errA l = v at *
    have hv1 : (v != 0) = true := by simpa using h0
    have HV := Lib.hid hv
    clear hv h0
    go_enter Try.func16, Try.ntmps16
    go_wp2_with fail
    refine HV.out.mono ?_
    rintro e w' ⟨rfl, hb⟩
    go_wp2_with fail
    go_ret2
    exact ⟨_, by rw [HE.out]; rfl, by rw [HA.out]; exact OwnsI.nil _ _, hb⟩
end Go.Proofs.Ytdmmoknddkfnmaa
