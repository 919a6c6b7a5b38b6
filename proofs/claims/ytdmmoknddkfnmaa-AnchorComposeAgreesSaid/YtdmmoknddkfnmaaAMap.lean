/-
  anchor.Map and anchor.MapRange by their contracts.
-/
import Derived.Test.YtdmmoknddkfnmaaAVal
import Derived.Test.YtdmmoknddkfnmaaMoved
import Derived.Deep.DeepCutAuto
namespace Go.Proofs.Ytdmmoknddkfnmaa
open Go.RowKit

theorem errM_bad {l : List Ed} {o : Int} (h : errA l ≠ 0) : errM l o = errA l := by unfold errM; rw [if_pos h]
theorem errM_neg {l : List Ed} {o : Int} (h : errA l = 0) (h2 : o < 0) : errM l o = 1 := by unfold errM; rw [if_neg (by simp [h]), if_pos h2]
theorem errM_ok {l : List Ed} {o : Int} (h : errA l = 0) (h2 : ¬ o < 0) : errM l o = 0 := by unfold errM; rw [if_neg (by simp [h]), if_neg h2]
theorem mapV_bad {l : List Ed} {o : Int} {r : Bool} (h : errM l o ≠ 0) : mapV l o r = 0 := by unfold mapV; rw [if_neg h]
theorem mapV_ok {l : List Ed} {o : Int} {r : Bool} (h : errM l o = 0) : mapV l o r = wrap64 (mp o r l) := by unfold mapV; rw [if_pos h]

theorem Eds.up' {w : World} {B B' : Nat} {a : Option Addr} {l : List Ed} (h : Eds w B a l) (hB : B ≤ B') : Eds w B' a l := by
  intro i x hx
  obtain ⟨p, b, o, q1, q2, q3⟩ := h i x hx
  exact ⟨p, b, o, q1, Nat.lt_of_lt_of_le q2 hB, q3⟩

theorem Eds.fwd {w w' : World} {a : Option Addr} {l : List Ed} (h : Eds w w.heap.size a l) (hb : Below w.heap.size w w') : Eds w' w'.heap.size a l := (h.below hb).up' hb.size

set_option maxHeartbeats 1000000 in
theorem map_any (a : Option Addr) (cap : Nat) (l : List Ed) (o : Int) (r : Bool) (w : World) (hl : l.length ≤ maxLen) (ho : -9223372036854775808 ≤ o ∧ o ≤ 9223372036854775807) (h : Eds w w.heap.size a l) :
    Calls Try.prog 9 #[.slice a l.length cap, .int .i64 o, .bool r] w fun e w' => e = .returned (.tuple #[.int .i64 (mapV l o r), .int .i64 (errM l o)]) ∧ Below w.heap.size w w' := by
  have hv := aval_any a cap l w hl h
  by_cases h0 : errA l = 0
  · have HV := Lib.hid (h0 ▸ hv)
    have HL := Lib.hid (errA_zero h0)
    have H0 := Lib.hid h0
    clear hv h0
    by_cases hneg : o < 0
    · have HE := Lib.hid (errM_neg H0.out hneg)
      have HM : Hid (mapV l o r = 0) := mapV_bad (by rw [HE.out]; decide)
      clear H0
      go_enter Try.func9, Try.ntmps9
      go_wp2_with fail
      refine HV.out.mono ?_
      rintro e w' ⟨rfl, hb⟩
      go_wp2_with fail
      go_ret2
      exact ⟨by rw [HE.out, HM.out]; rfl, hb⟩
    · have HE := Lib.hid (errM_ok H0.out hneg)
      have HM : Hid (mapV l o r = wrap64 (mp o r l)) := mapV_ok HE.out
      have HO := Lib.hid ho
      clear H0 ho
      have hK := fun W (hW : Eds W W.heap.size a l) => moved_any a cap l o r W (by have := HL.out.1; omega) HO.out hW
      have HK := Lib.hid hK
      clear hK
      go_enter Try.func9, Try.ntmps9
      go_wp2_with fail
      refine HV.out.mono ?_
      rintro e w' ⟨rfl, hb⟩
      go_wp2_with fail
      refine (HK.out w' (h.fwd hb)).mono ?_
      rintro e w2 ⟨rfl, hb2⟩
      go_wp2_with fail
      go_ret2
      exact ⟨by rw [HE.out, HM.out]; rfl, hb.trans (hb2.mono hb.size)⟩
  · have HE := Lib.hid (errM_bad (o := o) h0)
    have HM : Hid (mapV l o r = 0) := mapV_bad (by rw [HE.out]; exact h0)
    generalize errA l = v at *
    have hv1 : (v != 0) = true := by simpa using h0
    have HV := Lib.hid hv
    clear hv h0
    go_enter Try.func9, Try.ntmps9
    go_wp2_with fail
    refine HV.out.mono ?_
    rintro e w' ⟨rfl, hb⟩
    go_wp2_with fail
    go_ret2
    exact ⟨by rw [HE.out, HM.out]; rfl, hb⟩
end Go.Proofs.Ytdmmoknddkfnmaa
