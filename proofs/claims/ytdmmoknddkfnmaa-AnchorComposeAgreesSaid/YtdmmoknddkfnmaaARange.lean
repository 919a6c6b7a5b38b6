/-
  anchor.MapRange by its contract.
-/
import Derived.Test.YtdmmoknddkfnmaaAMap
import Derived.OwnWalk
namespace Go.Proofs.Ytdmmoknddkfnmaa
open Go.RowKit

/-- The error of MapRange. -/
def errR (l : List Ed) (s e : Int) : Int := if errA l ≠ 0 then errA l else if s < 0 ∨ e < s then 1 else 0
def rgS (l : List Ed) (s e : Int) (x : Bool) : Int := if errR l s e = 0 then wrap64 (mp s (!x) l) else 0
def rgE (l : List Ed) (s e : Int) (x : Bool) : Int := if errR l s e = 0 then max (wrap64 (mp s (!x) l)) (wrap64 (mp e x l)) else 0

theorem errR_bad {l : List Ed} {s e : Int} (h : errA l ≠ 0) : errR l s e = errA l := by unfold errR; rw [if_pos h]
theorem errR_no {l : List Ed} {s e : Int} (h : errA l = 0) (h2 : s < 0 ∨ e < s) : errR l s e = 1 := by unfold errR; rw [if_neg (by simp [h]), if_pos h2]
theorem errR_ok {l : List Ed} {s e : Int} (h : errA l = 0) (h2 : ¬ (s < 0 ∨ e < s)) : errR l s e = 0 := by unfold errR; rw [if_neg (by simp [h]), if_neg h2]
theorem rg_bad {l : List Ed} {s e : Int} {x : Bool} (h : errR l s e ≠ 0) : rgS l s e x = 0 ∧ rgE l s e x = 0 := by unfold rgS rgE; rw [if_neg h, if_neg h]; exact ⟨rfl, rfl⟩
theorem rg_ok {l : List Ed} {s e : Int} {x : Bool} (h : errR l s e = 0) : rgS l s e x = wrap64 (mp s (!x) l) ∧ rgE l s e x = max (wrap64 (mp s (!x) l)) (wrap64 (mp e x l)) := by unfold rgS rgE; rw [if_pos h, if_pos h]; exact ⟨rfl, rfl⟩

set_option maxHeartbeats 1000000 in
theorem range_any (a : Option Addr) (cap : Nat) (l : List Ed) (s t : Int) (x : Bool) (w : World) (hl : l.length ≤ maxLen) (hs : -9223372036854775808 ≤ s ∧ s ≤ 9223372036854775807) (ht : -9223372036854775808 ≤ t ∧ t ≤ 9223372036854775807) (h : Eds w w.heap.size a l) :
    Calls Try.prog 15 #[.slice a l.length cap, .int .i64 s, .int .i64 t, .bool x] w fun e w' => e = .returned (.tuple #[.int .i64 (rgS l s t x), .int .i64 (rgE l s t x), .int .i64 (errR l s t)]) ∧ Below w.heap.size w w' := by
  have hv := aval_any a cap l w hl h
  by_cases h0 : errA l = 0
  · have HV := Lib.hid (h0 ▸ hv)
    have HL := Lib.hid (errA_zero h0)
    have H0 := Lib.hid h0
    clear hv h0
    by_cases hneg : s < 0 ∨ t < s
    · have HE := Lib.hid (errR_no H0.out hneg)
      have HM := Lib.hid (rg_bad (l := l) (s := s) (e := t) (x := x) (by rw [HE.out]; decide))
      clear H0
      by_cases c1 : s < 0
      · clear hneg
        go_enter Try.func15, Try.ntmps15
        go_wp2_with fail
        refine HV.out.mono ?_
        rintro e w' ⟨rfl, hb⟩
        go_wp2_with fail
        go_ret3
        exact ⟨by rw [HE.out, HM.out.1, HM.out.2]; rfl, hb⟩
      · have c2 : t < s := by omega
        clear hneg
        go_enter Try.func15, Try.ntmps15
        go_wp2_with fail
        refine HV.out.mono ?_
        rintro e w' ⟨rfl, hb⟩
        go_wp2_with fail
        go_ret3
        exact ⟨by rw [HE.out, HM.out.1, HM.out.2]; rfl, hb⟩
    · have HE := Lib.hid (errR_ok H0.out hneg)
      have HM := Lib.hid (rg_ok (x := x) HE.out)
      have HS := Lib.hid hs
      have HT := Lib.hid ht
      have c1 : ¬ s < 0 := by omega
      have c2 : ¬ t < s := by omega
      have HK := Lib.hid (fun W (hW : Eds W W.heap.size a l) => moved_any a cap l s (!x) W (by have := HL.out.1; omega) HS.out hW)
      have HK2 := Lib.hid (fun W (hW : Eds W W.heap.size a l) => moved_any a cap l t x W (by have := HL.out.1; omega) HT.out hW)
      clear H0 hs ht hneg
      generalize hp : wrap64 (mp s (!x) l) = p at *
      generalize hq : wrap64 (mp t x l) = q at *
      clear hp hq
      rcases Int.lt_or_le p q with c | c
      · have HX := Lib.hid (Int.max_eq_right (by omega : p ≤ q))
        go_enter Try.func15, Try.ntmps15
        go_wp2_with fail
        refine HV.out.mono ?_
        rintro e w' ⟨rfl, hb⟩
        go_wp2_with fail
        refine (HK.out w' (h.fwd hb)).mono ?_
        rintro e w2 ⟨rfl, hb2⟩
        have hb3 := hb.trans (hb2.mono hb.size)
        clear hb2
        go_wp2_with fail
        refine (HK2.out w2 (h.fwd hb3)).mono ?_
        rintro e w3 ⟨rfl, hb4⟩
        have hb5 := hb3.trans (hb4.mono hb3.size)
        clear hb4
        go_wp2_with fail
        go_ret3
        exact ⟨by rw [HE.out, HM.out.1, HM.out.2, HX.out]; rfl, hb5⟩
      · have HX := Lib.hid (Int.max_eq_left (by omega : q ≤ p))
        go_enter Try.func15, Try.ntmps15
        go_wp2_with fail
        refine HV.out.mono ?_
        rintro e w' ⟨rfl, hb⟩
        go_wp2_with fail
        refine (HK.out w' (h.fwd hb)).mono ?_
        rintro e w2 ⟨rfl, hb2⟩
        have hb3 := hb.trans (hb2.mono hb.size)
        clear hb2
        go_wp2_with fail
        refine (HK2.out w2 (h.fwd hb3)).mono ?_
        rintro e w3 ⟨rfl, hb4⟩
        have hb5 := hb3.trans (hb4.mono hb3.size)
        clear hb4
        go_wp2_with fail
        go_ret3
        exact ⟨by rw [HE.out, HM.out.1, HM.out.2, HX.out]; rfl, hb5⟩
  · have HE := Lib.hid (errR_bad (s := s) (e := t) h0)
    have HM := Lib.hid (rg_bad (l := l) (s := s) (e := t) (x := x) (by rw [HE.out]; exact h0))
    generalize errA l = v at *
    have hv1 : (v != 0) = true := by simpa using h0
    have HV := Lib.hid hv
    clear hv h0
    go_enter Try.func15, Try.ntmps15
    go_wp2_with fail
    refine HV.out.mono ?_
    rintro e w' ⟨rfl, hb⟩
    go_wp2_with fail
    go_ret3
    exact ⟨by rw [HE.out, HM.out.1, HM.out.2]; rfl, hb⟩
end Go.Proofs.Ytdmmoknddkfnmaa
