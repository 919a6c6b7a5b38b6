/-
  Map, MapRange and MapAll return the same results and errors as the reference: AnchorMapEqualsReference, for every list of edits, all offsets and either gravity.
-/
import Derived.Test.YtdmmoknddkfnmaaRefA
import Derived.Test.YtdmmoknddkfnmaaRefN
import Derived.Test.YtdmmoknddkfnmaaRefR
import Derived.Test.YtdmmoknddkfnmaaRefO
import Derived.Test.YtdmmoknddkfnmaaARange
import Derived.Test.YtdmmoknddkfnmaaReach
namespace Go.Proofs.Ytdmmoknddkfnmaa.lawRef
open Go.RowKit

theorem walk (a : Option Addr) (cap : Nat) (l : List Ed) (s t : Int) (f : Bool) (a2 : Option Addr) (cap2 : Nat) (zs : List Int) (w : World) (hl : l.length ≤ maxLen) (_ : Go.Proofs.Ytdmmoknddkfnmaa.Reach l) (hs : -9223372036854775808 ≤ s ∧ s ≤ 9223372036854775807) (ht : -9223372036854775808 ≤ t ∧ t ≤ 9223372036854775807) (_ : zs.length ≤ maxLen) (hr : zs.length * 8 ≤ 140737488351232) (h : Eds w w.heap.size a l) (hz : Ints w w.heap.size a2 zs) :
    Calls Try.prog 7 #[.slice a l.length cap, .int .i64 s, .int .i64 t, .bool f, .slice a2 zs.length cap2] w fun e w' => e = .returned (.bool true) ∧ Below w.heap.size w w' := by
  have HL := Lib.hid hl
  have HS := Lib.hid hs
  have HT := Lib.hid ht
  have HR := Lib.hid hr
  have HK3 : Hid (∀ W, Eds W W.heap.size a l → Ints W W.heap.size a2 zs → Calls Try.prog 16 #[.slice a l.length cap, .slice a2 zs.length cap2, .bool f] W fun e w' => ∃ b c, e = .returned (.tuple #[.slice b (allV l zs f).length c, .int .i64 (errL l zs)]) ∧ Hid (Ints w' w'.heap.size b (allV l zs f)) ∧ Below W.heap.size W w') := fun W hW hZ => by
    refine (all_any a cap l a2 cap2 zs f W HL.out HR.out hW hZ).mono ?_
    rintro e w' ⟨v, rfl, ho, hb⟩
    obtain ⟨b, c, rfl, hI⟩ := ho.out.ints (allV_in l f zs)
    exact ⟨b, c, rfl, hI, hb⟩
  by_cases h0 : errA l = 0
  · have h5 : l.length ≤ 1000000 := by have := (errA_zero h0).1; omega
    have HX1 : Hid (negB zs = true → errL l zs = 1 ∧ allV l zs f = []) := fun h => ⟨errL_neg h0 h, allV_bad (by rw [errL_neg h0 h]; decide)⟩
    have HX0 : Hid (negB zs = false → errL l zs = 0 ∧ allV l zs f = allL l f zs) := fun h => ⟨errL_ok h0 h, allV_ok (errL_ok h0 h)⟩
    have HK8 : Hid (∀ o W, (-9223372036854775808 ≤ o ∧ o ≤ 9223372036854775807) → Eds W W.heap.size a l → Calls Try.prog 18 #[.slice a l.length cap, .int .i64 o, .bool f] W fun e w' => e = .returned (.int .i64 (wrap64 (mp o f l))) ∧ Below W.heap.size W w') := fun o W ho hW => off_any a cap l o f W h5 ho hW
    have HK4 : Hid (∀ W, Eds W W.heap.size a l → Calls Try.prog 17 #[.slice a l.length cap] W fun e w' => e = .returned (.int .i64 0) ∧ Below W.heap.size W w') := fun W hW => h0 ▸ vo_any a cap l W HL.out hW
    by_cases c1 : s < 0
    · have eM := errM_neg h0 c1
      have eR := errR_no (l := l) (e := t) h0 (Or.inl c1)
      refine walkN a cap l s t f a2 cap2 zs w hr h hz (allV l zs f) (errL l zs) c1 HX1 HX0 HK8 ?_ ?_ HK3 HK4
      · exact fun W hW => by have := map_any a cap l s f W HL.out HS.out hW; rw [eM, mapV_bad (by rw [eM]; decide)] at this; exact this
      · exact fun W hW => by have := range_any a cap l s t f W HL.out HS.out HT.out hW; rw [eR, (rg_bad (x := f) (by rw [eR]; decide)).1, (rg_bad (x := f) (by rw [eR]; decide)).2] at this; exact this
    · have eM := errM_ok (o := s) h0 c1
      by_cases c2 : t < s
      · have eR := errR_no (l := l) h0 (Or.inr c2)
        refine walkR a cap l s t f a2 cap2 zs w hr h hz (allV l zs f) (errL l zs) c1 c2 (wrap64 (mp s f l)) HX1 HX0 HK8 ?_ ?_ HK3 HK4 (fun W hW => off_any a cap l s f W h5 HS.out hW)
        · exact fun W hW => by have := map_any a cap l s f W HL.out HS.out hW; rw [eM, mapV_ok eM] at this; exact this
        · exact fun W hW => by have := range_any a cap l s t f W HL.out HS.out HT.out hW; rw [eR, (rg_bad (x := f) (by rw [eR]; decide)).1, (rg_bad (x := f) (by rw [eR]; decide)).2] at this; exact this
      · have eR := errR_ok (l := l) (s := s) (e := t) h0 (by omega)
        refine walkO a cap l s t f a2 cap2 zs w hr h hz (allV l zs f) (errL l zs) c1 c2 (wrap64 (mp s f l)) (wrap64 (mp s (!f) l)) (wrap64 (mp t f l)) HX1 HX0 HK8 ?_ ?_ HK3 HK4 (fun W hW => off_any a cap l s f W h5 HS.out hW) (fun W hW => off_any a cap l s (!f) W h5 HS.out hW) (fun W hW => off_any a cap l t f W h5 HT.out hW)
        · exact fun W hW => by have := map_any a cap l s f W HL.out HS.out hW; rw [eM, mapV_ok eM] at this; exact this
        · exact fun W hW => by have := range_any a cap l s t f W HL.out HS.out HT.out hW; rw [eR, (rg_ok (x := f) eR).1, (rg_ok (x := f) eR).2] at this; exact this
  · have eM := errM_bad (o := s) h0
    have eR := errR_bad (s := s) (e := t) h0
    have eL := errL_bad (zs := zs) h0
    have eV := allV_bad (r := f) (zs := zs) (l := l) (by rw [eL]; exact h0)
    rw [eV, eL] at HK3
    refine walkA a cap l s t f a2 cap2 zs w hr h hz (errA l) (by simpa using h0) ?_ ?_ HK3 (fun W hW => vo_any a cap l W HL.out hW)
    · exact fun W hW => by have := map_any a cap l s f W HL.out HS.out hW; rw [eM, mapV_bad (by rw [eM]; exact h0)] at this; exact this
    · exact fun W hW => by have := range_any a cap l s t f W HL.out HS.out HT.out hW; rw [eR, (rg_bad (x := f) (by rw [eR]; exact h0)).1, (rg_bad (x := f) (by rw [eR]; exact h0)).2] at this; exact this
end Go.Proofs.Ytdmmoknddkfnmaa.lawRef
