/-
  Map, MapRange and MapAll return the same results and errors as the reference: AnchorMapEqualsReference, for every list of edits, all offsets and either gravity.
-/
import Derived.Test.YtdmmoknddkfnmaaAOff
import Derived.Test.YtdmmoknddkfnmaaAOrd
import Derived.Test.YtdmmoknddkfnmaaAAll
import Derived.Test.YtdmmoknddkfnmaaAExL
import Derived.Test.YtdmmoknddkfnmaaOpenZ
import Derived.Laws.AppendOwnNone
namespace Go.Proofs.Ytdmmoknddkfnmaa.lawRef
open Go.RowKit

set_option maxHeartbeats 2000000 in
set_option maxRecDepth 100000 in
theorem walkA (a : Option Addr) (cap : Nat) (l : List Ed) (s t : Int) (f : Bool) (a2 : Option Addr) (cap2 : Nat) (zs : List Int) (w : World) (_ : zs.length * 8 ≤ 140737488351232) (E0 : Hid (Eds w w.heap.size a l)) (Z0 : Hid (Ints w w.heap.size a2 zs))
    (v0 : Int) (hv0 : (v0 == 0) = false)
    (K1 : Hid (∀ W, Eds W W.heap.size a l → Calls Try.prog 9 #[.slice a l.length cap, .int .i64 s, .bool f] W fun e w' => e = .returned (.tuple #[.int .i64 0, .int .i64 v0]) ∧ Below W.heap.size W w'))
    (K2 : Hid (∀ W, Eds W W.heap.size a l → Calls Try.prog 15 #[.slice a l.length cap, .int .i64 s, .int .i64 t, .bool f] W fun e w' => e = .returned (.tuple #[.int .i64 0, .int .i64 0, .int .i64 v0]) ∧ Below W.heap.size W w'))
    (K3 : Hid (∀ W, Eds W W.heap.size a l → Ints W W.heap.size a2 zs → Calls Try.prog 16 #[.slice a l.length cap, .slice a2 zs.length cap2, .bool f] W fun e w' => ∃ b c, e = .returned (.tuple #[.slice b 0 c, .int .i64 v0]) ∧ Hid (Ints w' w'.heap.size b ([] : List Int)) ∧ Below W.heap.size W w'))
    (K4 : Hid (∀ W, Eds W W.heap.size a l → Calls Try.prog 17 #[.slice a l.length cap] W fun e w' => e = .returned (.int .i64 v0) ∧ Below W.heap.size W w'))
    : Calls Try.prog 7 #[.slice a l.length cap, .int .i64 s, .int .i64 t, .bool f, .slice a2 zs.length cap2] w fun e w' => e = .returned (.bool true) ∧ Below w.heap.size w w' := by
  go_enter Try.func7, Try.ntmps7
  go_wp2_with fail
  refine (exa_law w).mono ?_
  rintro e w1 ⟨rfl, hb⟩
  have B1 := hb
  have E1 := Lib.hid (E0.out.fwd hb)
  have Z1 := Lib.hid (Z0.out.fwd hb)
  clear E0 Z0 hb
  go_wp2_with fail
  refine (K1.out w1 E1.out).mono ?_
  rintro e w2 ⟨rfl, hb⟩
  have B2 := B1.trans (hb.mono B1.size)
  have E2 := Lib.hid (E1.out.fwd hb)
  have Z2 := Lib.hid (Z1.out.fwd hb)
  clear E1 Z1 hb B1 K1
  go_wp2_with fail
  refine (K2.out w2 E2.out).mono ?_
  rintro e w3 ⟨rfl, hb⟩
  have B3 := B2.trans (hb.mono B2.size)
  have E3 := Lib.hid (E2.out.fwd hb)
  have Z3 := Lib.hid (Z2.out.fwd hb)
  clear E2 Z2 hb B2 K2
  go_wp2_with fail
  refine (K3.out w3 E3.out Z3.out).mono ?_
  rintro e w4 ⟨b1, b2, rfl, P4, hb⟩
  have B4 := B3.trans (hb.mono B3.size)
  have E4 := Lib.hid (E3.out.fwd hb)
  have Z4 := Lib.hid (Z3.out.fwd hb)
  clear E3 Z3 hb B3 K3
  go_wp2_with fail
  refine (K4.out w4 E4.out).mono ?_
  rintro e w5 ⟨rfl, hb⟩
  have B5 := B4.trans (hb.mono B4.size)
  have E5 := Lib.hid (E4.out.fwd hb)
  have Z5 := Lib.hid (Z4.out.fwd hb)
  have P5 := Lib.hid (P4.out.fwd hb)
  clear E4 Z4 P4 hb B4 K4
  go_wp2_with fail
  go_loopw [21, 25, 26] (fun er v j wr => er = .int .i64 v0 ∧ v = .slice none 0 0 ∧ j = .int .i64 0 ∧ wr = w5)
    (fun _ _ j _ => zs.length - (intOf j).toNat)
  case atStart => exact ⟨rfl, rfl, rfl, rfl⟩
  case round =>
    obtain ⟨rfl, rfl, rfl, rfl⟩ := hrel
    have PF := P5
    have QF : Hid (Ints wr wr.heap.size none ([] : List Int)) := Ints.nil _ _ _
    have BF := B5
    clear P5 B5
    by_cases hlt : 0 < zs.length
    · go_wp2_with fail
      refine (equal_ints [] _ _ _ _ _ (Nat.zero_le _) PF.out QF.out).mono ?_
      rintro e w9 ⟨rfl, hb9⟩
      have B9 := BF.trans (hb9.mono BF.size)
      clear hb9 BF
      go_wp2_with fail
      go_ret
      exact ⟨rfl, B9⟩
    · go_wp2_with fail
      refine (equal_ints [] _ _ _ _ _ (Nat.zero_le _) PF.out QF.out).mono ?_
      rintro e w9 ⟨rfl, hb9⟩
      have B9 := BF.trans (hb9.mono BF.size)
      clear hb9 BF
      go_wp2_with fail
      go_ret
      exact ⟨rfl, B9⟩

end Go.Proofs.Ytdmmoknddkfnmaa.lawRef
