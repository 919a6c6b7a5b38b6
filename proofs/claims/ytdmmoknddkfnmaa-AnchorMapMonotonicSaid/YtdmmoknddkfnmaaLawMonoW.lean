/-
  Map preserves the order of offsets, and right gravity never yields a smaller position than left gravity: AnchorMapMonotonic, for every list of edits, all offsets and either gravity.
-/
import Derived.Test.YtdmmoknddkfnmaaMonoPure
import Derived.Test.YtdmmoknddkfnmaaAEx
import Derived.Test.YtdmmoknddkfnmaaOpenS
namespace Go.Proofs.Ytdmmoknddkfnmaa.lawMono
open Go.RowKit

set_option maxHeartbeats 1000000 in
set_option maxRecDepth 100000 in
theorem walk (a : Option Addr) (cap : Nat) (l : List Ed) (n1 n2 : Int) (r : Bool) (w : World) (hl : l.length ≤ maxLen) (hr : Reach l) (h1 : -9223372036854775808 ≤ n1 ∧ n1 ≤ 9223372036854775807) (h2 : -9223372036854775808 ≤ n2 ∧ n2 ≤ 9223372036854775807) (h : Eds w w.heap.size a l) :
    Calls Try.prog 3 #[.slice a l.length cap, .int .i64 n1, .int .i64 n2, .bool r] w fun e w' => e = .returned (.bool true) ∧ Below w.heap.size w w' := by
  have E0 := Lib.hid h
  have HL := Lib.hid hl
  have HR := Lib.hid hr
  have HN1 := Lib.hid h1
  have HN2 := Lib.hid h2
  clear hl h hr h1 h2
  by_cases he1 : errM l n1 = 0
  rotate_left
  · have HE := Lib.hid he1
    clear he1
    have K1 : Hid (∀ W, Eds W W.heap.size a l → Calls Try.prog 9 #[.slice a l.length cap, .int .i64 n1, .bool r] W fun e w' => e = .returned (.tuple #[.int .i64 (mapV l n1 r), .int .i64 (errM l n1)]) ∧ Below W.heap.size W w') := fun W hW => map_any a cap l n1 r W HL.out HN1.out hW
    have K2 : Hid (∀ W, Eds W W.heap.size a l → Calls Try.prog 9 #[.slice a l.length cap, .int .i64 n2, .bool r] W fun e w' => e = .returned (.tuple #[.int .i64 (mapV l n2 r), .int .i64 (errM l n2)]) ∧ Below W.heap.size W w') := fun W hW => map_any a cap l n2 r W HL.out HN2.out hW
    have K3 : Hid (∀ W, Eds W W.heap.size a l → Calls Try.prog 9 #[.slice a l.length cap, .int .i64 n1, .bool true] W fun e w' => e = .returned (.tuple #[.int .i64 (mapV l n1 true), .int .i64 (errM l n1)]) ∧ Below W.heap.size W w') := fun W hW => map_any a cap l n1 true W HL.out HN1.out hW
    have K4 : Hid (∀ W, Eds W W.heap.size a l → Calls Try.prog 9 #[.slice a l.length cap, .int .i64 n1, .bool false] W fun e w' => e = .returned (.tuple #[.int .i64 (mapV l n1 false), .int .i64 (errM l n1)]) ∧ Below W.heap.size W w') := fun W hW => map_any a cap l n1 false W HL.out HN1.out hW
    generalize errM l n1 = v1 at *
    generalize errM l n2 = v2 at *
    have hv1 : (v1 != 0) = true := by simpa using HE.out
    generalize mapV l n1 r = u1 at *
    generalize mapV l n2 r = u2 at *
    generalize mapV l n1 true = u3 at *
    generalize mapV l n1 false = u4 at *
    go_enter Try.func3, Try.ntmps3
    go_wp2_with fail
    refine (exa_keep w).mono ?_
    rintro e w1 ⟨rfl, hb⟩
    have B1 := hb
    have E1 := Lib.hid (E0.out.fwd hb)
    clear E0 hb
    go_wp2_with fail
    refine (K1.out w1 E1.out).mono ?_
    rintro e w2 ⟨rfl, hb⟩
    have B2 := B1.trans (hb.mono B1.size)
    have E2 := Lib.hid (E1.out.fwd hb)
    clear E1 hb B1 K1
    go_wp2_with fail
    refine (K2.out w2 E2.out).mono ?_
    rintro e w3 ⟨rfl, hb⟩
    have B3 := B2.trans (hb.mono B2.size)
    have E3 := Lib.hid (E2.out.fwd hb)
    clear E2 hb B2 K2
    go_wp2_with fail
    refine (K3.out w3 E3.out).mono ?_
    rintro e w4 ⟨rfl, hb⟩
    have B4 := B3.trans (hb.mono B3.size)
    have E4 := Lib.hid (E3.out.fwd hb)
    clear E3 hb B3 K3
    go_wp2_with fail
    refine (K4.out w4 E4.out).mono ?_
    rintro e w5 ⟨rfl, hb⟩
    have B5 := B4.trans (hb.mono B4.size)
    clear E4 hb B4 K4
    go_wp2_with fail
    refine (exa_keep w5).mono ?_
    rintro e w6 ⟨rfl, hb⟩
    have B6 := B5.trans (hb.mono B5.size)
    clear hb B5
    go_wp2_with fail
    go_ret
    exact ⟨rfl, B6⟩
  by_cases he2 : errM l n2 = 0
  rotate_left
  · have HE := Lib.hid he2
    have HE1 := Lib.hid he1
    clear he1 he2
    have K1 : Hid (∀ W, Eds W W.heap.size a l → Calls Try.prog 9 #[.slice a l.length cap, .int .i64 n1, .bool r] W fun e w' => e = .returned (.tuple #[.int .i64 (mapV l n1 r), .int .i64 0]) ∧ Below W.heap.size W w') := fun W hW => HE1.out ▸ map_any a cap l n1 r W HL.out HN1.out hW
    have K2 : Hid (∀ W, Eds W W.heap.size a l → Calls Try.prog 9 #[.slice a l.length cap, .int .i64 n2, .bool r] W fun e w' => e = .returned (.tuple #[.int .i64 (mapV l n2 r), .int .i64 (errM l n2)]) ∧ Below W.heap.size W w') := fun W hW => map_any a cap l n2 r W HL.out HN2.out hW
    have K3 : Hid (∀ W, Eds W W.heap.size a l → Calls Try.prog 9 #[.slice a l.length cap, .int .i64 n1, .bool true] W fun e w' => e = .returned (.tuple #[.int .i64 (mapV l n1 true), .int .i64 0]) ∧ Below W.heap.size W w') := fun W hW => HE1.out ▸ map_any a cap l n1 true W HL.out HN1.out hW
    have K4 : Hid (∀ W, Eds W W.heap.size a l → Calls Try.prog 9 #[.slice a l.length cap, .int .i64 n1, .bool false] W fun e w' => e = .returned (.tuple #[.int .i64 (mapV l n1 false), .int .i64 0]) ∧ Below W.heap.size W w') := fun W hW => HE1.out ▸ map_any a cap l n1 false W HL.out HN1.out hW
    generalize errM l n2 = v2 at *
    have hv2 : (v2 != 0) = true := by simpa using HE.out
    generalize mapV l n1 r = u1 at *
    generalize mapV l n2 r = u2 at *
    generalize mapV l n1 true = u3 at *
    generalize mapV l n1 false = u4 at *
    go_enter Try.func3, Try.ntmps3
    go_wp2_with fail
    refine (exa_keep w).mono ?_
    rintro e w1 ⟨rfl, hb⟩
    have B1 := hb
    have E1 := Lib.hid (E0.out.fwd hb)
    clear E0 hb
    go_wp2_with fail
    refine (K1.out w1 E1.out).mono ?_
    rintro e w2 ⟨rfl, hb⟩
    have B2 := B1.trans (hb.mono B1.size)
    have E2 := Lib.hid (E1.out.fwd hb)
    clear E1 hb B1 K1
    go_wp2_with fail
    refine (K2.out w2 E2.out).mono ?_
    rintro e w3 ⟨rfl, hb⟩
    have B3 := B2.trans (hb.mono B2.size)
    have E3 := Lib.hid (E2.out.fwd hb)
    clear E2 hb B2 K2
    go_wp2_with fail
    refine (K3.out w3 E3.out).mono ?_
    rintro e w4 ⟨rfl, hb⟩
    have B4 := B3.trans (hb.mono B3.size)
    have E4 := Lib.hid (E3.out.fwd hb)
    clear E3 hb B3 K3
    go_wp2_with fail
    refine (K4.out w4 E4.out).mono ?_
    rintro e w5 ⟨rfl, hb⟩
    have B5 := B4.trans (hb.mono B4.size)
    clear E4 hb B4 K4
    go_wp2_with fail
    refine (exa_keep w5).mono ?_
    rintro e w6 ⟨rfl, hb⟩
    have B6 := B5.trans (hb.mono B5.size)
    clear hb B5
    go_wp2_with fail
    go_ret
    exact ⟨rfl, B6⟩
  have HE1 := Lib.hid he1
  have HE2 := Lib.hid he2
  clear he1 he2
  by_cases c1 : n2 < n1
  · skip
    have K1 : Hid (∀ W, Eds W W.heap.size a l → Calls Try.prog 9 #[.slice a l.length cap, .int .i64 n1, .bool r] W fun e w' => e = .returned (.tuple #[.int .i64 (mapV l n1 r), .int .i64 0]) ∧ Below W.heap.size W w') := fun W hW => HE1.out ▸ map_any a cap l n1 r W HL.out HN1.out hW
    have K2 : Hid (∀ W, Eds W W.heap.size a l → Calls Try.prog 9 #[.slice a l.length cap, .int .i64 n2, .bool r] W fun e w' => e = .returned (.tuple #[.int .i64 (mapV l n2 r), .int .i64 0]) ∧ Below W.heap.size W w') := fun W hW => HE2.out ▸ map_any a cap l n2 r W HL.out HN2.out hW
    have K3 : Hid (∀ W, Eds W W.heap.size a l → Calls Try.prog 9 #[.slice a l.length cap, .int .i64 n1, .bool true] W fun e w' => e = .returned (.tuple #[.int .i64 (mapV l n1 true), .int .i64 0]) ∧ Below W.heap.size W w') := fun W hW => HE1.out ▸ map_any a cap l n1 true W HL.out HN1.out hW
    have K4 : Hid (∀ W, Eds W W.heap.size a l → Calls Try.prog 9 #[.slice a l.length cap, .int .i64 n1, .bool false] W fun e w' => e = .returned (.tuple #[.int .i64 (mapV l n1 false), .int .i64 0]) ∧ Below W.heap.size W w') := fun W hW => HE1.out ▸ map_any a cap l n1 false W HL.out HN1.out hW
    generalize mapV l n1 r = u1 at *
    generalize mapV l n2 r = u2 at *
    generalize mapV l n1 true = u3 at *
    generalize mapV l n1 false = u4 at *
    go_enter Try.func3, Try.ntmps3
    go_wp2_with fail
    refine (exa_keep w).mono ?_
    rintro e w1 ⟨rfl, hb⟩
    have B1 := hb
    have E1 := Lib.hid (E0.out.fwd hb)
    clear E0 hb
    go_wp2_with fail
    refine (K1.out w1 E1.out).mono ?_
    rintro e w2 ⟨rfl, hb⟩
    have B2 := B1.trans (hb.mono B1.size)
    have E2 := Lib.hid (E1.out.fwd hb)
    clear E1 hb B1 K1
    go_wp2_with fail
    refine (K2.out w2 E2.out).mono ?_
    rintro e w3 ⟨rfl, hb⟩
    have B3 := B2.trans (hb.mono B2.size)
    have E3 := Lib.hid (E2.out.fwd hb)
    clear E2 hb B2 K2
    go_wp2_with fail
    refine (K3.out w3 E3.out).mono ?_
    rintro e w4 ⟨rfl, hb⟩
    have B4 := B3.trans (hb.mono B3.size)
    have E4 := Lib.hid (E3.out.fwd hb)
    clear E3 hb B3 K3
    go_wp2_with fail
    refine (K4.out w4 E4.out).mono ?_
    rintro e w5 ⟨rfl, hb⟩
    have B5 := B4.trans (hb.mono B4.size)
    clear E4 hb B4 K4
    go_wp2_with fail
    refine (exa_keep w5).mono ?_
    rintro e w6 ⟨rfl, hb⟩
    have B6 := B5.trans (hb.mono B5.size)
    clear hb B5
    go_wp2_with fail
    go_ret
    exact ⟨rfl, B6⟩
  by_cases c2 : 1099511627776 < n2
  · skip
    have K1 : Hid (∀ W, Eds W W.heap.size a l → Calls Try.prog 9 #[.slice a l.length cap, .int .i64 n1, .bool r] W fun e w' => e = .returned (.tuple #[.int .i64 (mapV l n1 r), .int .i64 0]) ∧ Below W.heap.size W w') := fun W hW => HE1.out ▸ map_any a cap l n1 r W HL.out HN1.out hW
    have K2 : Hid (∀ W, Eds W W.heap.size a l → Calls Try.prog 9 #[.slice a l.length cap, .int .i64 n2, .bool r] W fun e w' => e = .returned (.tuple #[.int .i64 (mapV l n2 r), .int .i64 0]) ∧ Below W.heap.size W w') := fun W hW => HE2.out ▸ map_any a cap l n2 r W HL.out HN2.out hW
    have K3 : Hid (∀ W, Eds W W.heap.size a l → Calls Try.prog 9 #[.slice a l.length cap, .int .i64 n1, .bool true] W fun e w' => e = .returned (.tuple #[.int .i64 (mapV l n1 true), .int .i64 0]) ∧ Below W.heap.size W w') := fun W hW => HE1.out ▸ map_any a cap l n1 true W HL.out HN1.out hW
    have K4 : Hid (∀ W, Eds W W.heap.size a l → Calls Try.prog 9 #[.slice a l.length cap, .int .i64 n1, .bool false] W fun e w' => e = .returned (.tuple #[.int .i64 (mapV l n1 false), .int .i64 0]) ∧ Below W.heap.size W w') := fun W hW => HE1.out ▸ map_any a cap l n1 false W HL.out HN1.out hW
    generalize mapV l n1 r = u1 at *
    generalize mapV l n2 r = u2 at *
    generalize mapV l n1 true = u3 at *
    generalize mapV l n1 false = u4 at *
    go_enter Try.func3, Try.ntmps3
    go_wp2_with fail
    refine (exa_keep w).mono ?_
    rintro e w1 ⟨rfl, hb⟩
    have B1 := hb
    have E1 := Lib.hid (E0.out.fwd hb)
    clear E0 hb
    go_wp2_with fail
    refine (K1.out w1 E1.out).mono ?_
    rintro e w2 ⟨rfl, hb⟩
    have B2 := B1.trans (hb.mono B1.size)
    have E2 := Lib.hid (E1.out.fwd hb)
    clear E1 hb B1 K1
    go_wp2_with fail
    refine (K2.out w2 E2.out).mono ?_
    rintro e w3 ⟨rfl, hb⟩
    have B3 := B2.trans (hb.mono B2.size)
    have E3 := Lib.hid (E2.out.fwd hb)
    clear E2 hb B2 K2
    go_wp2_with fail
    refine (K3.out w3 E3.out).mono ?_
    rintro e w4 ⟨rfl, hb⟩
    have B4 := B3.trans (hb.mono B3.size)
    have E4 := Lib.hid (E3.out.fwd hb)
    clear E3 hb B3 K3
    go_wp2_with fail
    refine (K4.out w4 E4.out).mono ?_
    rintro e w5 ⟨rfl, hb⟩
    have B5 := B4.trans (hb.mono B4.size)
    clear E4 hb B4 K4
    go_wp2_with fail
    refine (exa_keep w5).mono ?_
    rintro e w6 ⟨rfl, hb⟩
    have B6 := B5.trans (hb.mono B5.size)
    clear hb B5
    go_wp2_with fail
    go_ret
    exact ⟨rfl, B6⟩
  · have m1 : mapV l n1 r ≤ mapV l n2 r := map_mono HE1.out HE2.out HR.out (by omega) (by omega)
    have m2 : mapV l n1 false ≤ mapV l n1 true := map_sides HE1.out HR.out (by omega)
    have K1 : Hid (∀ W, Eds W W.heap.size a l → Calls Try.prog 9 #[.slice a l.length cap, .int .i64 n1, .bool r] W fun e w' => e = .returned (.tuple #[.int .i64 (mapV l n1 r), .int .i64 0]) ∧ Below W.heap.size W w') := fun W hW => HE1.out ▸ map_any a cap l n1 r W HL.out HN1.out hW
    have K2 : Hid (∀ W, Eds W W.heap.size a l → Calls Try.prog 9 #[.slice a l.length cap, .int .i64 n2, .bool r] W fun e w' => e = .returned (.tuple #[.int .i64 (mapV l n2 r), .int .i64 0]) ∧ Below W.heap.size W w') := fun W hW => HE2.out ▸ map_any a cap l n2 r W HL.out HN2.out hW
    have K3 : Hid (∀ W, Eds W W.heap.size a l → Calls Try.prog 9 #[.slice a l.length cap, .int .i64 n1, .bool true] W fun e w' => e = .returned (.tuple #[.int .i64 (mapV l n1 true), .int .i64 0]) ∧ Below W.heap.size W w') := fun W hW => HE1.out ▸ map_any a cap l n1 true W HL.out HN1.out hW
    have K4 : Hid (∀ W, Eds W W.heap.size a l → Calls Try.prog 9 #[.slice a l.length cap, .int .i64 n1, .bool false] W fun e w' => e = .returned (.tuple #[.int .i64 (mapV l n1 false), .int .i64 0]) ∧ Below W.heap.size W w') := fun W hW => HE1.out ▸ map_any a cap l n1 false W HL.out HN1.out hW
    generalize mapV l n1 r = u1 at *
    generalize mapV l n2 r = u2 at *
    generalize mapV l n1 true = u3 at *
    generalize mapV l n1 false = u4 at *
    go_enter Try.func3, Try.ntmps3
    go_wp2_with fail
    refine (exa_keep w).mono ?_
    rintro e w1 ⟨rfl, hb⟩
    have B1 := hb
    have E1 := Lib.hid (E0.out.fwd hb)
    clear E0 hb
    go_wp2_with fail
    refine (K1.out w1 E1.out).mono ?_
    rintro e w2 ⟨rfl, hb⟩
    have B2 := B1.trans (hb.mono B1.size)
    have E2 := Lib.hid (E1.out.fwd hb)
    clear E1 hb B1 K1
    go_wp2_with fail
    refine (K2.out w2 E2.out).mono ?_
    rintro e w3 ⟨rfl, hb⟩
    have B3 := B2.trans (hb.mono B2.size)
    have E3 := Lib.hid (E2.out.fwd hb)
    clear E2 hb B2 K2
    go_wp2_with fail
    refine (K3.out w3 E3.out).mono ?_
    rintro e w4 ⟨rfl, hb⟩
    have B4 := B3.trans (hb.mono B3.size)
    have E4 := Lib.hid (E3.out.fwd hb)
    clear E3 hb B3 K3
    go_wp2_with fail
    refine (K4.out w4 E4.out).mono ?_
    rintro e w5 ⟨rfl, hb⟩
    have B5 := B4.trans (hb.mono B4.size)
    clear E4 hb B4 K4
    go_wp2_with fail
    refine (exa_keep w5).mono ?_
    rintro e w6 ⟨rfl, hb⟩
    have B6 := B5.trans (hb.mono B5.size)
    clear hb B5
    go_wp2_with fail
    go_ret
    exact ⟨rfl, B6⟩
end Go.Proofs.Ytdmmoknddkfnmaa.lawMono
