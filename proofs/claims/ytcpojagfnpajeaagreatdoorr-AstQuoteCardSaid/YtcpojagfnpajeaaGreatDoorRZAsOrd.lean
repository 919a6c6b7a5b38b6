/-
  CompareDiagnostics, by its contract; sorting by it.
  DERIVED: THE SHELF's CONTRACTS AT THIS DUMP, IN PLAIN WORDS (tools/lay-plain.mjs out of 'TryzSort.lean', which tools/lay-shelf.mjs wrote): THE SAME DECLARATIONS UNDER THE SAME NAMES: 'import', 'namespace', 'open', 'def', 'theorem' AND NOTHING ELSE: no command of the shelf's: FOR A HAND-IN. Each laying: the table of numbers ('.._ren') and one theorem, a field a fact of the dump's own or the kernel's comparison; each contract: ONE APPLICATION.
  slices.SortFunc of diagnostics, by its contract.
  slices.Compact of diagnostics: what is of no walk.
-/
import Derived.Test.YtcpojagfnpajeaaGreatDoorRZAsLeaf
import Derived.StillTailTactics
import Derived.Deep.DeepCutAuto
import Derived.Shelf.SlSortCmp.WholeK
import Derived.Ground.SlsfProg
import Derived.Test.YtcpojagfnpajeaaGreatDoorRProg
import Derived.Lib.SlicesCompact
import Derived.Laws.StructEq
namespace Go.Proofs.YtcpojagfnpajeaaGreatDoorR.Ps
open Go.RowKit Go.Sort

def firstNZ : List Int → Int
  | [] => 0
  | z :: r => if z = 0 then firstNZ r else z

set_option maxHeartbeats 1000000 in
theorem nan_any (s : ByteArray) (w : World) : Calls Tryz.prog 183 #[.string s] w fun e w' => e = .returned (.bool false) ∧ w' = w := by
  go_enter Tryz.func183, Tryz.ntmps183
  go_wp2_with fail
  go_ret
  exact ⟨by simp, rfl⟩

set_option maxHeartbeats 1000000 in
theorem cmps_any (w : World) : Calls Tryz.prog 113 #[.string ⟨#[]⟩, .string ⟨#[]⟩] w fun e w' => e = .returned (.int .i64 0) ∧ w' = w := by
  have K := Lib.hid (fun W => nan_any ⟨#[]⟩ W)
  have hgt : ∀ W, (binOp BinOp.gtr 9 (.string ⟨#[]⟩) (.string ⟨#[]⟩)).run Tryz.prog W = .ok (.bool false) W := fun W => by kernel_rfl
  go_enter Tryz.func113, Tryz.ntmps113
  go_wp2_with fail
  refine (K.out _).mono ?_
  rintro e w1 ⟨rfl, rfl⟩
  go_wp2_with fail
  refine (K.out _).mono ?_
  rintro e w1 ⟨rfl, rfl⟩
  go_wp2_with fail
  go_ret
  exact ⟨rfl, rfl⟩

set_option maxHeartbeats 1000000 in
theorem or_any (a : Option Addr) (c : Nat) (zs : List Int) (S : Nat → Prop) (w : World) (h : Ints w S a zs) (hl : zs.length ≤ 1000) : Calls Tryz.prog 111 #[.slice a zs.length c] w fun e w' => e = .returned (.int .i64 (firstNZ zs)) ∧ w' = w := by
  have HI := Lib.hid h
  clear h
  go_enter Tryz.func111, Tryz.ntmps111
  go_wp2_with fail
  go_loopw [8] (fun i wr => ∃ k : Nat, k ≤ zs.length ∧ i = .int .i64 k ∧ Hid (firstNZ zs = firstNZ (zs.drop k)) ∧ Hid (wr = w))
    (fun i _ => zs.length - (intOf i).toNat)
  case atStart => exact ⟨0, Nat.zero_le _, rfl, Lib.hid (by rw [List.drop_zero]), Lib.hid rfl⟩
  case round =>
    obtain ⟨k, hk, rfl, hf, hw⟩ := hrel
    obtain rfl := hw.out
    by_cases hlt : k < zs.length
    · have hx : zs[k]? = some zs[k] := List.getElem?_eq_getElem hlt
      have hd : zs.drop k = zs[k] :: zs.drop (k + 1) := List.drop_eq_getElem_cons hlt
      obtain ⟨z, hz⟩ : ∃ z, z = zs[k] := ⟨_, rfl⟩
      rw [← hz] at hx hd
      obtain ⟨b, o, rfl, _, hc⟩ := HI.out k z hx
      have HF2 : Hid (firstNZ zs = if z = 0 then firstNZ (zs.drop (k + 1)) else z) := by show _ = _; rw [hf.out, hd]; rfl
      have HKL : Hid (k < zs.length) := hlt
      clear hx hd hz hf
      have hk0 : (0 : Int) ≤ (k : Int) := by omega
      have hk1 : (k : Int) < (zs.length : Int) := by omega
      by_cases hz0 : z = 0
      · have HF3 : Hid (firstNZ zs = firstNZ (zs.drop (k + 1))) := by show _ = _; rw [HF2.out, if_pos hz0]
        clear HF2
        subst hz0
        go_wp2_with fail
        go_round
        case rel => exact ⟨k + 1, HKL.out, by go_num, HF3, Lib.hid trivial⟩
        case measure => have := HKL.out; simp [intOf]; omega
      · have HF3 : Hid (firstNZ zs = z) := by show _ = _; rw [HF2.out, if_neg hz0]
        clear HF2
        go_wp2_with fail
        go_ret
        exact ⟨by rw [HF3.out]; rfl, rfl⟩
    · have hkl : k = zs.length := by omega
      have HF3 : Hid (firstNZ zs = 0) := by show _ = _; rw [hf.out, hkl, List.drop_length]; rfl
      clear hf
      go_wp2_with fail
      go_ret
      exact ⟨by rw [HF3.out]; rfl, rfl⟩

def cmpD (x y : Dg) : Int := firstNZ [Lib.compareInt 0 0, Lib.compareInt x.s y.s, Lib.compareInt x.e y.e, Lib.compareInt x.c y.c, 0]
theorem cmpD_lt (x y : Dg) : ltOf cmpD x y = ltD x y := by
  have hc : ∀ a b : Int, Lib.compareInt a b = if a < b then -1 else if b < a then 1 else 0 := fun _ _ => rfl
  unfold ltOf cmpD
  rw [Bool.eq_iff_iff, decide_eq_true_iff, ltD_iff]
  simp only [firstNZ, hc]
  rcases Int.lt_trichotomy x.s y.s with h1 | h1 | h1
  · simp [h1]
  · rcases Int.lt_trichotomy x.e y.e with h2 | h2 | h2
    · simp [h1, h2]
    · rcases Int.lt_trichotomy x.c y.c with h3 | h3 | h3
      · simp [h1, h2, h3]
      · simp [h1, h2, h3]
      · have n3 : ¬ x.c < y.c := by omega
        simp [h1, h2, h3, n3]
    · have n2 : ¬ x.e < y.e := by omega
      simp [h1, h2, n2]
      omega
  · have n1 : ¬ x.s < y.s := by omega
    simp [h1, n1]
    omega
theorem swoD : SWO (ltOf cmpD) where
  irrefl x := by
    rw [cmpD_lt]
    cases h : ltD x x with
    | false => rfl
    | true => rw [ltD_iff] at h; omega
  trans x y z h1 h2 := by
    rw [cmpD_lt, ltD_iff] at *
    omega
  ntrans x y z h1 h2 := by
    rw [cmpD_lt] at *
    exact ltD_le (c := x) (b := y) (a := z) h2 h1

set_option maxHeartbeats 2000000 in
set_option maxRecDepth 100000 in
theorem cmp_any (x y : Dg) (w : World) : Calls Tryz.prog 58 #[.agg (dgCells x).toArray, .agg (dgCells y).toArray] w fun e w' => e = .returned (.int .i64 (cmpD x y)) ∧ ∃ q os', w' = grow (w.drewN q) os' := by
  have K1 := Lib.hid (fun p q W => Tryz.cmp_Compare_int p q W)
  have K2 := Lib.hid (fun W => cmps_any W)
  unfold dgCells
  go_enter Tryz.func58, Tryz.ntmps58
  go_upto_region 1 with fail
  obtain ⟨W, hW⟩ : ∃ W, W = (w.alloc (.cells #[.int .i64 x.c, .int .i64 0, .int .i64 x.s, .int .i64 x.e, .string ⟨#[]⟩] 73)).alloc (.cells #[.int .i64 y.c, .int .i64 0, .int .i64 y.s, .int .i64 y.e, .string ⟨#[]⟩] 73) := ⟨_, rfl⟩
  rw [show World.alloc (World.alloc w _) _ = W from hW.symm]
  have hx : W.heap[w.heap.size]? = some (.cells #[.int .i64 x.c, .int .i64 0, .int .i64 x.s, .int .i64 x.e, .string ⟨#[]⟩] 73 (0, 0)) := by rw [hW, Below.heap_alloc _ _ _ (by simp)]; exact heap_alloc_new w _
  have hy : W.heap[w.heap.size + 1]? = some (.cells #[.int .i64 y.c, .int .i64 0, .int .i64 y.s, .int .i64 y.e, .string ⟨#[]⟩] 73 (0, 0)) := by
    have := heap_alloc_new (w.alloc (.cells #[.int .i64 x.c, .int .i64 0, .int .i64 x.s, .int .i64 x.e, .string ⟨#[]⟩] 73)) (.cells #[.int .i64 y.c, .int .i64 0, .int .i64 y.s, .int .i64 y.e, .string ⟨#[]⟩] 73)
    rw [hW]
    simpa using this
  have cx : ∀ i, W.cell? ⟨w.heap.size, i, none⟩ = (#[Value.int .i64 x.c, .int .i64 0, .int .i64 x.s, .int .i64 x.e, .string ⟨#[]⟩] : Array Value)[i]? := fun i => by rw [Lib.cell_of_heap hx]
  have cy : ∀ i, W.cell? ⟨w.heap.size + 1, i, none⟩ = (#[Value.int .i64 y.c, .int .i64 0, .int .i64 y.s, .int .i64 y.e, .string ⟨#[]⟩] : Array Value)[i]? := fun i => by rw [Lib.cell_of_heap hy]
  have x0 := cx 0
  have x1 := cx 1
  have x2 := cx 2
  have x3 := cx 3
  have x4 := cx 4
  have y0 := cy 0
  have y1 := cy 1
  have y2 := cy 2
  have y3 := cy 3
  have y4 := cy 4
  simp only [List.getElem?_toArray, List.getElem?_cons_zero, List.getElem?_cons_succ] at x0 x1 x2 x3 x4 y0 y1 y2 y3 y4
  have hs : W.heap.size = w.heap.size + 2 := by rw [hW]; simp
  have HW := Lib.hid hW
  clear cx cy hx hy hW
  go_still_tail 25, (by kernel_rfl)
  repeat still_step
  still_call (K1.out _ _ _)
  repeat still_step
  still_call (K1.out _ _ _)
  repeat still_step
  still_call (K1.out _ _ _)
  repeat still_step
  still_call (K1.out _ _ _)
  repeat still_step
  still_call (K2.out _)
  repeat still_step
  refine wpStill_nil ?_
  change wpList _ _ _ _ _ W.drew
  have hd : W.drew.heap.size = w.heap.size + 2 := hs
  have K3 := Lib.hid (fun c V (h : Ints V (fun _ => True) (some ⟨w.heap.size + 2, 0, none⟩) [Lib.compareInt 0 0, Lib.compareInt x.s y.s, Lib.compareInt x.e y.e, Lib.compareInt x.c y.c, 0]) => or_any (some ⟨w.heap.size + 2, 0, none⟩) c [Lib.compareInt 0 0, Lib.compareInt x.s y.s, Lib.compareInt x.e y.e, Lib.compareInt x.c y.c, 0] _ V h (by simp))
  clear x0 x1 x2 x3 x4 y0 y1 y2 y3 y4
  go_wp2_with fail
  refine (K3.out 5 _ ?hI).mono ?_
  case hI =>
    intro i z hz
    refine ⟨w.heap.size + 2, 0, rfl, trivial, ?_⟩
    rw [Lib.cell_of_heap (show _ = some (Obj.cells #[.int .i64 (Lib.compareInt 0 0), .int .i64 (Lib.compareInt x.s y.s), .int .i64 (Lib.compareInt x.e y.e), .int .i64 (Lib.compareInt x.c y.c), .int .i64 0] 3 (0, 0)) from by rw [← hs]; exact heap_alloc_new W _)]
    match i, hz with
    | 0, hz => simp at hz; subst hz; rfl
    | 1, hz => simp at hz; subst hz; rfl
    | 2, hz => simp at hz; subst hz; rfl
    | 3, hz => simp at hz; subst hz; rfl
    | 4, hz => simp at hz; subst hz; rfl
  rintro e w9 ⟨rfl, rfl⟩
  go_wp2_with fail
  go_ret
  refine ⟨rfl, 1, #[.cells #[.int .i64 x.c, .int .i64 0, .int .i64 x.s, .int .i64 x.e, .string ⟨#[]⟩] 73, .cells #[.int .i64 y.c, .int .i64 0, .int .i64 y.s, .int .i64 y.e, .string ⟨#[]⟩] 73, .cells #[.int .i64 (Lib.compareInt 0 0), .int .i64 (Lib.compareInt x.s y.s), .int .i64 (Lib.compareInt x.e y.e), .int .i64 (Lib.compareInt x.c y.c), .int .i64 0] 3], ?_⟩
  rw [HW.out]
  simp only [alloc_eq_grow, grow_grow]
  rfl
theorem cmp_lays (blk off size : Nat) (w : World) : CmpLays Tryz.prog 58 #[] dgCells 5 cmpD blk off size w := fun _ _ _ _ x y => cmp_any x y _
end Go.Proofs.YtcpojagfnpajeaaGreatDoorR.Ps

namespace Go.Proofs
open Go.Shelf
def Tryz.sortDg_ren : Go.Shelf.Ren := ⟨fun | 6 => 57 | 15 => 110 | 14 => 109 | 28 => 180 | 29 => 181 | 20 => 172 | 21 => 173 | 22 => 174 | 23 => 175 | 24 => 176 | 25 => 177 | 26 => 178 | 27 => 179 | 46 => 232 | 47 => 233 | 48 => 234 | 49 => 235 | 50 => 236 | 57 => 267 | n => n, fun | 22 => 37 | 24 => 73 | 25 => 109 | 3 => 3 | 39 => 166 | 0 => 0 | 53 => 206 | 55 => 208 | 4 => 4 | 46 => 200 | 45 => 199 | 50 => 156 | 5 => 5 | 9 => 9 | 66 => 231 | 70 => 143 | 76 => 240 | 77 => 115 | n => n, fun | n => n⟩
theorem Tryz.sortDg : Go.Proofs.SlLaysF0.n6 Tryz.prog Tryz.sortDg_ren := {
  mixed := by kernel_rfl
  f6 := ⟨Tryz.f57.name, by decide, Tryz.func57.trans (congrArg some (by kernel_rfl))⟩
  f14 := ⟨Tryz.f109.name, by decide, Tryz.func109.trans (congrArg some (by kernel_rfl))⟩
  f15 := Tryz.func110.trans (congrArg some (by kernel_rfl))
  f20 := ⟨Tryz.f172.name, by decide, Tryz.func172.trans (congrArg some (by kernel_rfl))⟩
  f21 := ⟨Tryz.f173.name, by decide, Tryz.func173.trans (congrArg some (by kernel_rfl))⟩
  f22 := ⟨Tryz.f174.name, by decide, Tryz.func174.trans (congrArg some (by kernel_rfl))⟩
  f23 := ⟨Tryz.f175.name, by decide, Tryz.func175.trans (congrArg some (by kernel_rfl))⟩
  f24 := ⟨Tryz.f176.name, by decide, Tryz.func176.trans (congrArg some (by kernel_rfl))⟩
  f25 := ⟨Tryz.f177.name, by decide, Tryz.func177.trans (congrArg some (by kernel_rfl))⟩
  f26 := ⟨Tryz.f178.name, by decide, Tryz.func178.trans (congrArg some (by kernel_rfl))⟩
  f27 := ⟨Tryz.f179.name, by decide, Tryz.func179.trans (congrArg some (by kernel_rfl))⟩
  f28 := Tryz.func180.trans (congrArg some (by kernel_rfl))
  f29 := Tryz.func181.trans (congrArg some (by kernel_rfl))
  f46 := ⟨Tryz.f232.name, by decide, Tryz.func232.trans (congrArg some (by kernel_rfl))⟩
  f47 := Tryz.func233.trans (congrArg some (by kernel_rfl))
  f48 := Tryz.func234.trans (congrArg some (by kernel_rfl))
  f49 := ⟨Tryz.f235.name, by decide, Tryz.func235.trans (congrArg some (by kernel_rfl))⟩
  f50 := ⟨Tryz.f236.name, by decide, Tryz.func236.trans (congrArg some (by kernel_rfl))⟩
  f57 := ⟨Tryz.f267.name, by decide, Tryz.func267.trans (congrArg some (by kernel_rfl))⟩
  t0 := Tryz.underlying0
  a0 := Tryz.isAgg0
  z0 := Tryz.sizeOf0
  v0 := Tryz.zeroValue0
  t3 := Tryz.underlying3
  a3 := Tryz.isAgg3
  z3 := Tryz.sizeOf3
  v3 := Tryz.zeroValue3
  t4 := Tryz.underlying4
  a4 := Tryz.isAgg4
  z4 := Tryz.sizeOf4
  v4 := Tryz.zeroValue4
  t5 := Tryz.underlying5
  a5 := Tryz.isAgg5
  z5 := Tryz.sizeOf5
  v5 := Tryz.zeroValue5
  t9 := Tryz.underlying9
  a9 := Tryz.isAgg9
  z9 := Tryz.sizeOf9
  v9 := Tryz.zeroValue9
  t22 := Tryz.underlying37
  a22 := Tryz.isAgg37
  z22 := Tryz.sizeOf37
  v22 := Tryz.zeroValue37
  t25 := Tryz.underlying109
  a25 := Tryz.isAgg109
  z25 := Tryz.sizeOf109
  v25 := Tryz.zeroValue109
  t39 := Tryz.underlying166
  a39 := Tryz.isAgg166
  z39 := Tryz.sizeOf166
  v39 := Tryz.zeroValue166
  t45 := Tryz.underlying199
  a45 := Tryz.isAgg199
  z45 := Tryz.sizeOf199
  v45 := Tryz.zeroValue199
  t46 := Tryz.underlying200
  a46 := Tryz.isAgg200
  z46 := Tryz.sizeOf200
  v46 := Tryz.zeroValue200
  t50 := Tryz.underlying156
  a50 := Tryz.isAgg156
  z50 := Tryz.sizeOf156
  v50 := Tryz.zeroValue156
  t53 := Tryz.underlying206
  a53 := Tryz.isAgg206
  z53 := Tryz.sizeOf206
  v53 := Tryz.zeroValue206
  t55 := Tryz.underlying208
  a55 := Tryz.isAgg208
  z55 := Tryz.sizeOf208
  v55 := Tryz.zeroValue208
  t66 := Tryz.underlying231
  a66 := Tryz.isAgg231
  z66 := Tryz.sizeOf231
  v66 := Tryz.zeroValue231
  t70 := Tryz.underlying143
  a70 := Tryz.isAgg143
  z70 := Tryz.sizeOf143
  v70 := Tryz.zeroValue143
  t76 := Tryz.underlying240
  a76 := Tryz.isAgg240
  z76 := Tryz.sizeOf240
  v76 := Tryz.zeroValue240
  t77 := Tryz.underlying115
  a77 := Tryz.isAgg115
  z77 := Tryz.sizeOf115
  v77 := Tryz.zeroValue115 }
end Go.Proofs

namespace Go.Proofs.YtcpojagfnpajeaaGreatDoorR.Ps
open Go.RowKit Go.Sort

theorem dcl_at {l : List Dg} : ∀ {i : Nat} {x : Dg}, l[i]? = some x → ∀ j u, (dgCells x)[j]? = some u → (dcl l)[i * 5 + j]? = some u := by
  induction l with
  | nil => intro i x h; simp at h
  | cons y r ih =>
    intro i x h j u hu
    have e : dcl (y :: r) = dgCells y ++ dcl r := rfl
    have hl : (dgCells y).length = 5 := rfl
    cases i with
    | zero =>
      simp at h
      subst h
      rw [e, List.getElem?_append_left (by have := (List.getElem?_eq_some_iff.1 hu).1; omega)]
      simpa using hu
    | succ i =>
      simp at h
      rw [e, List.getElem?_append_right (by omega), hl, show (i + 1) * 5 + j - 5 = i * 5 + j from by omega]
      exact ih h j u hu

theorem flat_dcl (d : Array Dg) : flatK dgCells 5 d = (dcl d.toList).toArray := by
  apply Array.ext
  · simp [flatK, dcl_length]
  · intro t h1 h2
    have hs : t < d.size * 5 := by simpa [flatK] using h1
    have hi : t / 5 < d.size := by omega
    have hx : d.toList[t / 5]? = some d[t / 5]! := by
      rw [getElem!_pos d (t / 5) hi, Array.getElem?_toList, Array.getElem?_eq_getElem hi]
    have hj : (dgCells d[t / 5]!)[t % 5]? = some (dgCells d[t / 5]!)[t % 5]! := by
      have hlt : t % 5 < (dgCells d[t / 5]!).length := by show t % 5 < 5; omega
      rw [getElem!_pos (dgCells d[t / 5]!) (t % 5) hlt, List.getElem?_eq_getElem hlt]
    have h3 := dcl_at hx _ _ hj
    rw [show t / 5 * 5 + t % 5 = t from by omega] at h3
    have h4 : (dcl d.toList)[t]? = some ((dcl d.toList)[t]'(by simpa using h2)) := List.getElem?_eq_getElem _
    rw [h4] at h3
    simp only [flatK, Array.getElem_map, Array.getElem_range, List.getElem_toArray]
    exact (Option.some.inj h3).symm

theorem owns_holds {w : World} {B g cap : Nat} {d : Array Dg} (h : OwnsD w B (.slice (some ⟨g, 0, none⟩) d.size cap) d.toList) : HoldsK dgCells 5 w g 0 d := by
  rcases h.2 with ⟨e, _⟩ | ⟨g', cap', cur, e, _, hh, _, _, hcs, htk⟩
  · cases e
  · cases e
    unfold HoldsK Holds
    intro j hj
    rw [flat_dcl] at hj ⊢
    have hj' : j < (dcl d.toList).length := by simpa using hj
    refine ⟨?_, Lib.frozen_of_heap hh _⟩
    rw [Lib.cell_of_heap hh, Nat.zero_add, getElem!_pos (dcl d.toList).toArray j hj]
    obtain ⟨u, hu⟩ : ∃ u, u = (dcl d.toList).toArray[j]'hj := ⟨_, rfl⟩
    rw [← hu]
    have h5 : (dcl d.toList)[j]? = some u := by rw [hu, List.getElem?_eq_getElem hj']; simp
    rw [← htk, List.getElem?_take] at h5
    split at h5
    · rw [Array.getElem?_toList] at h5
      simpa using h5
    · cases h5

/-- What stands behind the sort. -/
theorem owns_sorted {w : World} {B g cap n : Nat} {d d' : Array Dg} {os : Array Obj} (h : OwnsD w B (.slice (some ⟨g, 0, none⟩) d.size cap) d.toList) (hs : d'.size = d.size) :
    OwnsD (sortWorldK dgCells 5 w g 0 n d' os) B (.slice (some ⟨g, 0, none⟩) d.size cap) d'.toList ∧ Fr (fun j => j < w.heap.size ∧ j ≠ g) w (sortWorldK dgCells 5 w g 0 n d' os) := by
  rcases h.2 with ⟨e, _⟩ | ⟨g', cap', cur, e, hb, hh, h1, h2, hcs, htk⟩
  · cases e
  · cases e
    have hg := (Array.getElem?_eq_some_iff.1 hh).1
    have hlen : d'.toList.length = d.toList.length := by simp [hs]
    have hW : (sortWorldK dgCells 5 w g 0 n d' os).heap[g]? = some (.cells (putCells id 0 (flatK dgCells 5 d') cur) 73 (0, 0)) := by
      unfold sortWorldK putRowK putRow mapBlock grow Go.Sort.ahead
      simp only
      rw [Array.getElem?_append_left (by simpa using hg), Array.getElem?_modify, if_pos rfl, hh]
      rfl
    have hdl : (dcl d'.toList).length ≤ cur.size := by
      rw [dcl_length, hlen, hcs]
      have h3 : d.toList.length ≤ cap := h1
      omega
    refine ⟨⟨by rw [dcl_length, hlen], Or.inr ⟨g, cap, putCells id 0 (flatK dgCells 5 d') cur, by rw [hlen]; simp, hb, hW, by rw [hlen]; exact h1, h2, by simp [putCells, hcs], ?_⟩⟩, ?_⟩
    · rw [flat_dcl]
      apply List.ext_getElem?
      intro i
      rw [List.getElem?_take]
      by_cases hi : i < d'.toList.length * 5
      · rw [if_pos hi, Array.getElem?_toList]
        have hi2 : i < (dcl d'.toList).length := by rw [dcl_length]; exact hi
        simp only [putCells, Array.getElem?_mapIdx]
        rw [Array.getElem?_eq_getElem (by omega : i < cur.size), List.getElem?_eq_getElem hi2]
        simp only [Option.map_some]
        rw [if_pos ⟨by omega, by simpa using hi2⟩]
        simp [hi2]
      · rw [if_neg hi]
        exact (List.getElem?_eq_none (by rw [dcl_length]; omega)).symm
    · refine ⟨rfl, rfl, rfl, ?_, fun j hj => ?_⟩
      · exact size_sortWorldK_c dgCells 5 w g 0 n d' os
      · unfold sortWorldK putRowK putRow mapBlock grow Go.Sort.ahead
        simp only
        rw [Array.getElem?_append_left (by simpa using hj.1), Array.getElem?_modify, if_neg (fun e => hj.2 e.symm)]

theorem sorted_list {d : Array Dg} (h : SortedIn (ltOf cmpD) 0 d.size d) : SortedD d.toList := by
  unfold SortedD
  rw [List.pairwise_iff_getElem]
  intro i j hi hj hij
  have hj' : j < d.size := by simpa using hj
  have := h i j (Nat.zero_le _) hij hj'
  rw [cmpD_lt, getElem!_pos d j hj', getElem!_pos d i (by omega)] at this
  simpa using this

set_option maxHeartbeats 1000000 in
theorem sort_any (B g cap : Nat) (l : List Dg) (w : World) (h : OwnsD w B (.slice (some ⟨g, 0, none⟩) l.length cap) l) (hl : l.length ≤ 1000000) :
    Calls Tryz.prog 57 #[.slice (some ⟨g, 0, none⟩) l.length cap, .func (.func 58) #[] #[]] w fun e w' => e = .returned (.tuple #[]) ∧ OwnsD w' B (.slice (some ⟨g, 0, none⟩) l.length cap) (isort l) ∧ Fr (fun j => j < w.heap.size ∧ j ≠ g) w w' := by
  have hsz : l.toArray.size = l.length := by simp
  have h' : OwnsD w B (.slice (some ⟨g, 0, none⟩) l.toArray.size cap) l.toArray.toList := by rw [hsz]; exact h
  have hg : g < w.heap.size := (World.ownsRow.lt h g rfl).2
  have eg : ∀ args w, (callFunc 58 args).run Tryz.prog w = .ok (.enter 58 args) w := enters_of Tryz.func58 (by kernel_rfl) rfl
  have K := AnyQ.slices_SortFunc Tryz.sortDg 5 Tryz.isAgg73 Tryz.sizeOf73 dgCells (fun _ => rfl) (fun x u hu => dcl_one [x] u (by simpa [dcl] using hu)) cmpD swoD 58 #[] g 0 cap l.toArray w eg (cmp_lays g 0 _ w) (owns_holds h') hg (by rw [hsz]; omega)
  change Calls Tryz.prog 57 _ _ _ at K
  rw [hsz] at K
  refine K.mono ?_
  rintro e w' ⟨rfl, d', n, os, hp, hs, rfl⟩
  have hds : d'.size = l.toArray.size := by rw [hsz]; simpa using hp.1
  obtain ⟨q1, q2⟩ := owns_sorted (n := n) (os := os) h' hds
  rw [hsz] at q1
  have hperm : d'.toList.Perm l := by
    have h9 := hp.2.2
    have hdl : d'.size = l.length := by rw [hds, hsz]
    rw [show l.toArray.extract 0 l.length = l.toArray from by simp, show d'.extract 0 l.length = d' from by rw [← hdl]; simp] at h9
    simpa using h9
  have hso : SortedD d'.toList := sorted_list (by rw [hds, hsz]; exact hs)
  rw [isort_unique hperm hso] at q1
  exact ⟨rfl, q1, q2⟩
end Go.Proofs.YtcpojagfnpajeaaGreatDoorR.Ps

namespace Go.Proofs.YtcpojagfnpajeaaGreatDoorR.Ps
open Go.RowKit Go.Sort Go.Lib

theorem compL_snoc : ∀ (l : List Dg) (y : Dg) (hl : l ≠ []), compL (l ++ [y]) = compL l ++ (if l.getLast hl = y then [] else [y])
  | [], _, hl => absurd rfl hl
  | [x], y, _ => by
    by_cases e : x = y
    · subst e; simp [compL]
    · simp [compL, e]
  | x :: z :: r, y, _ => by
    have ih := compL_snoc (z :: r) y (by simp)
    simp only [List.cons_append] at ih ⊢
    rw [show (x :: z :: r).getLast (by simp) = (z :: r).getLast (by simp) from List.getLast_cons (by simp)]
    simp only [compL]
    split
    · exact ih
    · rw [ih]; rfl

theorem compL_upTo (l : List Dg) : ∀ m, m ≤ l.length → compL (l.take m) = compactUpTo l.toArray m
  | 0, _ => by simp [compL, compactUpTo]
  | m + 1, hm => by
    have ih := compL_upTo l m (by omega)
    have hx : l[m]? = some l[m] := List.getElem?_eq_getElem (by omega)
    rw [List.take_add_one, hx, compactUpTo_succ, ← ih]
    simp only [Option.toList_some]
    have e1 : l.toArray[m]! = l[m] := by simp [getElem!_pos, show m < l.length from by omega]
    rw [e1]
    by_cases h0 : m = 0
    · subst h0
      simp [compL, keeps]
    · have hne : l.take m ≠ [] := by
        intro e
        have h9 := congrArg List.length e
        rw [List.length_take, List.length_nil] at h9
        omega
      rw [compL_snoc _ _ hne]
      congr 1
      have e2 : (l.take m).getLast hne = l.toArray[m - 1]! := by
        rw [List.getLast_eq_getElem]
        simp [getElem!_pos, show m - 1 < l.length from by omega, List.length_take, show min m l.length = m from by omega]
      have hk : keeps l.toArray m = decide (l[m] ≠ l.toArray[m - 1]!) := by
        unfold keeps
        rw [e1]
        by_cases e : l[m] = l.toArray[m - 1]!
        · rw [decide_eq_false (fun q => q.elim h0 (fun q => q e)), decide_eq_false (fun q => q e)]
        · rw [decide_eq_true (Or.inr e), decide_eq_true e]
      rw [e2, hk]
      generalize l.toArray[m - 1]! = z
      generalize l[m] = u
      by_cases e : u = z
      · subst e; simp
      · have e' : ¬ z = u := fun q => e q.symm
        simp [e, e']
theorem compL_all (l : List Dg) : compL l = compactUpTo l.toArray l.length := by rw [← compL_upTo l l.length (Nat.le_refl _), List.take_length]

/-- Stores behind a place leave what is ahead of it. -/
theorem owns_cleared {B : Nat} {e : TypeId} {size g n cap : Nat} : ∀ (vs : List Value) (o : Nat) (w : World) (xs : List Value), w.ownsRow B e size (.slice (some ⟨g, 0, none⟩) n cap) n xs →
    ∃ xs', (w.setCells g o vs).ownsRow B e size (.slice (some ⟨g, 0, none⟩) n cap) n xs' ∧ (∀ i, i < o → xs'[i]? = xs[i]?) ∧ w.grownBy (w.setCells g o vs) (some g)
  | [], o, w, xs, h => ⟨xs, h, fun _ _ => rfl, ⟨rfl, rfl, rfl, Nat.le_refl _, fun _ _ _ => rfl⟩⟩
  | v :: vs, o, w, xs, h => by
    obtain ⟨h1, g1⟩ := h.stored o v
    obtain ⟨xs', h2, h3, g2⟩ := owns_cleared vs (o + 1) (w.setCell ⟨g, o, none⟩ v) (xs.set o v) h1
    exact ⟨xs', h2, fun i hi => by rw [h3 i (by omega), List.getElem?_set_ne (by omega)], g1.trans g2⟩
theorem owns_short {w : World} {B : Nat} {e : TypeId} {size g n cap m : Nat} {xs : List Value} (h : w.ownsRow B e size (.slice (some ⟨g, 0, none⟩) n cap) n xs) (hm : m ≤ n) : w.ownsRow B e size (.slice (some ⟨g, 0, none⟩) m cap) m (xs.take (m * size)) := by
  rcases h.2 with ⟨q, _⟩ | ⟨g', cap', cur, q, h1, h2, h3, h4, h5, h6⟩
  · cases q
  · cases q
    have hms : m * size ≤ n * size := Nat.mul_le_mul_right _ hm
    refine ⟨by rw [List.length_take, h.1]; omega, Or.inr ⟨g, cap, cur, rfl, h1, h2, by omega, h4, h5, ?_⟩⟩
    rw [← h6, List.take_take, show min (m * size) (n * size) = m * size from by omega]

theorem dcl_set (l : List Dg) (k : Nat) (x : Dg) (hk : k < l.length) : dcl (l.set k x) = (((((dcl l).set (k * 5) (.int .i64 x.c)).set (k * 5 + 1) (.int .i64 0)).set (k * 5 + 2) (.int .i64 x.s)).set (k * 5 + 3) (.int .i64 x.e)).set (k * 5 + 4) (.string ⟨#[]⟩) := by
  induction l generalizing k with
  | nil => simp at hk
  | cons y r ih =>
    have e : ∀ z q, dcl (z :: q) = dgCells z ++ dcl q := fun _ _ => rfl
    have hl : (dgCells y).length = 5 := rfl
    cases k with
    | zero => rfl
    | succ k =>
      simp only [List.set_cons_succ, e]
      rw [ih k (by simpa using hk)]
      rw [List.set_append_right _ _ (by omega), List.set_append_right _ _ (by omega), List.set_append_right _ _ (by omega), List.set_append_right _ _ (by omega), List.set_append_right _ _ (by omega), hl]
      simp only [show (k + 1) * 5 - 5 = k * 5 from by omega, show (k + 1) * 5 + 1 - 5 = k * 5 + 1 from by omega, show (k + 1) * 5 + 2 - 5 = k * 5 + 2 from by omega, show (k + 1) * 5 + 3 - 5 = k * 5 + 3 from by omega, show (k + 1) * 5 + 4 - 5 = k * 5 + 4 from by omega]

theorem five {w : World} {B g cap n : Nat} {l : List Dg} (h : OwnsD w B (.slice (some ⟨g, 0, none⟩) n cap) l) {i : Nat} {x : Dg} (hx : l[i]? = some x) :
    (w.cell? ⟨g, i * 5, none⟩ = some (.int .i64 x.c) ∧ w.cell? ⟨g, i * 5 + 1, none⟩ = some (.int .i64 0) ∧ w.cell? ⟨g, i * 5 + 2, none⟩ = some (.int .i64 x.s) ∧ w.cell? ⟨g, i * 5 + 3, none⟩ = some (.int .i64 x.e) ∧ w.cell? ⟨g, i * 5 + 4, none⟩ = some (.string ⟨#[]⟩)) ∧
    (w.frozen? ⟨g, i * 5, none⟩ = false ∧ w.frozen? ⟨g, i * 5 + 1, none⟩ = false ∧ w.frozen? ⟨g, i * 5 + 2, none⟩ = false ∧ w.frozen? ⟨g, i * 5 + 3, none⟩ = false ∧ w.frozen? ⟨g, i * 5 + 4, none⟩ = false) := by
  have hi := (List.getElem?_eq_some_iff.1 hx).1
  rcases h.2 with ⟨q, _⟩ | ⟨g', cap', cur, q, h1, h2, h3, h4, h5, h6⟩
  · cases q
  · cases q
    have c : ∀ j u, (dgCells x)[j]? = some u → w.cell? ⟨g, i * 5 + j, none⟩ = some u := fun j u hu => by
      have h7 := dcl_at hx j u hu
      rw [← h6, List.getElem?_take] at h7
      split at h7
      · rw [Lib.cell_of_heap h2]; simpa using h7
      · cases h7
    exact ⟨⟨c 0 _ rfl, c 1 _ rfl, c 2 _ rfl, c 3 _ rfl, c 4 _ rfl⟩, Lib.frozen_of_heap h2 _, Lib.frozen_of_heap h2 _, Lib.frozen_of_heap h2 _, Lib.frozen_of_heap h2 _, Lib.frozen_of_heap h2 _⟩
end Go.Proofs.YtcpojagfnpajeaaGreatDoorR.Ps
