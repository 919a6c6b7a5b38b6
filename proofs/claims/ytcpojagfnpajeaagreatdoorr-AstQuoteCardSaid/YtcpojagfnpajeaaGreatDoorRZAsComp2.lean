/-
  slices.Compact of diagnostics, by its contract.
-/
import Derived.Test.YtcpojagfnpajeaaGreatDoorRZAsOrd
namespace Go.Proofs.YtcpojagfnpajeaaGreatDoorR.Ps
open Go.RowKit Go.Sort Go.Lib

theorem arr_at {l : List Dg} {k : Nat} {x : Dg} (h : l[k]? = some x) : l.toArray[k]! = x := by
  have hk := (List.getElem?_eq_some_iff.1 h).1
  have hv := (List.getElem?_eq_some_iff.1 h).2
  rw [getElem!_pos l.toArray k (by simpa using hk)]
  simpa using hv
theorem clear_dg (w : World) (ty : TypeId) (g o n c : Nat) (hn : 0 < n) (hc : ∀ j, j < n * 5 → (w.cell? ⟨g, o + j, none⟩).isSome = true) (hf : ∀ j, j < n * 5 → w.frozen? ⟨g, o + j, none⟩ = false) :
    (Builtin.clear_ #[37] ty #[.slice (some ⟨g, o, none⟩) n c]).run Tryz.prog w = .ok (.tuple #[]) (w.setCells g o (Builtin.zeroCells #[.int .i64 0, .int .i64 0, .int .i64 0, .int .i64 0, .string ⟨#[]⟩] n).toList) := by
  have hlen : (Builtin.zeroCells #[.int .i64 0, .int .i64 0, .int .i64 0, .int .i64 0, .string ⟨#[]⟩] n).toList.length = n * 5 := by simp [Builtin.zeroCells]
  have hst := run_storeCells_cells (P := Tryz.prog) g o (Builtin.zeroCells #[.int .i64 0, .int .i64 0, .int .i64 0, .int .i64 0, .string ⟨#[]⟩] n).toList 0 w (by rw [hlen]; simpa using hc) (by rw [hlen]; simpa using hf) (by
    intro v hv
    simp only [Builtin.zeroCells, Array.toList_map, List.mem_map] at hv
    obtain ⟨i, _, rfl⟩ := hv
    have h5 : i % 5 < 5 := by omega
    generalize i % 5 = j at h5
    match j, h5 with
    | 0, _ => rfl
    | 1, _ => rfl
    | 2, _ => rfl
    | 3, _ => rfl
    | 4, _ => rfl)
  simp only [Nat.add_zero] at hst
  obtain ⟨m, rfl⟩ : ∃ m, n = m + 1 := ⟨n - 1, by omega⟩
  simp [Builtin.clear_, run_underlying Tryz.underlying37, hst, Value.cells]

/-- Five stores. -/
def put5 (w : World) (g o : Nat) (x : Dg) : World := ((((w.setCell ⟨g, o, none⟩ (.int .i64 x.c)).setCell ⟨g, o + 1, none⟩ (.int .i64 0)).setCell ⟨g, o + 2, none⟩ (.int .i64 x.s)).setCell ⟨g, o + 3, none⟩ (.int .i64 x.e)).setCell ⟨g, o + 4, none⟩ (.string ⟨#[]⟩)
theorem own_put5 {w : World} {B g cap n : Nat} {L : List Dg} (hn : L.length = n) (h : OwnsD w B (.slice (some ⟨g, 0, none⟩) n cap) L) {k : Nat} (hk : k < L.length) (x : Dg) :
    OwnsD (put5 w g (k * 5) x) B (.slice (some ⟨g, 0, none⟩) n cap) (L.set k x) ∧ w.grownBy (put5 w g (k * 5) x) (some g) := by
  subst hn
  obtain ⟨h1, g1⟩ := World.ownsRow.stored h (k * 5) (.int .i64 x.c)
  obtain ⟨h2, g2⟩ := h1.stored (k * 5 + 1) (.int .i64 0)
  obtain ⟨h3, g3⟩ := h2.stored (k * 5 + 2) (.int .i64 x.s)
  obtain ⟨h4, g4⟩ := h3.stored (k * 5 + 3) (.int .i64 x.e)
  obtain ⟨h5, g5⟩ := h4.stored (k * 5 + 4) (.string ⟨#[]⟩)
  refine ⟨?_, (((g1.trans g2).trans g3).trans g4).trans g5⟩
  show World.ownsRow _ _ _ _ _ _ _
  rw [List.length_set, dcl_set L k x hk]
  exact h5
theorem dg_ext {x y : Dg} (h1 : x.c = y.c) (h2 : x.s = y.s) (h3 : x.e = y.e) : x = y := by cases x; cases y; simp_all

theorem cells_some {w : World} {B g cap n : Nat} {l : List Dg} (h : OwnsD w B (.slice (some ⟨g, 0, none⟩) n cap) l) (i : Nat) (hi : i < l.length * 5) : (w.cell? ⟨g, i, none⟩).isSome = true ∧ w.frozen? ⟨g, i, none⟩ = false := by
  obtain ⟨x, hx⟩ : ∃ x, l[i / 5]? = some x := ⟨_, List.getElem?_eq_getElem (by omega)⟩
  obtain ⟨⟨c0, c1, c2, c3, c4⟩, f0, f1, f2, f3, f4⟩ := five h hx
  obtain ⟨a, ha⟩ : ∃ a, a = i / 5 * 5 := ⟨_, rfl⟩
  rw [← ha] at c0 c1 c2 c3 c4 f0 f1 f2 f3 f4
  obtain e | e | e | e | e : i = a ∨ i = a + 1 ∨ i = a + 2 ∨ i = a + 3 ∨ i = a + 4 := by omega
  · rw [e]; exact ⟨by rw [c0]; rfl, f0⟩
  · rw [e]; exact ⟨by rw [c1]; rfl, f1⟩
  · rw [e]; exact ⟨by rw [c2]; rfl, f2⟩
  · rw [e]; exact ⟨by rw [c3]; rfl, f3⟩
  · rw [e]; exact ⟨by rw [c4]; rfl, f4⟩
theorem dcl_take : ∀ (l : List Dg) (k : Nat), dcl (l.take k) = (dcl l).take (k * 5)
  | l, 0 => by rw [List.take_zero, Nat.zero_mul, List.take_zero]; rfl
  | [], k + 1 => by rw [List.take_nil]; exact (List.take_nil).symm
  | x :: r, k + 1 => by
    have e : ∀ z q, dcl (z :: q) = dgCells z ++ dcl q := fun _ _ => rfl
    have hl : (dgCells x).length = 5 := rfl
    rw [List.take_succ_cons, e, e, dcl_take r k, List.take_append, List.take_of_length_le (l := dgCells x) (by omega), hl, show (k + 1) * 5 - 5 = k * 5 from by omega]

set_option maxHeartbeats 40000000 in
set_option maxRecDepth 100000 in
theorem compact_any (B g cap : Nat) (l : List Dg) (w : World) (h : OwnsD w B (.slice (some ⟨g, 0, none⟩) l.length cap) l) (hl : l.length ≤ 1000000) :
    Calls Tryz.prog 59 #[.slice (some ⟨g, 0, none⟩) l.length cap] w fun e w' => e = .returned (.slice (some ⟨g, 0, none⟩) (compL l).length cap) ∧ OwnsD w' B (.slice (some ⟨g, 0, none⟩) (compL l).length cap) (compL l) ∧ Fr (fun j => j < w.heap.size ∧ j ≠ g) w w' := by
  have HO := Lib.hid h
  have hg : g < w.heap.size := (World.ownsRow.lt h g rfl).2
  clear h
  by_cases h2 : l.length < 2
  · have HC : Hid (compL l = l) := by
      show _ = _
      match l, h2 with
      | [], _ => rfl
      | [x], _ => rfl
    go_enter Tryz.func59, Tryz.ntmps59
    go_wp2_with fail
    go_ret
    rw [HC.out]
    exact ⟨rfl, HO.out, Fr.refl _ _⟩
  · go_enter Tryz.func59, Tryz.ntmps59
    go_wp2_with fail
    go_loopw [3] (fun s3 wr => ∃ k q : Nat, 1 ≤ k ∧ k ≤ l.length ∧ s3 = .int .i64 k ∧ Hid (wr = w.drewN q) ∧ Hid (∀ j, j < k → keeps l.toArray j = true))
      (fun i _ => l.length - (intOf i).toNat)
    case atStart => exact ⟨1, 0, Nat.le_refl _, by omega, rfl, Lib.hid rfl, Lib.hid (keeps_lt_one _)⟩
    case round =>
      obtain ⟨k, q, hk1, hk, rfl, hw, hall⟩ := hrel
      have HOr : Hid (OwnsD wr B (.slice (some ⟨g, 0, none⟩) l.length cap) l) := by rw [hw.out]; exact HO.out
      by_cases hlt : k < l.length
      · obtain ⟨x, hx⟩ : ∃ x, l[k]? = some x := ⟨_, List.getElem?_eq_getElem hlt⟩
        obtain ⟨m, hm⟩ : ∃ m, m = k - 1 := ⟨_, rfl⟩
        obtain ⟨y, hy⟩ : ∃ y, l[m]? = some y := ⟨_, List.getElem?_eq_getElem (by omega)⟩
        obtain ⟨⟨c0, c1, c2, c3, c4⟩, _⟩ := five HOr.out hx
        obtain ⟨⟨d0, d1, d2, d3, d4⟩, _⟩ := five HOr.out hy
        have hwm : IntKind.i64.wrap ((k : Int) - 1) = (m : Int) := by rw [hm]; simp [IntKind.wrap, IntKind.bits, IntKind.signed]; omega
        have hm0 : (0 : Int) ≤ (m : Int) := by omega
        have hm1 : (m : Int) < (l.length : Int) := by omega
        have hk0 : (0 : Int) ≤ (k : Int) := by omega
        have hk2 : (k : Int) < (l.length : Int) := by omega
        have HX := Lib.hid (And.intro hx (And.intro hy hm))
        have hwq := Lib.hid hw.out
        clear hx hy hm hw
        have HQ : Hid (wr.drew = w.drewN (q + 1)) := by rw [hwq.out]; rfl
        have HKP : Hid (x ≠ y → Hid (∀ j, j < k + 1 → keeps l.toArray j = true)) := by
          intro hne j hj
          by_cases e : j = k
          · subst e
            refine keeps_pos ?_
            rw [arr_at HX.out.1, ← HX.out.2.2, arr_at HX.out.2.1]
            exact hne
          · exact hall.out j (by omega)
        by_cases hc : x.c = y.c
        · by_cases hs : x.s = y.s
          · by_cases he : x.e = y.e
            · have hxy : x = y := dg_ext hc hs he
              have HD0 : Hid (CompInv l.toArray (k + 1) k l.toArray) := CompInv.start hall.out (keeps_neg (by omega) (by rw [arr_at HX.out.1, ← HX.out.2.2, arr_at HX.out.2.1, hxy]))
              have hcap : l.length ≤ cap := by
                rcases HOr.out.2 with ⟨q, _⟩ | ⟨g', cap', cur, q, _, _, q3, _⟩
                · cases q
                · cases q; exact q3
              have HF0 : Hid (Fr (fun j => j < w.heap.size ∧ j ≠ g) w wr.drew) := by rw [HQ.out]; exact ⟨rfl, rfl, rfl, Nat.le_refl _, fun _ _ => rfl⟩
              have HO0 : Hid (OwnsD wr.drew B (.slice (some ⟨g, 0, none⟩) l.length cap) l.toArray.toList) := HOr.out
              go_upto_region 6 with fail
              go_region
              clear c0 c1 c2 c3 c4 d0 d1 d2 d3 d4
              go_wp2_with fail
              go_loopw [3, 5] (fun s3 s5 wq => ∃ (kk k2 : Nat) (dk : Array Dg), s3 = .int .i64 kk ∧ s5 = .int .i64 k2 ∧ 1 ≤ k2 ∧ k + k2 ≤ l.length ∧ Hid (CompInv l.toArray (k + k2) kk dk) ∧ Hid (OwnsD wq B (.slice (some ⟨g, 0, none⟩) l.length cap) dk.toList) ∧ Hid (Fr (fun j => j < w.heap.size ∧ j ≠ g) w wq))
                (fun _ i _ => l.length - (intOf i).toNat)
              case atStart => exact ⟨k, 1, l.toArray, rfl, rfl, Nat.le_refl _, by omega, HD0, HO0, HF0⟩
              case round =>
                obtain ⟨kk, k2, dk, rfl, rfl, h1, hle, hI, hOd, hFd⟩ := hrel
                have hkk := hI.out.lt
                have hds : dk.toList.length = l.length := by have := hI.out.size; simpa using this
                have hdz : dk.size = l.length := by simpa using hds
                by_cases hlt2 : k + k2 < l.length
                · obtain ⟨u, hu⟩ : ∃ u, l[k + k2]? = some u := ⟨_, List.getElem?_eq_getElem hlt2⟩
                  obtain ⟨m2, hm2⟩ : ∃ m2, m2 = k2 - 1 := ⟨_, rfl⟩
                  obtain ⟨v, hv⟩ : ∃ v, l[k + m2]? = some v := ⟨_, List.getElem?_eq_getElem (by omega)⟩
                  have hdu : dk.toList[k + k2]? = some u := by
                    have h9 := hI.out.high (k + k2) (by omega)
                    rw [arr_at hu, getElem!_pos dk (k + k2) (by omega)] at h9
                    rw [Array.getElem?_toList, Array.getElem?_eq_getElem (by omega), h9]
                  have hdv : dk.toList[k + m2]? = some v := by
                    have h9 := hI.out.high (k + m2) (by omega)
                    rw [arr_at hv, getElem!_pos dk (k + m2) (by omega)] at h9
                    rw [Array.getElem?_toList, Array.getElem?_eq_getElem (by omega), h9]
                  obtain ⟨old, hold⟩ : ∃ old, dk.toList[kk]? = some old := ⟨_, List.getElem?_eq_getElem (by omega)⟩
                  obtain ⟨⟨c0, c1, c2, c3, c4⟩, _⟩ := five hOd.out hdu
                  obtain ⟨⟨d0, d1, d2, d3, d4⟩, _⟩ := five hOd.out hdv
                  obtain ⟨⟨o0, o1, o2, o3, o4⟩, f0, f1, f2, f3, f4⟩ := five hOd.out hold
                  rw [show (k + k2) * 5 = k * 5 + k2 * 5 from by omega] at c0 c1 c2 c3 c4
                  rw [show (k + m2) * 5 = k * 5 + m2 * 5 from by omega] at d0 d1 d2 d3 d4
                  have hwm2 : IntKind.i64.wrap ((k2 : Int) - 1) = (m2 : Int) := by rw [hm2]; simp [IntKind.wrap, IntKind.bits, IntKind.signed]; omega
                  have i0 : (0 : Int) ≤ (k2 : Int) := by omega
                  have i1 : (k2 : Int) < ((l.length - k : Nat) : Int) := by omega
                  have i2 : (0 : Int) ≤ (m2 : Int) := by omega
                  have i3 : (m2 : Int) < ((l.length - k : Nat) : Int) := by omega
                  have i4 : (0 : Int) ≤ (kk : Int) := by omega
                  have i5 : (kk : Int) < (l.length : Int) := by omega
                  have hkl1 : l.toArray[k + k2]! = u := arr_at hu
                  have hkl2 : l.toArray[k + k2 - 1]! = v := by rw [show k + k2 - 1 = k + m2 from by omega]; exact arr_at hv
                  have HKS : Hid (u = v → Hid (CompInv l.toArray (k + (k2 + 1)) kk dk)) := fun e => hI.out.skip (keeps_neg (by omega) (by rw [hkl1, hkl2, e]))
                  have HKE : Hid (u ≠ v → Hid (CompInv l.toArray (k + (k2 + 1)) (kk + 1) (dk.setIfInBounds kk u))) := fun e => by
                    have := hI.out.keep (by simpa using hlt2) (keeps_pos (by rw [hkl1, hkl2]; exact e))
                    rw [hkl1] at this
                    exact this
                  have HP := own_put5 hds hOd.out (k := kk) (by omega) u
                  have HP2 : Hid (Hid (OwnsD (put5 wr g (kk * 5) u).drew B (.slice (some ⟨g, 0, none⟩) l.length cap) (dk.setIfInBounds kk u).toList) ∧ Hid (Fr (fun j => j < w.heap.size ∧ j ≠ g) w (put5 wr g (kk * 5) u).drew)) := by
                    refine ⟨?_, ?_⟩
                    · have hz := HP.1
                      rw [← Array.toList_setIfInBounds] at hz
                      exact hz
                    · have hz := hFd.out
                      exact ⟨HP.2.os.trans hz.os, HP.2.tape.trans hz.tape, HP.2.output.trans hz.output, Nat.le_trans hz.size HP.2.size, fun j hj => (HP.2.block j (by have := hz.size; show j < wr.heap.size; omega) (fun e => hj.2 (Option.some.inj e))).trans (hz.block j hj)⟩
                  clear HP hu hv hdu hdv hold hkl1 hkl2 hm2
                  by_cases huc : u.c = v.c
                  · by_cases hus : u.s = v.s
                    · by_cases hue : u.e = v.e
                      · have huv : u = v := dg_ext huc hus hue
                        have HS2 := Lib.hid (HKS.out huv)
                        clear huv o0 o1 o2 o3 o4 f0 f1 f2 f3 f4
                        go_upto_region 11 with fail
                        go_region
                        go_wp2_with fail
                        go_round
                        case rel => exact ⟨kk, k2 + 1, dk, rfl, by go_num, by omega, by omega, HS2.out, hOd, ⟨hFd.out.os, hFd.out.tape, hFd.out.output, hFd.out.size, hFd.out.block⟩⟩
                        case measure => simp [intOf]; omega
                      · have hne : u ≠ v := fun e => hue (by rw [e])
                        have HNE := Lib.hid (HKE.out hne)
                        clear hne HKE HKS
                        go_upto_region 11 with fail
                        go_region
                        go_upto_region 12 with fail
                        go_wp2_with fail
                        go_round
                        case rel =>
                          refine ⟨kk + 1, k2 + 1, dk.setIfInBounds kk u, by go_num, by go_num, by omega, by omega, HNE.out, ?_, ?_⟩
                          · rw [← huc, ← hus]; exact HP2.out.1
                          · rw [← huc, ← hus]; exact HP2.out.2
                        case measure => simp [intOf]; omega
                    · have hne : u ≠ v := fun e => hus (by rw [e])
                      have HNE := Lib.hid (HKE.out hne)
                      clear hne HKE HKS
                      go_upto_region 11 with fail
                      go_region
                      go_upto_region 12 with fail
                      go_wp2_with fail
                      go_round
                      case rel =>
                        refine ⟨kk + 1, k2 + 1, dk.setIfInBounds kk u, by go_num, by go_num, by omega, by omega, HNE.out, ?_, ?_⟩
                        · rw [← huc]; exact HP2.out.1
                        · rw [← huc]; exact HP2.out.2
                      case measure => simp [intOf]; omega
                  · have hne : u ≠ v := fun e => huc (by rw [e])
                    have HNE := Lib.hid (HKE.out hne)
                    clear hne HKE HKS
                    go_upto_region 11 with fail
                    go_region
                    go_upto_region 12 with fail
                    go_wp2_with fail
                    go_round
                    case rel =>
                      refine ⟨kk + 1, k2 + 1, dk.setIfInBounds kk u, by go_num, by go_num, by omega, by omega, HNE.out, ?_, ?_⟩
                      · exact HP2.out.1
                      · exact HP2.out.2
                    case measure => simp [intOf]; omega
                · have hkl : k + k2 = l.length := by omega
                  have hC : Hid (compL l = dk.toList.take kk) := by
                    show _ = _
                    have hL := hI.out.len
                    rw [hkl] at hL
                    rw [compL_all]
                    apply List.ext_getElem?
                    intro j
                    by_cases hj : j < kk
                    · have h9 := hI.out.low j hj
                      rw [hkl] at h9
                      rw [h9, List.getElem?_take, if_pos hj, Array.getElem?_toList, Array.getElem?_eq_getElem (by omega), getElem!_pos dk j (by omega)]
                    · rw [List.getElem?_eq_none (by omega), List.getElem?_eq_none (by rw [List.length_take]; omega)]
                  have hlen : Hid ((compL l).length = kk) := by
                    show _ = _
                    rw [hC.out, List.length_take]; omega
                  have hcl := fun ty => clear_dg wr ty g (kk * 5) (l.length - kk) (cap - kk) (by omega) (fun j hj => (cells_some hOd.out (kk * 5 + j) (by omega)).1) (fun j hj => (cells_some hOd.out (kk * 5 + j) (by omega)).2)
                  generalize (Builtin.zeroCells #[.int .i64 0, .int .i64 0, .int .i64 0, .int .i64 0, .string ⟨#[]⟩] (l.length - kk)).toList = vs at hcl
                  have hO3 := hOd.out
                  rw [← hds] at hO3
                  obtain ⟨xs', o1, o2, o3⟩ := owns_cleared vs (kk * 5) wr _ hO3
                  have o1' := owns_short o1 (m := kk) (by omega)
                  have ex : xs'.take (kk * 5) = dcl (compL l) := by
                    rw [hC.out, dcl_take]
                    apply List.ext_getElem?
                    intro j
                    rw [List.getElem?_take, List.getElem?_take]
                    split
                    · exact o2 j (by omega)
                    · rfl
                  rw [ex] at o1'
                  have hfin : Hid (OwnsD (wr.setCells g (kk * 5) vs) B (.slice (some ⟨g, 0, none⟩) (compL l).length cap) (compL l)) := by
                    show World.ownsRow _ _ _ _ _ _ _
                    rw [hlen.out]
                    exact o1'
                  have hF : Hid (Fr (fun j => j < w.heap.size ∧ j ≠ g) w (wr.setCells g (kk * 5) vs)) := by
                    have hz := hFd.out
                    exact ⟨o3.os.trans hz.os, o3.tape.trans hz.tape, o3.output.trans hz.output, Nat.le_trans hz.size o3.size, fun j hj => (o3.block j (by have := hz.size; omega) (fun e => hj.2 (Option.some.inj e))).trans (hz.block j hj)⟩
                  have i4 : (0 : Int) ≤ (kk : Int) := by omega
                  have i5 : (kk : Int) ≤ (l.length : Int) := by omega
                  have i6 : (kk : Int) ≤ (cap : Int) := by omega
                  clear o1 o2 o3 o1' ex hO3 hC hI hOd hFd
                  go_wp2_with fail
                  first
                    | (go_ret; exact ⟨by rw [hlen.out]; rfl, hfin.out, hF.out⟩)
                    | (refine ⟨_, rfl, ?_⟩; exact ⟨by rw [hlen.out]; rfl, hfin.out, hF.out⟩)
            · have hne : x ≠ y := fun e => he (by rw [e])
              go_upto_region 6 with fail
              go_region
              go_wp2_with fail
              go_round
              case rel => exact ⟨k + 1, q + 1, by omega, by omega, by go_num, HQ, HKP.out hne⟩
              case measure => simp [intOf]; omega
          · have hne : x ≠ y := fun e => hs (by rw [e])
            go_upto_region 6 with fail
            go_region
            go_wp2_with fail
            go_round
            case rel => exact ⟨k + 1, q + 1, by omega, by omega, by go_num, HQ, HKP.out hne⟩
            case measure => simp [intOf]; omega
        · have hne : x ≠ y := fun e => hc (by rw [e])
          go_upto_region 6 with fail
          go_region
          go_wp2_with fail
          go_round
          case rel => exact ⟨k + 1, q + 1, by omega, by omega, by go_num, HQ, HKP.out hne⟩
          case measure => simp [intOf]; omega
      · have hkl : k = l.length := by omega
        have HC : Hid (compL l = l) := by
          show _ = _
          rw [compL_all, compactUpTo_all _ _ (fun j hj => hall.out j (by omega))]
          have := range_map_get l.toArray
          simpa using this
        have HF : Hid (Fr (fun j => j < w.heap.size ∧ j ≠ g) w wr) := by rw [hw.out]; exact ⟨rfl, rfl, rfl, Nat.le_refl _, fun _ _ => rfl⟩
        clear hw hall
        go_wp2_with fail
        go_ret
        rw [HC.out]
        exact ⟨rfl, HOr.out, HF.out⟩
end Go.Proofs.YtcpojagfnpajeaaGreatDoorR.Ps
