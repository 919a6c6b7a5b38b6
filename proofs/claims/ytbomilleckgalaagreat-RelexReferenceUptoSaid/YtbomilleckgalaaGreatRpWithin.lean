/-
  itemsWithin: how many items end within a length, and where the last of them ends; its contract.
-/
import Derived.Test.YtbomilleckgalaaGreatRpSrc
import Derived.Test.YtbomilleckgalaaGreatRpUpd
namespace Go.Proofs.YtbomilleckgalaaGreat.Ps
open Go.RowKit

theorem within_skip {L : Nat} {c : List Tree} {k e : Nat} {y : Tree} (hy : c[k]? = some y) (h : ¬ L < e + len y) : within L (c.drop k) e = ((within L (c.drop (k + 1)) (e + len y)).1 + 1, (within L (c.drop (k + 1)) (e + len y)).2) := by
  obtain ⟨hk, rfl⟩ := List.getElem?_eq_some_iff.1 hy
  have h' : ¬ L < e + (srcT c[k]).length := h
  rw [List.drop_eq_getElem_cons hk, within, if_neg h']
  rfl
theorem within_stop {L : Nat} {c : List Tree} {k e : Nat} {y : Tree} (hy : c[k]? = some y) (h : L < e + len y) : within L (c.drop k) e = (0, e) := by
  obtain ⟨hk, rfl⟩ := List.getElem?_eq_some_iff.1 hy
  have h' : L < e + (srcT c[k]).length := h
  rw [List.drop_eq_getElem_cons hk, within, if_pos h']

set_option maxRecDepth 100000 in
set_option maxHeartbeats 4000000 in
theorem within_any (x : Tree) (sa : Option Addr) (cap n L : Nat) (w : World) (hok : x.ok) (hk : Kids w (Pl w) n sa x.c) (hl : (srcs x.c).length ≤ 1000000) (hL : L ≤ 1000000) :
    Calls Tryz.prog 33 #[tv x sa cap, .int .i64 L] w fun e w' => e = .returned (.tuple #[.int .i64 ((within L x.c 0).1 : Nat), .int .i64 ((within L x.c 0).2 : Nat)]) ∧ Below w.heap.size w w' := by
  have HK := Lib.hid hk
  have hlen : x.c.length ≤ maxLen := hok.2.2
  unfold maxLen at hlen
  have HB0 : Hid (Below w.heap.size w (w.alloc (.cells #[.int .i64 x.k, .string x.t, .slice sa x.c.length cap] 40))) := (Below.refl _ _).alloc (Nat.le_refl _) _
  clear hk hok
  show Calls Tryz.prog 33 #[.agg #[.int .i64 x.k, .string x.t, .slice sa x.c.length cap], .int .i64 L] w _
  generalize hcc : x.c = c at *
  generalize x.k = kk at *
  generalize x.t = tt at *
  go_enter Tryz.func33, Tryz.ntmps33
  go_wp2_with fail
  go_loopw [4, 5, 12] (fun q s i wr => ∃ k : Nat, k ≤ c.length ∧ i = .int .i64 k ∧ q = .int .i64 k ∧ s = .int .i64 ((srcs (c.take k)).length : Nat) ∧ Below w.heap.size w wr ∧ Hid (within L c 0 = (k + (within L (c.drop k) (srcs (c.take k)).length).1, (within L (c.drop k) (srcs (c.take k)).length).2)))
    (fun _ _ i _ => c.length - (intOf i).toNat)
  case atStart => exact ⟨0, Nat.zero_le _, rfl, rfl, by simp [srcs], HB0.out, (by show within L c 0 = _; simp [srcs])⟩
  case round =>
    obtain ⟨k, hk, rfl, rfl, rfl, hb, hW⟩ := hrel
    have hzw := hb.size
    by_cases hlt : k < c.length
    · have hx : c[k]? = some c[k] := List.getElem?_eq_getElem hlt
      obtain ⟨y, hY⟩ : ∃ y, y = c[k] := ⟨_, rfl⟩
      rw [← hY] at hx
      clear hY
      have HKR : Hid (Kids wr (Pl wr) n sa c) := (HK.out.kept (kept_of_below hb fun j hj => hj.lt)).up (fun j hj => hj.below hb) (Nat.le_refl _)
      obtain ⟨hok', m, b, o, sa', cap', hm, rfl, _, p0, p1, p2, hk'⟩ := HKR.out.at hx
      have hk0 : (0 : Int) ≤ (k : Int) := by omega
      have hk1 : (k : Int) < (c.length : Int) := by omega
      have hst := srcs_take hx
      have hle := srcs_take_le c (k + 1)
      have hly := len_le hx
      have HX := Lib.hid hx
      obtain ⟨W0, hW0⟩ : ∃ W0, W0 = wr.alloc (treeBox y.k y.t (.slice sa' y.c.length cap')) := ⟨_, rfl⟩
      have HB1 : Hid (Below wr.heap.size wr W0) := by rw [hW0]; exact (Below.refl _ _).alloc (Nat.le_refl _) _
      have HS := Lib.hid (source_any y sa' cap' m W0 hok' ((hk'.kept (kept_of_below HB1.out fun j hj => hj.lt)).up (fun j hj => hj.below HB1.out) (Nat.le_refl _)) (by omega))
      have hbz : (Lx.bs (srcT y)).size = len y := by unfold len; rw [← Lx.L_len, Lx.L_bs]
      clear hx hk' hok'
      go_wp2_with fail
      rw [show (World.alloc wr (.cells #[.int .i64 y.k, .string y.t, .slice sa' y.c.length cap'] 40)) = W0 from hW0.symm]
      refine HS.out.mono ?_
      rintro e w3 ⟨rfl, hb3⟩
      have HB3 := Lib.hid ((hb.trans (HB1.out.mono hzw)).trans (hb3.mono (Nat.le_trans hzw HB1.out.size)))
      generalize Lx.bs (srcT y) = sy at *
      by_cases hbr : L < (srcs (c.take k)).length + len y
      · have HR : Hid (within L c 0 = (k, (srcs (c.take k)).length)) := by
          show _ = _
          rw [hW.out, within_stop HX.out hbr]; rfl
        have hbi : (L : Int) < ((srcs (c.take k)).length : Int) + (sy.size : Int) := by omega
        clear hb3
        go_wp2_with fail
        first | go_ret2 | go_ret
        exact ⟨by rw [HR.out]; rfl, HB3.out⟩
      · have HR : Hid (within L c 0 = (k + 1 + (within L (c.drop (k + 1)) (srcs (c.take (k + 1))).length).1, (within L (c.drop (k + 1)) (srcs (c.take (k + 1))).length).2)) := by
          show _ = _
          rw [hW.out, within_skip HX.out hbr, hst]
          simp only [Prod.mk.injEq, and_true]
          omega
        have hbi : ((srcs (c.take k)).length : Int) + (sy.size : Int) ≤ (L : Int) := by omega
        clear hb3
        go_wp2_with fail
        case roundEnd => exact ⟨⟨k + 1, by omega, by go_num, by go_num, by rw [hst]; simp, HB3.out, HR⟩, by simp [intOf]; omega⟩
    · have HR : Hid (within L c 0 = (k, (srcs (c.take k)).length)) := by
        show _ = _
        rw [hW.out, List.drop_eq_nil_of_le (by omega)]; rfl
      go_wp2_with fail
      first | go_ret2 | go_ret
      exact ⟨by rw [HR.out]; rfl, hb⟩
end Go.Proofs.YtbomilleckgalaaGreat.Ps
