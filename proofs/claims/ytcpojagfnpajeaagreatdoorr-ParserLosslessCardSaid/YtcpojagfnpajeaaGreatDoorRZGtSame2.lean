/-
  sameTree at any two trees: true where they are one tree, and only there.
-/
import Derived.Test.YtcpojagfnpajeaaGreatDoorRZGtSlim
import Derived.Deep.DeepCutAuto
namespace Go.Proofs.YtcpojagfnpajeaaGreatDoorR
open Go.RowKit

theorem tree_ext {x y : Tree} (hk : x.k = y.k) (ht : x.t = y.t) (hc : x.c = y.c) : x = y := by
  rw [Tree.eta x, Tree.eta y, hk, ht, hc]

theorem take_step {a b : List Tree} {k : Nat} {x y : Tree} (h : a.take k = b.take k) (hx : a[k]? = some x) (hy : b[k]? = some y) (he : x = y) : a.take (k + 1) = b.take (k + 1) := by
  rw [List.take_add_one, List.take_add_one, h, hx, hy, he]

/-- What sameTree leaves. -/
def EqPost (x y : Tree) (w : World) (e : Ending) (w' : World) : Prop := Below w.heap.size w w' ∧ ((x = y ∧ e = .returned (.bool true)) ∨ (¬ x = y ∧ e = .returned (.bool false)))
theorem EqPost.bool {x y : Tree} {w w' : World} {e : Ending} (h : EqPost x y w e w') : ∃ b : Bool, e = .returned (.bool b) ∧ (b = true ↔ x = y) := by
  rcases h.2 with ⟨he, rfl⟩ | ⟨he, rfl⟩
  · exact ⟨true, rfl, fun _ => he, fun _ => rfl⟩
  · exact ⟨false, rfl, fun e => (by cases e), fun e => absurd e he⟩
theorem text_ne {t1 t2 : ByteArray} (h : ¬ t1 = t2) : (t1.toList == t2.toList) = false := by
  rw [Bool.eq_false_iff]
  intro h1
  have h2 := eq_of_beq h1
  rw [ByteArray.toList_eq, ByteArray.toList_eq] at h2
  exact h (by cases t1; cases t2; simp at h2; simp [h2])

set_option maxRecDepth 100000 in
set_option maxHeartbeats 4000000 in
theorem tree_eq : ∀ (n : Nat) (x y : Tree) (a1 : Option Addr) (c1 : Nat) (m : Nat) (a2 : Option Addr) (c2 : Nat) (w : World), x.ok → y.ok → Kids w (· < w.heap.size) n a1 x.c → Kids w (· < w.heap.size) m a2 y.c →
    Calls Tryz.prog 16 #[tv x a1 c1, tv y a2 c2] w (EqPost x y w) := by
  intro n
  induction n using Nat.strongRecOn with
  | ind n ih =>
  intro x y a1 c1 n2 a2 c2 w hok hok2 hk1 hk2
  obtain ⟨_, _, hlen⟩ := hok
  obtain ⟨_, _, hlen2⟩ := hok2
  unfold maxLen at hlen hlen2
  have H1 := Lib.hid hk1
  have H2 := Lib.hid hk2
  clear hk1 hk2
  obtain ⟨W0, hW0⟩ : ∃ W0, W0 = (w.alloc (treeBox x.k x.t (.slice a1 x.c.length c1))).alloc (treeBox y.k y.t (.slice a2 y.c.length c2)) := ⟨_, rfl⟩
  have HB0 : Hid (Below w.heap.size w W0) := by rw [hW0]; exact ((Below.refl _ _).alloc (Nat.le_refl _) _).alloc (by simp) _
  have HZ0 : Hid (W0.heap.size = w.heap.size + 2) := by rw [hW0]; show _ = _; simp
  have HC0 : Hid (W0.cell? ⟨w.heap.size, 2, none⟩ = some (.slice a1 x.c.length c1) ∧ W0.cell? ⟨w.heap.size + 1, 2, none⟩ = some (.slice a2 y.c.length c2)) := by
    rw [hW0]
    constructor <;> simp [treeBox, go_sem]
  by_cases hkk : x.k = y.k
  · by_cases htt : x.t = y.t
    · by_cases hll : x.c.length = y.c.length
      · have HXY : Hid (x.c = y.c → x = y) := fun h => tree_ext hkk htt h
        have HLL := Lib.hid hll
        show Calls Tryz.prog 16 #[.agg #[.int .i64 x.k, .string x.t, .slice a1 x.c.length c1], .agg #[.int .i64 y.k, .string y.t, .slice a2 y.c.length c2]] w _
        rw [← hll, ← hkk, ← htt]
        rw [← hll, ← hkk, ← htt] at hW0
        rw [← hll] at HC0
        clear hkk htt hll hlen2
        generalize x.k = kk at *
        generalize x.t = tt at *
        go_enter Tryz.func16, Tryz.ntmps16
        go_wp2_with fail
        go_loopw [30] (fun i wr => ∃ k : Nat, k ≤ x.c.length ∧ i = .int .i64 k ∧ Below W0.heap.size W0 wr ∧ Hid (x.c.take k = y.c.take k))
          (fun i _ => x.c.length - (intOf i).toNat)
        case atStart => exact ⟨0, Nat.zero_le _, rfl, by rw [hW0]; exact Below.refl _ _, rfl⟩
        case round =>
          clear hW0
          obtain ⟨k, hk, rfl, hb, hT⟩ := hrel
          have hz := HZ0.out
          have hzw := hb.size
          have f0 : wr.cell? ⟨w.heap.size, 2, none⟩ = some (.slice a1 x.c.length c1) := (hb.cell (p := ⟨_, _, none⟩) (by simp; omega)).trans HC0.out.1
          have f1 : wr.cell? ⟨w.heap.size + 1, 2, none⟩ = some (.slice a2 x.c.length c2) := (hb.cell (p := ⟨_, _, none⟩) (by simp; omega)).trans HC0.out.2
          have hbw : Hid (Below w.heap.size w wr) := HB0.out.trans (hb.mono (by omega))
          clear hz
          by_cases hlt : k < x.c.length
          · have hx : x.c[k]? = some x.c[k] := List.getElem?_eq_getElem hlt
            obtain ⟨p, hP⟩ : ∃ p, p = x.c[k] := ⟨_, rfl⟩
            rw [← hP] at hx
            clear hP
            have hlt2 : k < y.c.length := by rw [← HLL.out]; exact hlt
            have hy : y.c[k]? = some y.c[k] := List.getElem?_eq_getElem hlt2
            obtain ⟨q, hQ⟩ : ∃ q, q = y.c[k] := ⟨_, rfl⟩
            rw [← hQ] at hy
            clear hQ hlt2
            obtain ⟨hok', m, b, o, sa, cap', hm, rfl, _, p0, p1, p2, hk'⟩ := (H1.out.to hbw.out).at hx
            obtain ⟨hok2', m2, b2, o2, sa2, cap2, _, rfl, _, q0, q1, q2, hk2⟩ := (H2.out.to hbw.out).at hy
            have hk0 : (0 : Int) ≤ (k : Int) := by omega
            have hk1 : (k : Int) < (x.c.length : Int) := by omega
            have HK1 := Lib.hid hk'
            have HK2 := Lib.hid hk2
            have HO1 := Lib.hid hok'
            have HO2 := Lib.hid hok2'
            have HX := Lib.hid hx
            have HY := Lib.hid hy
            clear hx hy hk' hk2 hok' hok2'
            go_wp2_with fail
            go_still_tail 10, (by kernel_rfl)
            change wpList _ _ _ _ _ wr.drew
            go_upto_region 7 with ((go_at_call 16; (with_reducible refine (ih m hm p q sa cap' m2 sa2 cap2 _ HO1.out HO2.out HK1.out.drew HK2.out.drew).mono ?_); intro e w' hp; obtain ⟨bb, rfl, hbb⟩ := hp.bool; have hb1 := hp.1; clear hp))
            case roundEnd =>
              have hbt : bb = true := by cases bb <;> simp_all
              exact ⟨⟨k + 1, by omega, by go_num, hb.trans (Below.mono (below_drew' hb1) (by simpa using hzw)), take_step hT.out HX.out HY.out (hbb.1 hbt)⟩, by simp [intOf]; omega⟩
            have hbf : ¬ p = q := fun e => by have := hbb.2 e; subst this; simp_all
            have HN : Hid (¬ x = y) := fun e => by
              have h1 := HX.out
              rw [e, HY.out] at h1
              exact hbf (Option.some.inj h1).symm
            have HBF : Hid (Below w.heap.size w w') := hbw.out.trans (Below.mono (below_drew' hb1) hbw.out.size)
            go_wp2_with fail
            go_ret
            exact ⟨HBF.out, Or.inr ⟨HN.out, rfl⟩⟩
          · have hall : x.c = y.c := by
              have := hT.out
              rwa [List.take_of_length_le (by omega), List.take_of_length_le (by have := HLL.out; omega)] at this
            have HE : Hid (x = y) := HXY.out hall
            clear hall hT
            go_wp2_with fail
            go_ret
            exact ⟨hbw.out, Or.inl ⟨HE.out, rfl⟩⟩
      · have HN : Hid (¬ x = y) := fun e => hll (by rw [e])
        have hli : ¬ (x.c.length : Int) = (y.c.length : Int) := by omega
        show Calls Tryz.prog 16 #[.agg #[.int .i64 x.k, .string x.t, .slice a1 x.c.length c1], .agg #[.int .i64 y.k, .string y.t, .slice a2 y.c.length c2]] w _
        rw [← hkk, ← htt]
        rw [← hkk, ← htt] at hW0
        generalize x.k = kk at *
        generalize x.t = tt at *
        clear hkk htt
        go_enter Tryz.func16, Tryz.ntmps16
        go_wp2_with fail
        go_ret
        rw [hW0] at HB0
        exact ⟨HB0.out, Or.inr ⟨HN.out, rfl⟩⟩
    · have HN : Hid (¬ x = y) := fun e => htt (by rw [e])
      show Calls Tryz.prog 16 #[.agg #[.int .i64 x.k, .string x.t, .slice a1 x.c.length c1], .agg #[.int .i64 y.k, .string y.t, .slice a2 y.c.length c2]] w _
      rw [← hkk]
      rw [← hkk] at hW0
      generalize x.k = kk at *
      have hte := text_ne htt
      generalize x.t = tx at *
      generalize y.t = ty at *
      clear hkk
      go_enter Tryz.func16, Tryz.ntmps16
      go_wp2_with fail
      go_ret
      rw [hW0] at HB0
      exact ⟨HB0.out, Or.inr ⟨HN.out, rfl⟩⟩
  · have HN : Hid (¬ x = y) := fun e => hkk (by rw [e])
    show Calls Tryz.prog 16 #[.agg #[.int .i64 x.k, .string x.t, .slice a1 x.c.length c1], .agg #[.int .i64 y.k, .string y.t, .slice a2 y.c.length c2]] w _
    generalize x.k = kx at *
    generalize y.k = ky at *
    go_enter Tryz.func16, Tryz.ntmps16
    go_wp2_with fail
    go_ret
    rw [hW0] at HB0
    exact ⟨HB0.out, Or.inr ⟨HN.out, rfl⟩⟩
end Go.Proofs.YtcpojagfnpajeaaGreatDoorR
