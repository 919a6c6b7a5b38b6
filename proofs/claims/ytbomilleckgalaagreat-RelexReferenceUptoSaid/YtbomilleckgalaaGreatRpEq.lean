/-
  equal, and slices.EqualFunc with it: true where both are one tree, and only there.
-/
import Derived.Test.YtbomilleckgalaaGreatPsBase
import Derived.Test.YtbomilleckgalaaGreatGtSame2
import Derived.Laws.EntriesVeiled
import Derived.Shelf.Abstract
namespace Go.Proofs.YtbomilleckgalaaGreat.Ps
open Go.RowKit Go.Shelf

def eqF : Value := .func (.func 32) #[] #[]
/-- What an equality leaves. -/
def EqB (P : Prop) (w : World) (e : Ending) (w' : World) : Prop := Below w.heap.size w w' ∧ ∃ b : Bool, e = .returned (.bool b) ∧ (b = true ↔ P)

set_option maxRecDepth 100000 in
set_option maxHeartbeats 4000000 in
theorem equal_of (n : Nat) (h : ∀ (l k : List Tree) (a1 : Option Addr) (c1 : Nat) (m : Nat) (a2 : Option Addr) (c2 : Nat) (w : World), l.length ≤ maxLen → k.length ≤ maxLen → Kids w (· < w.heap.size) n a1 l → Kids w (· < w.heap.size) m a2 k →
      Calls Tryz.prog 61 #[.slice a1 l.length c1, .slice a2 k.length c2, eqF] w (EqB (l = k) w))
    (x y : Tree) (a1 : Option Addr) (c1 : Nat) (m : Nat) (a2 : Option Addr) (c2 : Nat) (w : World) (hok : x.ok) (hok2 : y.ok) (hk1 : Kids w (· < w.heap.size) n a1 x.c) (hk2 : Kids w (· < w.heap.size) m a2 y.c) :
    Calls Tryz.prog 32 #[tv x a1 c1, tv y a2 c2] w (EqB (x = y) w) := by
  obtain ⟨W0, hW0⟩ : ∃ W0, W0 = (w.alloc (treeBox x.k x.t (.slice a1 x.c.length c1))).alloc (treeBox y.k y.t (.slice a2 y.c.length c2)) := ⟨_, rfl⟩
  have HB0 : Hid (Below w.heap.size w W0) := by rw [hW0]; exact ((Below.refl _ _).alloc (Nat.le_refl _) _).alloc (by simp) _
  have HE := Lib.hid (h x.c y.c a1 c1 m a2 c2 W0 hok.2.2 hok2.2.2 (hk1.to HB0.out) (hk2.to HB0.out))
  have HX : Hid (x = y ↔ (x.k = y.k ∧ x.t = y.t ∧ x.c = y.c)) := ⟨fun e => by rw [e]; exact ⟨rfl, rfl, rfl⟩, fun e => tree_ext e.1 e.2.1 e.2.2⟩
  clear hk1 hk2 h hok hok2
  show Calls Tryz.prog 32 #[.agg #[.int .i64 x.k, .string x.t, .slice a1 x.c.length c1], .agg #[.int .i64 y.k, .string y.t, .slice a2 y.c.length c2]] w _
  by_cases hkk : x.k = y.k
  · by_cases htt : x.t = y.t
    · rw [← hkk, ← htt]
      rw [← hkk, ← htt] at hW0
      have HXC : Hid (x = y ↔ x.c = y.c) := HX.out.trans ⟨fun e => e.2.2, fun e => ⟨hkk, htt, e⟩⟩
      clear hkk htt HX
      generalize x.k = kk at *
      generalize x.t = tt at *
      go_enter Tryz.func32, Tryz.ntmps32
      go_wp2_with fail
      rw [show (World.alloc (World.alloc w (.cells #[.int .i64 kk, .string tt, .slice a1 x.c.length c1] 40)) (.cells #[.int .i64 kk, .string tt, .slice a2 y.c.length c2] 40)) = W0 from hW0.symm]
      refine HE.out.mono ?_
      rintro e w1 ⟨hb1, b, rfl, hbb⟩
      have HB1 := Lib.hid (HB0.out.trans (hb1.mono HB0.out.size))
      have HBB := Lib.hid (hbb.trans HXC.out.symm)
      clear hb1 hbb
      go_wp2_with fail
      go_ret
      exact ⟨HB1.out, b, rfl, HBB.out⟩
    · have HN : Hid (¬ x = y) := fun e => htt (by rw [e])
      rw [← hkk]
      rw [← hkk] at hW0
      generalize x.k = kk at *
      have hte := text_ne htt
      clear HX HE
      generalize x.t = tx at *
      generalize y.t = ty at *
      clear hkk
      go_enter Tryz.func32, Tryz.ntmps32
      go_wp2_with fail
      go_ret
      rw [hW0] at HB0
      exact ⟨HB0.out, false, rfl, ⟨fun e => (by cases e), fun e => absurd e HN.out⟩⟩
  · have HN : Hid (¬ x = y) := fun e => hkk (by rw [e])
    clear HX HE
    generalize x.k = kx at *
    generalize y.k = ky at *
    go_enter Tryz.func32, Tryz.ntmps32
    go_wp2_with fail
    go_ret
    rw [hW0] at HB0
    exact ⟨HB0.out, false, rfl, ⟨fun e => (by cases e), fun e => absurd e HN.out⟩⟩

set_option maxRecDepth 100000 in
set_option maxHeartbeats 4000000 in
theorem eqf_any : ∀ (n : Nat) (l k : List Tree) (a1 : Option Addr) (c1 : Nat) (m : Nat) (a2 : Option Addr) (c2 : Nat) (w : World), l.length ≤ maxLen → k.length ≤ maxLen → Kids w (· < w.heap.size) n a1 l → Kids w (· < w.heap.size) m a2 k →
      Calls Tryz.prog 61 #[.slice a1 l.length c1, .slice a2 k.length c2, eqF] w (EqB (l = k) w) := by
  intro n
  induction n using Nat.strongRecOn with
  | ind n ih =>
  intro l k a1 c1 n2 a2 c2 w hlen hlen2 hk1 hk2
  unfold maxLen at hlen hlen2
  have H1 := Lib.hid hk1
  have H2 := Lib.hid hk2
  clear hk1 hk2
  have he := enters_of Tryz.func32 (by kernel_rfl) rfl
  by_cases hll : l.length = k.length
  · have HLL := Lib.hid hll
    show Calls Tryz.prog 61 #[.slice a1 l.length c1, .slice a2 k.length c2, .func (.func 32) #[] #[]] w _
    rw [← hll]
    clear hll hlen2
    go_enter Tryz.func61, Tryz.ntmps61
    go_wp2_with fail
    go_loopw [17] (fun i wr => ∃ j : Nat, j ≤ l.length ∧ i = .int .i64 j ∧ Below w.heap.size w wr ∧ Hid (l.take j = k.take j))
      (fun i _ => l.length - (intOf i).toNat)
    case atStart => exact ⟨0, Nat.zero_le _, rfl, Below.refl _ _, rfl⟩
    case round =>
      obtain ⟨j, hj, rfl, hb, hT⟩ := hrel
      have hzw := hb.size
      by_cases hlt : j < l.length
      · have hx : l[j]? = some l[j] := List.getElem?_eq_getElem hlt
        obtain ⟨p, hP⟩ : ∃ p, p = l[j] := ⟨_, rfl⟩
        rw [← hP] at hx
        clear hP
        have hlt2 : j < k.length := by rw [← HLL.out]; exact hlt
        have hy : k[j]? = some k[j] := List.getElem?_eq_getElem hlt2
        obtain ⟨q, hQ⟩ : ∃ q, q = k[j] := ⟨_, rfl⟩
        rw [← hQ] at hy
        clear hQ hlt2
        obtain ⟨hok', m, b, o, sa, cap', hm, rfl, hbl, p0, p1, p2, hk'⟩ := (H1.out.to hb).at hx
        obtain ⟨hok2', m2, b2, o2, sa2, cap2, _, rfl, hbl2, q0, q1, q2, hk2⟩ := (H2.out.to hb).at hy
        have hk0 : (0 : Int) ≤ (j : Int) := by omega
        have hk1 : (j : Int) < (l.length : Int) := by omega
        obtain ⟨W0, hW0⟩ : ∃ W0, W0 = (wr.alloc (treeBox p.k p.t (.slice sa p.c.length cap'))).alloc (treeBox q.k q.t (.slice sa2 q.c.length cap2)) := ⟨_, rfl⟩
        have HB0 : Hid (Below wr.heap.size wr W0) := by rw [hW0]; exact ((Below.refl _ _).alloc (Nat.le_refl _) _).alloc (by simp) _
        have HE := Lib.hid (equal_of m (ih m hm) p q sa cap' m2 sa2 cap2 W0 hok' hok2' (hk'.to HB0.out) (hk2.to HB0.out))
        have HX := Lib.hid hx
        have HY := Lib.hid hy
        clear hx hy hk' hk2 hok' hok2'
        have r0 : (wr.alloc (.cells #[.int .i64 p.k, .string p.t, .slice sa p.c.length cap'] 40)).cell? ⟨b2, o2 + j * 3, none⟩ = some (.int .i64 q.k) := (((Below.refl wr.heap.size wr).alloc (Nat.le_refl _) _).cell (p := ⟨b2, o2 + j * 3, none⟩) hbl2).trans q0
        have r1 : (wr.alloc (.cells #[.int .i64 p.k, .string p.t, .slice sa p.c.length cap'] 40)).cell? ⟨b2, o2 + j * 3 + 1, none⟩ = some (.string q.t) := (((Below.refl wr.heap.size wr).alloc (Nat.le_refl _) _).cell (p := ⟨b2, o2 + j * 3 + 1, none⟩) hbl2).trans q1
        have r2 : (wr.alloc (.cells #[.int .i64 p.k, .string p.t, .slice sa p.c.length cap'] 40)).cell? ⟨b2, o2 + j * 3 + 2, none⟩ = some (.slice sa2 q.c.length cap2) := (((Below.refl wr.heap.size wr).alloc (Nat.le_refl _) _).cell (p := ⟨b2, o2 + j * 3 + 2, none⟩) hbl2).trans q2
        go_wp2_with fail
        rw [show (World.alloc (World.alloc wr (.cells #[.int .i64 p.k, .string p.t, .slice sa p.c.length cap'] 40)) (.cells #[.int .i64 q.k, .string q.t, .slice sa2 q.c.length cap2] 40)) = W0 from hW0.symm]
        refine HE.out.mono ?_
        rintro e w3 ⟨hb1, bb, rfl, hbb⟩
        have HB3 := Lib.hid ((hb.trans (HB0.out.mono hzw)).trans (hb1.mono (Nat.le_trans hzw HB0.out.size)))
        have HBB := Lib.hid hbb
        clear hb1 hbb
        go_wp2_with fail
        case roundEnd =>
          have hbt : bb = true := by cases bb <;> simp_all
          exact ⟨⟨j + 1, by omega, by go_num, HB3.out, take_step hT.out HX.out HY.out (HBB.out.1 hbt)⟩, by simp [intOf]; omega⟩
        have hbf : ¬ p = q := fun e => by have := HBB.out.2 e; subst this; simp_all
        have HN : Hid (¬ l = k) := fun e => by
          have h1 := HX.out
          rw [e, HY.out] at h1
          exact hbf (Option.some.inj h1).symm
        go_ret
        exact ⟨HB3.out, false, rfl, ⟨fun e => (by cases e), fun e => absurd e HN.out⟩⟩
      · have hall : Hid (l = k) := by
          show l = k
          have := hT.out
          rwa [List.take_of_length_le (by omega), List.take_of_length_le (by have := HLL.out; omega)] at this
        clear hT
        go_wp2_with fail
        go_ret
        exact ⟨hb, true, rfl, ⟨fun _ => hall.out, fun _ => rfl⟩⟩
  · have hli : ¬ (l.length : Int) = (k.length : Int) := by omega
    have HN : Hid (¬ l = k) := fun e => hll (by rw [e])
    go_enter Tryz.func61, Tryz.ntmps61
    go_wp2_with fail
    go_ret
    exact ⟨Below.refl _ _, false, rfl, ⟨fun e => (by cases e), fun e => absurd e HN.out⟩⟩

theorem equal_any (n : Nat) (x y : Tree) (a1 : Option Addr) (c1 : Nat) (m : Nat) (a2 : Option Addr) (c2 : Nat) (w : World) (hok : x.ok) (hok2 : y.ok) (hk1 : Kids w (· < w.heap.size) n a1 x.c) (hk2 : Kids w (· < w.heap.size) m a2 y.c) :
    Calls Tryz.prog 32 #[tv x a1 c1, tv y a2 c2] w (EqB (x = y) w) := equal_of n (eqf_any n) x y a1 c1 m a2 c2 w hok hok2 hk1 hk2
end Go.Proofs.YtbomilleckgalaaGreat.Ps
