/-
  textedit.canonical by its contract.
-/
import Derived.Test.YtdmmoknddkfnmaaTraced
import Derived.WalkSpells
import Derived.Lib.Hide
namespace Go.Proofs.Ytdmmoknddkfnmaa
open Go.RowKit

theorem OwnsB.cut {w : World} {B : Nat} {ga : Option Addr} {n gc : Nat} {g : List UInt8} (h : OwnsB w B (.slice ga n gc) g) : OwnsB w B (.slice ga 0 gc) [] := by
  rcases h.2 with ⟨h1, h0⟩ | ⟨b, cap, cur, h1, hb, hg, hn, h2, h3, h4⟩
  · simp only [Value.slice.injEq] at h1
    obtain ⟨rfl, _, rfl⟩ := h1
    exact World.ownsRow_nil _ _ _ _
  · simp only [Value.slice.injEq] at h1
    obtain ⟨rfl, _, rfl⟩ := h1
    exact ⟨rfl, .inr ⟨b, _, cur, rfl, hb, hg, Nat.zero_le _, h2, h3, by simp [Lib.byteCells]⟩⟩

theorem grown_below {w w' : World} {row : Option Nat} (hg : w.grownBy w' row) {B : Nat} {a : World} (h : Below B a w) (hB : B ≤ w.heap.size) (hr : ∀ k, row = some k → B ≤ k) : Below B a w' := h.grown hg hB hr

set_option maxHeartbeats 1000000 in
set_option maxRecDepth 100000 in
theorem canon_any (n : Int) (a : Option Addr) (cap : Nat) (l : List Tb) (w : World) (hl : l.length ≤ 100000) (ho : ∀ x, x ∈ l → -1 ≤ x.o ∧ x.o ≤ 1000000000) (h : Tbs w w.heap.size a l) :
    Calls Try.prog 28 #[.int .i64 n, .slice a l.length cap] w fun e w' => ∃ v, e = .returned v ∧ Hid (Owns w' w.heap.size v (canonL n l)) ∧ Below w.heap.size w w' := by
  obtain ⟨i0, hi, hz0, hz1, hz2⟩ := info_parts info_byte
  go_enter Try.func28, Try.ntmps28
  go_wp2
  go_loopw [5, 6, 7, 12] (fun v gv p i wr => ∃ (k : Nat) (q : Int) (g : List UInt8) (acc : List Ed) (ga : Option Addr) (gc : Nat), k ≤ l.length ∧ i = .int .i64 k ∧ p = .int .i64 q ∧ 0 ≤ q ∧ q ≤ 1000000001 ∧ gv = .slice ga g.length gc ∧ acc.length ≤ k ∧ g.length ≤ k ∧
      Hid (canonL n l = acc ++ canonFrom n q g (l.drop k)) ∧ Hid (Owns wr w.heap.size v acc) ∧ Hid (OwnsB wr w.heap.size (.slice ga g.length gc) g) ∧ Below w.heap.size w wr)
    (fun _ _ _ i _ => l.length - (intOf i).toNat)
  case atStart => exact ⟨0, 0, [], [], none, 0, Nat.zero_le _, rfl, rfl, by omega, by omega, rfl, Nat.le_refl _, Nat.le_refl _, rfl, World.ownsRow_nil _ _ _ _, World.ownsRow_nil _ _ _ _, Below.refl _ _⟩
  case round =>
    obtain ⟨k, q, g, acc, ga, gc, hk, rfl, rfl, hq0, hq1, rfl, hak, hgk, hacc, hown, hgap, hb⟩ := hrel
    have hzw := hb.size
    by_cases hlt : k < l.length
    · have hx : l[k]? = some l[k] := List.getElem?_eq_getElem hlt
      obtain ⟨x, hX⟩ : ∃ x, x = l[k] := ⟨_, rfl⟩
      rw [← hX] at hx
      have hxm := ho x (by rw [hX]; exact List.getElem_mem hlt)
      obtain ⟨hx0, hx1⟩ := hxm
      clear hX
      obtain ⟨b, o, rfl, hbl, h0, h1⟩ := (h.below hb) k x hx
      have Hx := Lib.hid hx
      have HOO := Lib.hid ho
      clear hx ho
      by_cases hin : x.o = -1
      · have hacc2 := Lib.hid (canon_in Hx.out hacc.out hin)
        have hin2 : (x.o == -1) = true := by simp [hin]
        clear hin hacc
        go_wp2_with (at_builtin; refine wpList_append_own _ rfl _ _ 50 rfl w.heap.size 5 i0 _ 1 1 Try.underlying50 hi hz0 hz1 hz2 rfl (by decide) _ _ _ rfl ((hgap.out.alloc _).alloc _) ⟨wr.heap.size + 1, 0, none⟩ 1 1 [.int .u8 x.v.toNat] rfl rfl (World.news_of_block (by rw [show wr.heap.size + 1 = (wr.alloc (.cells #[.int .u8 x.v.toNat, .int .i64 x.o] 67)).heap.size from by simp]; exact heap_alloc_new _ _)) (by simp [Value.oneCell']) (by unfold maxLen; omega) (by omega) (by simp; omega) ?_)
        intro v' w1 hown' hgrow _
        have hgap2 : Hid (OwnsB w1 w.heap.size v' (g ++ [x.v])) := by
          show World.ownsRow _ _ _ _ _ _ _
          rw [List.length_append, Lib.byteCells, List.map_append]
          exact hown'
        have hown2 : Hid (Owns w1 w.heap.size u5 acc) := own_other ((hown.out.alloc _).alloc _) ((hgap.out.alloc _).alloc _) (by decide) hgrow
        have hb2 : Below w.heap.size w w1 := ((hb.alloc hzw _).alloc (by simp; omega) _).grown hgrow (by simp; omega) (fun j hj => (hgap.out.lt j hj).1)
        have hc1 : w1.cell? ⟨wr.heap.size, 1, none⟩ = some (.int .i64 x.o) := by
          rw [hgrow.cell_far _ (by simp; omega) (fun e => by have := (hgap.out.lt _ e.symm).2; simp at this)]
          simp
        obtain ⟨ga', gc', rfl, _, _⟩ := hgap2.out.form
        clear hown' hgrow hgap hown
        go_wp2
        go_roundw
        case rel => exact ⟨k + 1, q, g ++ [x.v], acc, ga', gc', by omega, by go_num, rfl, hq0, hq1, rfl, by omega, by simp; omega, hacc2, hown2, hgap2, hb2⟩
        case measure => simp [intOf]; omega
      · have hacc2 := Lib.hid (canon_out Hx.out hacc.out hin)
        have hin2 : (x.o == -1) = false := by simp [hin]
        have hx2 : 0 ≤ x.o := by omega
        clear hin hacc
        go_wp2_with fail
        refine (change_any w.heap.size _ _ acc _ _ g _ (hown.out.alloc _) (hgap.out.alloc _) (by omega) (by simp; omega)).mono ?_
        rintro e w1 ⟨v', rfl, hown2, hgrow⟩
        have hb2 : Below w.heap.size w w1 := (hb.alloc hzw _).grown hgrow.out (by simp; omega) (fun j hj => (hown.out.lt j hj).1)
        have hgap2 : Hid (OwnsB w1 w.heap.size (.slice ga 0 gc) []) := (show OwnsB w1 w.heap.size (.slice ga g.length gc) g from own_other (hgap.out.alloc _) (hown.out.alloc _) (by decide) hgrow.out).cut
        have hc1 : w1.cell? ⟨wr.heap.size, 1, none⟩ = some (.int .i64 x.o) := by
          rw [hgrow.out.cell_far _ (by simp) (fun e => by have := (hown.out.lt _ e.symm).2; simp at this)]
          simp
        have hal := addC_le q x.o g
        clear hgrow hgap hown
        go_wp2_with fail
        go_roundw
        case rel => exact ⟨k + 1, x.o + 1, [], _, ga, gc, by omega, by go_num, rfl, by omega, by omega, rfl, by simp; omega, by simp, hacc2, hown2, hgap2, hb2⟩
        case measure => simp [intOf]; omega
    · have hacc2 := Lib.hid (canon_end (by omega) hacc.out)
      clear hacc
      go_wp2_with fail
      refine (change_any w.heap.size _ _ acc _ _ g _ hown hgap (by omega) (by omega)).mono ?_
      rintro e w1 ⟨v', rfl, hown2, hgrow⟩
      have hb2 : Below w.heap.size w w1 := hb.grown hgrow.out (by omega) (fun j hj => (hown.out.lt j hj).1)
      have hfin : Hid (Owns w1 w.heap.size v' (canonL n l)) := by rw [hacc2.out]; exact hown2
      clear hgrow hgap hown hacc2 hown2
      go_wp2_with fail
      go_ret
      exact ⟨_, rfl, hfin, hb2⟩
end Go.Proofs.Ytdmmoknddkfnmaa
