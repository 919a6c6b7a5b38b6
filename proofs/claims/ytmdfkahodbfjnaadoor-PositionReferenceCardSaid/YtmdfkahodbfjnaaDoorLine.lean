/-
  glossatorref1.LineRunes by its contract.
-/
import Derived.Test.YtmdfkahodbfjnaaDoorRunes
namespace Go.Proofs.YtmdfkahodbfjnaaDoor
open Go.RowKit

theorem alloc_at {w : World} {m : Nat} (h : w.heap.size = m) (o : Obj) : (w.alloc o).heap[m]? = some o := by subst h; exact heap_alloc_new w o

set_option maxHeartbeats 2000000 in
set_option maxRecDepth 100000 in
theorem line_any (s : ByteArray) (q : Nat) (w : World) (hs : s.size ≤ 1000000) (hq : q ≤ s.size) :
    Calls Tryd.prog 22 #[.string s, .int .i64 q] w fun e w' => ∃ a cap, e = .returned (.slice a (lineAt s q).length cap) ∧ Hid (Rs w' w'.heap.size a (lineAt s q)) ∧ Below w.heap.size w w' := by
  obtain ⟨i0, hi, hz0, hz1, hz2⟩ := info_parts info_rune
  have hspec := le_spec hq
  unfold lineAt
  obtain ⟨stop, hstop⟩ : ∃ stop, stop = le s q := ⟨_, rfl⟩
  rw [← hstop] at hspec ⊢
  obtain ⟨st1, st2, st3, _⟩ := hspec
  have HST := Lib.hid st3
  have HLE := Lib.hid hstop
  clear st3 hstop
  go_enter Tryd.func22, Tryd.ntmps22
  go_wp2_with fail
  go_loop [5] (fun j => ∃ (p : Nat), j = .int .i64 p ∧ q ≤ p ∧ p ≤ s.size ∧ Hid (stop = le s p)) (fun j => s.size - (intOf j).toNat)
  case atStart => exact ⟨q, rfl, Nat.le_refl _, hq, HLE⟩
  case round =>
    clear HLE
    obtain ⟨p, rfl, hqp, hps, hle⟩ := hrel
    by_cases hend : p = s.size
    · have he : stop = p := by rw [hle.out, le_stop (by omega)]
      subst he
      have hd0 : ¬ (stop : Int) < (s.size : Int) := by omega
      clear hend hps
      go_wp2_with fail
      clear hle
      have hz : (s.extract q stop).size = stop - q := by simp; omega
      obtain ⟨sub, hsub⟩ : ∃ sub, sub = s.extract q stop := ⟨_, rfl⟩
      rw [← hsub] at hz
      have HSUB := Lib.hid hsub
      clear hsub
      go_loopw [6] (fun v wr => ∃ (i : Nat) (acc : List R), q + i ≤ stop ∧ Hid (Far s stop q (q + i) acc) ∧ Hid (Step w w.heap.size sub i wr v acc) ∧ (acc = [] → v = .slice none 0 0))
        (fun _ wr => stop - q - wr.iterPos w.heap.size)
      case atStart => exact ⟨0, [], by omega, .inl ⟨rfl, rfl⟩, ⟨OwnsR.nil _ _, by rw [HSUB.out]; exact World.iter_heap w _ 0, (Below.refl _ _).alloc (Nat.le_refl _) _⟩, fun _ => rfl⟩
      case round =>
        obtain ⟨i, acc, hi2, hfar, hst, hnil⟩ := hrel
        have hip : wr.iterPos w.heap.size = i := by unfold World.iterPos; rw [hst.out.2.1]
        by_cases hlt : q + i < stop
        · have hnx := fun ty => Lib.run_next_any_at (P := Tryd.prog) wr w.heap.size sub i ty hst.out.2.1 (by omega)
          have hdc : Utf8.decode sub i = Utf8.decode s (q + i) := by rw [HSUB.out]; exact decode_cut s q stop i st2 HST.out hlt
          have hd1 := dW_pos (s := s) (p := q + i) (by omega)
          have hd2 := dW_le hlt st2 HST.out
          have S1 := Lib.hid (hst.out.next (i + dW s (q + i)))
          have HC := Lib.hid (runes_cons hlt st2)
          rw [hdc] at hnx
          change ∀ ty, (Instr.next (.pointer (some ⟨w.heap.size, 0, none⟩)) true ty).run Tryd.prog wr = .ok (.tuple #[.bool true, .int .i64 i, .int .i32 (Utf8.decode s (q + i)).1]) (wr.iterAt w.heap.size sub (i + dW s (q + i))) at hnx
          have HU0 : Hid (dU s (q + i) = if 65535 < (Utf8.decode s (q + i)).1 then 2 else 1) := rfl
          obtain ⟨r, hr⟩ : ∃ r, (Utf8.decode s (q + i)).1 = r := ⟨_, rfl⟩
          rw [hr] at hnx HU0
          generalize dW s (q + i) = d at *
          obtain ⟨w1, hw1⟩ : ∃ w1, w1 = wr.iterAt w.heap.size sub (i + d) := ⟨_, rfl⟩
          rw [← hw1] at hnx S1
          clear hr hdc hw1 hst
          rcases hfar.out with ⟨rfl, hq0⟩ | ⟨a, x, rfl, hx1, hx2, hx3⟩
          · have HR0 : Hid (runes s stop q = runes s stop (q + i)) := by show _ = _; rw [hq0]
            clear hfar hq0
            by_cases hu : 65535 < r
            · have hu1 : (65535 : Int) < (r : Int) := by omega
              have HU : Hid (dU s (q + i) = 2) := by show _ = _; rw [HU0.out, if_pos hu]
              clear HU0 hu
              obtain rfl := hnil rfl
              have F3 : Hid (Far s stop q (q + (i + d)) ([] ++ [⟨q + i, stop - (q + i), 2⟩])) := .inr ⟨[], ⟨q + i, d, 2⟩, rfl, by show q + i + d = _; omega, by show q ≤ q + i; omega, by rw [HR0.out, HC.out, ← Nat.add_assoc, HU.out]; rfl⟩
              clear HC HU HR0
              have ST := S1
              clear S1
              go_wp2_with (at_builtin; refine wpList_append_own _ rfl _ _ 42 rfl (w.heap.size + 1) 45 i0 _ 3 24 Tryd.underlying42 hi hz0 hz1 hz2 rfl (by decide) _ _ _ rfl (ST.out.1.alloc _) ⟨w1.heap.size, 0, none⟩ 1 1 [.int .i64 (q + i), .int .i64 (stop - q - i), .int .i64 2] rfl rfl (World.news_of_block (alloc_at (w := w1) rfl _)) (by simp [Value.oneCell']) (by unfold maxLen; first | omega | (simp; done)) (by first | omega | (simp; done)) (by have h := lt_of_block ST.out.2.1; first | (simp at h ⊢; omega) | (simp; omega)) ?_)
              intro v' w3 hown' hgrow _
              have S3 : Hid (Step w w.heap.size sub (i + d) w3 v' ([] ++ [⟨q + i, stop - (q + i), 2⟩])) := by
                refine Step.app (x := ⟨q + i, stop - (q + i), 2⟩) ST.out hgrow ?_
                have e1 : (((q + i : Nat)) : Int) = (q : Int) + i := by omega
                have e2 : (((stop - (q + i) : Nat)) : Int) = (stop : Int) - q - i := by omega
                have e3 : ((2 : Nat) : Int) = 2 := rfl
                unfold R.cells
                simp only [e1, e2, e3]
                exact hown'
              have hip3 : w3.iterPos w.heap.size = i + d := by unfold World.iterPos; rw [S3.out.2.1]
              clear hown' hgrow ST
              go_wp2_with fail
              go_roundw
              case rel => exact ⟨i + d, _, by omega, F3, S3, fun h => by simp at h⟩
              case measure => rw [hip, hip3]; omega
            · have hu1 : ¬ (65535 : Int) < (r : Int) := by omega
              have HU : Hid (dU s (q + i) = 1) := by show _ = _; rw [HU0.out, if_neg hu]
              clear HU0 hu
              obtain rfl := hnil rfl
              have F3 : Hid (Far s stop q (q + (i + d)) ([] ++ [⟨q + i, stop - (q + i), 1⟩])) := .inr ⟨[], ⟨q + i, d, 1⟩, rfl, by show q + i + d = _; omega, by show q ≤ q + i; omega, by rw [HR0.out, HC.out, ← Nat.add_assoc, HU.out]; rfl⟩
              clear HC HU HR0
              have ST := S1
              clear S1
              go_wp2_with (at_builtin; refine wpList_append_own _ rfl _ _ 42 rfl (w.heap.size + 1) 45 i0 _ 3 24 Tryd.underlying42 hi hz0 hz1 hz2 rfl (by decide) _ _ _ rfl (ST.out.1.alloc _) ⟨w1.heap.size, 0, none⟩ 1 1 [.int .i64 (q + i), .int .i64 (stop - q - i), .int .i64 1] rfl rfl (World.news_of_block (alloc_at (w := w1) rfl _)) (by simp [Value.oneCell']) (by unfold maxLen; first | omega | (simp; done)) (by first | omega | (simp; done)) (by have h := lt_of_block ST.out.2.1; first | (simp at h ⊢; omega) | (simp; omega)) ?_)
              intro v' w3 hown' hgrow _
              have S3 : Hid (Step w w.heap.size sub (i + d) w3 v' ([] ++ [⟨q + i, stop - (q + i), 1⟩])) := by
                refine Step.app (x := ⟨q + i, stop - (q + i), 1⟩) ST.out hgrow ?_
                have e1 : (((q + i : Nat)) : Int) = (q : Int) + i := by omega
                have e2 : (((stop - (q + i) : Nat)) : Int) = (stop : Int) - q - i := by omega
                have e3 : ((1 : Nat) : Int) = 1 := rfl
                unfold R.cells
                simp only [e1, e2, e3]
                exact hown'
              have hip3 : w3.iterPos w.heap.size = i + d := by unfold World.iterPos; rw [S3.out.2.1]
              clear hown' hgrow ST
              go_wp2_with fail
              go_roundw
              case rel => exact ⟨i + d, _, by omega, F3, S3, fun h => by simp at h⟩
              case measure => rw [hip, hip3]; omega
          · have HR0 := Lib.hid hx3
            have hm := runes_length s stop st2 _ q (Nat.le_refl _)
            rw [hx3] at hm
            simp only [List.length_append, List.length_cons, List.length_nil] at hm
            clear hfar hx3 hnil
            by_cases hu : 65535 < r
            · have hu1 : (65535 : Int) < (r : Int) := by omega
              have HU : Hid (dU s (q + i) = 2) := by show _ = _; rw [HU0.out, if_pos hu]
              clear HU0 hu
              have F3 : Hid (Far s stop q (q + (i + d)) ((a ++ [x]) ++ [⟨q + i, stop - (q + i), 2⟩])) := .inr ⟨a ++ [x], ⟨q + i, d, 2⟩, rfl, by show q + i + d = _; omega, by show q ≤ q + i; omega, by rw [HR0.out, HC.out, ← Nat.add_assoc, HU.out]; simp⟩
              clear HC HU HR0
              obtain ⟨m, hma⟩ : ∃ m, a.length = m := ⟨_, rfl⟩
              have hn : (a ++ [(⟨x.p, stop - x.p, x.u⟩ : R)]).length = m + 1 := by simp [hma]
              have HN2 : Hid ((a ++ [x]).length = m + 1) := by show _ = _; simp [hma]
              have h1 := S1.out.1
              unfold OwnsR at h1
              rw [hn] at h1
              obtain ⟨g, cap, rfl, hg1, hg2⟩ := h1.form (by omega)
              have c0 : w1.cell? ⟨g, m * 3, none⟩ = some (.int .i64 x.p) := by
                rw [h1.cellAt (m * 3) (by omega)]
                exact (rCells_at (l := a ++ [⟨x.p, stop - x.p, x.u⟩]) (i := m) (x := ⟨x.p, stop - x.p, x.u⟩) (by rw [List.getElem?_append_right (by omega), hma]; simp)).1
              have c1 : w1.cell? ⟨g, m * 3 + 1, none⟩ = some (.int .i64 ((stop - x.p : Nat) : Int)) := by
                rw [h1.cellAt (m * 3 + 1) (by omega)]
                exact (rCells_at (l := a ++ [⟨x.p, stop - x.p, x.u⟩]) (i := m) (x := ⟨x.p, stop - x.p, x.u⟩) (by rw [List.getElem?_append_right (by omega), hma]; simp)).2.1
              have f1 : w1.frozen? ⟨g, m * 3 + 1, none⟩ = false := h1.frozenAt _
              have hw : IntKind.i64.wrap ((m : Int) + 1 - 1) = m := by rw [show ((m : Int) + 1 - 1) = m from by omega]; exact IntWalk.i64_in _ (by omega)
              have hm0 : (0 : Int) ≤ m := by omega
              have hm1 : (m : Int) < (m : Int) + 1 := by omega
              have hm9 : m ≤ 1000000 := by omega
              have ST : Hid (Step w w.heap.size sub (i + d) (w1.setCell ⟨g, m * 3 + 1, none⟩ (.int .i64 (q + i - x.p))) (.slice (some ⟨g, 0, none⟩) (m + 1) cap) (a ++ [x])) := by
                have := Step.set (ll := x.l) (z := (q : Int) + i - x.p) S1.out hn.symm (by omega)
                rw [hma] at this
                exact this
              have HO : Hid ((w1.setCell ⟨g, m * 3 + 1, none⟩ (.int .i64 (q + i - x.p))).ownsRow (w.heap.size + 1) 45 3 (.slice (some ⟨g, 0, none⟩) (m + 1) cap) (m + 1) (rCells (a ++ [x]))) := by
                have := ST.out.1
                unfold OwnsR at this
                rw [HN2.out] at this
                exact this
              clear S1 h1 hn hma hg1 hg2
              go_wp2_with (at_builtin; refine wpList_append_own _ rfl _ _ 42 rfl (w.heap.size + 1) 45 i0 _ 3 24 Tryd.underlying42 hi hz0 hz1 hz2 rfl (by decide) _ _ _ rfl (HO.out.alloc _) ⟨w1.heap.size, 0, none⟩ 1 1 [.int .i64 (q + i), .int .i64 (stop - q - i), .int .i64 2] rfl rfl (World.news_of_block (alloc_at (w := (w1.setCell ⟨g, m * 3 + 1, none⟩ (.int .i64 (q + i - x.p)))) (World.size_setCell _ _ _) _)) (by simp [Value.oneCell']) (by unfold maxLen; first | omega | (simp; done)) (by first | omega | (simp; done)) (by have h := lt_of_block ST.out.2.1; first | (simp at h ⊢; omega) | (simp; omega)) ?_)
              intro v' w3 hown' hgrow _
              have S3 : Hid (Step w w.heap.size sub (i + d) w3 v' ((a ++ [x]) ++ [⟨q + i, stop - (q + i), 2⟩])) := by
                refine Step.app (x := ⟨q + i, stop - (q + i), 2⟩) ST.out hgrow ?_
                have e1 : (((q + i : Nat)) : Int) = (q : Int) + i := by omega
                have e2 : (((stop - (q + i) : Nat)) : Int) = (stop : Int) - q - i := by omega
                have e3 : ((2 : Nat) : Int) = 2 := rfl
                unfold R.cells
                simp only [e1, e2, e3]
                rw [HN2.out]; exact hown'
              have hip3 : w3.iterPos w.heap.size = i + d := by unfold World.iterPos; rw [S3.out.2.1]
              clear hown' hgrow ST
              go_wp2_with fail
              go_roundw
              case rel => exact ⟨i + d, _, by omega, F3, S3, fun h => by simp at h⟩
              case measure => rw [hip, hip3]; omega
            · have hu1 : ¬ (65535 : Int) < (r : Int) := by omega
              have HU : Hid (dU s (q + i) = 1) := by show _ = _; rw [HU0.out, if_neg hu]
              clear HU0 hu
              have F3 : Hid (Far s stop q (q + (i + d)) ((a ++ [x]) ++ [⟨q + i, stop - (q + i), 1⟩])) := .inr ⟨a ++ [x], ⟨q + i, d, 1⟩, rfl, by show q + i + d = _; omega, by show q ≤ q + i; omega, by rw [HR0.out, HC.out, ← Nat.add_assoc, HU.out]; simp⟩
              clear HC HU HR0
              obtain ⟨m, hma⟩ : ∃ m, a.length = m := ⟨_, rfl⟩
              have hn : (a ++ [(⟨x.p, stop - x.p, x.u⟩ : R)]).length = m + 1 := by simp [hma]
              have HN2 : Hid ((a ++ [x]).length = m + 1) := by show _ = _; simp [hma]
              have h1 := S1.out.1
              unfold OwnsR at h1
              rw [hn] at h1
              obtain ⟨g, cap, rfl, hg1, hg2⟩ := h1.form (by omega)
              have c0 : w1.cell? ⟨g, m * 3, none⟩ = some (.int .i64 x.p) := by
                rw [h1.cellAt (m * 3) (by omega)]
                exact (rCells_at (l := a ++ [⟨x.p, stop - x.p, x.u⟩]) (i := m) (x := ⟨x.p, stop - x.p, x.u⟩) (by rw [List.getElem?_append_right (by omega), hma]; simp)).1
              have c1 : w1.cell? ⟨g, m * 3 + 1, none⟩ = some (.int .i64 ((stop - x.p : Nat) : Int)) := by
                rw [h1.cellAt (m * 3 + 1) (by omega)]
                exact (rCells_at (l := a ++ [⟨x.p, stop - x.p, x.u⟩]) (i := m) (x := ⟨x.p, stop - x.p, x.u⟩) (by rw [List.getElem?_append_right (by omega), hma]; simp)).2.1
              have f1 : w1.frozen? ⟨g, m * 3 + 1, none⟩ = false := h1.frozenAt _
              have hw : IntKind.i64.wrap ((m : Int) + 1 - 1) = m := by rw [show ((m : Int) + 1 - 1) = m from by omega]; exact IntWalk.i64_in _ (by omega)
              have hm0 : (0 : Int) ≤ m := by omega
              have hm1 : (m : Int) < (m : Int) + 1 := by omega
              have hm9 : m ≤ 1000000 := by omega
              have ST : Hid (Step w w.heap.size sub (i + d) (w1.setCell ⟨g, m * 3 + 1, none⟩ (.int .i64 (q + i - x.p))) (.slice (some ⟨g, 0, none⟩) (m + 1) cap) (a ++ [x])) := by
                have := Step.set (ll := x.l) (z := (q : Int) + i - x.p) S1.out hn.symm (by omega)
                rw [hma] at this
                exact this
              have HO : Hid ((w1.setCell ⟨g, m * 3 + 1, none⟩ (.int .i64 (q + i - x.p))).ownsRow (w.heap.size + 1) 45 3 (.slice (some ⟨g, 0, none⟩) (m + 1) cap) (m + 1) (rCells (a ++ [x]))) := by
                have := ST.out.1
                unfold OwnsR at this
                rw [HN2.out] at this
                exact this
              clear S1 h1 hn hma hg1 hg2
              go_wp2_with (at_builtin; refine wpList_append_own _ rfl _ _ 42 rfl (w.heap.size + 1) 45 i0 _ 3 24 Tryd.underlying42 hi hz0 hz1 hz2 rfl (by decide) _ _ _ rfl (HO.out.alloc _) ⟨w1.heap.size, 0, none⟩ 1 1 [.int .i64 (q + i), .int .i64 (stop - q - i), .int .i64 1] rfl rfl (World.news_of_block (alloc_at (w := (w1.setCell ⟨g, m * 3 + 1, none⟩ (.int .i64 (q + i - x.p)))) (World.size_setCell _ _ _) _)) (by simp [Value.oneCell']) (by unfold maxLen; first | omega | (simp; done)) (by first | omega | (simp; done)) (by have h := lt_of_block ST.out.2.1; first | (simp at h ⊢; omega) | (simp; omega)) ?_)
              intro v' w3 hown' hgrow _
              have S3 : Hid (Step w w.heap.size sub (i + d) w3 v' ((a ++ [x]) ++ [⟨q + i, stop - (q + i), 1⟩])) := by
                refine Step.app (x := ⟨q + i, stop - (q + i), 1⟩) ST.out hgrow ?_
                have e1 : (((q + i : Nat)) : Int) = (q : Int) + i := by omega
                have e2 : (((stop - (q + i) : Nat)) : Int) = (stop : Int) - q - i := by omega
                have e3 : ((1 : Nat) : Int) = 1 := rfl
                unfold R.cells
                simp only [e1, e2, e3]
                rw [HN2.out]; exact hown'
              have hip3 : w3.iterPos w.heap.size = i + d := by unfold World.iterPos; rw [S3.out.2.1]
              clear hown' hgrow ST
              go_wp2_with fail
              go_roundw
              case rel => exact ⟨i + d, _, by omega, F3, S3, fun h => by simp at h⟩
              case measure => rw [hip, hip3]; omega
        · have hnx := fun ty => Lib.run_next_end_at (P := Tryd.prog) wr w.heap.size sub i ty hst.out.2.1 (by omega)
          obtain rfl : stop = q + i := by omega
          have he := hfar.out.end
          obtain ⟨a, cap, rfl, hR⟩ := hst.out.1.rs
          have HR := Lib.hid hR
          have HB := Lib.hid hst.out.2.2
          rw [he] at HR ⊢
          clear hR hst hfar he hnil
          go_wp2_with fail
          go_ret
          exact ⟨_, _, rfl, HR, HB.out⟩
    have hk : p < s.size := by omega
    have hk1 : (p : Int) < (s.size : Int) := by omega
    obtain ⟨x0, hx0⟩ : ∃ x0, s[p]'hk = x0 := ⟨_, rfl⟩
    have hn := Lib.hid (nl_byte hk hx0)
    by_cases hd : (x0.toNat : Int) = 10
    · have he : stop = p := by rw [hle.out, le_nl (hn.out.trans (decide_eq_true hd))]
      subst he
      have hd1 : ((x0.toNat : Int) != 10) = false := by simpa using hd
      clear hend hps hn
      go_wp2_with fail
      clear hle
      have hz : (s.extract q stop).size = stop - q := by simp; omega
      obtain ⟨sub, hsub⟩ : ∃ sub, sub = s.extract q stop := ⟨_, rfl⟩
      rw [← hsub] at hz
      have HSUB := Lib.hid hsub
      clear hsub
      go_loopw [6] (fun v wr => ∃ (i : Nat) (acc : List R), q + i ≤ stop ∧ Hid (Far s stop q (q + i) acc) ∧ Hid (Step w w.heap.size sub i wr v acc) ∧ (acc = [] → v = .slice none 0 0))
        (fun _ wr => stop - q - wr.iterPos w.heap.size)
      case atStart => exact ⟨0, [], by omega, .inl ⟨rfl, rfl⟩, ⟨OwnsR.nil _ _, by rw [HSUB.out]; exact World.iter_heap w _ 0, (Below.refl _ _).alloc (Nat.le_refl _) _⟩, fun _ => rfl⟩
      case round =>
        obtain ⟨i, acc, hi2, hfar, hst, hnil⟩ := hrel
        have hip : wr.iterPos w.heap.size = i := by unfold World.iterPos; rw [hst.out.2.1]
        by_cases hlt : q + i < stop
        · have hnx := fun ty => Lib.run_next_any_at (P := Tryd.prog) wr w.heap.size sub i ty hst.out.2.1 (by omega)
          have hdc : Utf8.decode sub i = Utf8.decode s (q + i) := by rw [HSUB.out]; exact decode_cut s q stop i st2 HST.out hlt
          have hd1 := dW_pos (s := s) (p := q + i) (by omega)
          have hd2 := dW_le hlt st2 HST.out
          have S1 := Lib.hid (hst.out.next (i + dW s (q + i)))
          have HC := Lib.hid (runes_cons hlt st2)
          rw [hdc] at hnx
          change ∀ ty, (Instr.next (.pointer (some ⟨w.heap.size, 0, none⟩)) true ty).run Tryd.prog wr = .ok (.tuple #[.bool true, .int .i64 i, .int .i32 (Utf8.decode s (q + i)).1]) (wr.iterAt w.heap.size sub (i + dW s (q + i))) at hnx
          have HU0 : Hid (dU s (q + i) = if 65535 < (Utf8.decode s (q + i)).1 then 2 else 1) := rfl
          obtain ⟨r, hr⟩ : ∃ r, (Utf8.decode s (q + i)).1 = r := ⟨_, rfl⟩
          rw [hr] at hnx HU0
          generalize dW s (q + i) = d at *
          obtain ⟨w1, hw1⟩ : ∃ w1, w1 = wr.iterAt w.heap.size sub (i + d) := ⟨_, rfl⟩
          rw [← hw1] at hnx S1
          clear hr hdc hw1 hst
          rcases hfar.out with ⟨rfl, hq0⟩ | ⟨a, x, rfl, hx1, hx2, hx3⟩
          · have HR0 : Hid (runes s stop q = runes s stop (q + i)) := by show _ = _; rw [hq0]
            clear hfar hq0
            by_cases hu : 65535 < r
            · have hu1 : (65535 : Int) < (r : Int) := by omega
              have HU : Hid (dU s (q + i) = 2) := by show _ = _; rw [HU0.out, if_pos hu]
              clear HU0 hu
              obtain rfl := hnil rfl
              have F3 : Hid (Far s stop q (q + (i + d)) ([] ++ [⟨q + i, stop - (q + i), 2⟩])) := .inr ⟨[], ⟨q + i, d, 2⟩, rfl, by show q + i + d = _; omega, by show q ≤ q + i; omega, by rw [HR0.out, HC.out, ← Nat.add_assoc, HU.out]; rfl⟩
              clear HC HU HR0
              have ST := S1
              clear S1
              go_wp2_with (at_builtin; refine wpList_append_own _ rfl _ _ 42 rfl (w.heap.size + 1) 45 i0 _ 3 24 Tryd.underlying42 hi hz0 hz1 hz2 rfl (by decide) _ _ _ rfl (ST.out.1.alloc _) ⟨w1.heap.size, 0, none⟩ 1 1 [.int .i64 (q + i), .int .i64 (stop - q - i), .int .i64 2] rfl rfl (World.news_of_block (alloc_at (w := w1) rfl _)) (by simp [Value.oneCell']) (by unfold maxLen; first | omega | (simp; done)) (by first | omega | (simp; done)) (by have h := lt_of_block ST.out.2.1; first | (simp at h ⊢; omega) | (simp; omega)) ?_)
              intro v' w3 hown' hgrow _
              have S3 : Hid (Step w w.heap.size sub (i + d) w3 v' ([] ++ [⟨q + i, stop - (q + i), 2⟩])) := by
                refine Step.app (x := ⟨q + i, stop - (q + i), 2⟩) ST.out hgrow ?_
                have e1 : (((q + i : Nat)) : Int) = (q : Int) + i := by omega
                have e2 : (((stop - (q + i) : Nat)) : Int) = (stop : Int) - q - i := by omega
                have e3 : ((2 : Nat) : Int) = 2 := rfl
                unfold R.cells
                simp only [e1, e2, e3]
                exact hown'
              have hip3 : w3.iterPos w.heap.size = i + d := by unfold World.iterPos; rw [S3.out.2.1]
              clear hown' hgrow ST
              go_wp2_with fail
              go_roundw
              case rel => exact ⟨i + d, _, by omega, F3, S3, fun h => by simp at h⟩
              case measure => rw [hip, hip3]; omega
            · have hu1 : ¬ (65535 : Int) < (r : Int) := by omega
              have HU : Hid (dU s (q + i) = 1) := by show _ = _; rw [HU0.out, if_neg hu]
              clear HU0 hu
              obtain rfl := hnil rfl
              have F3 : Hid (Far s stop q (q + (i + d)) ([] ++ [⟨q + i, stop - (q + i), 1⟩])) := .inr ⟨[], ⟨q + i, d, 1⟩, rfl, by show q + i + d = _; omega, by show q ≤ q + i; omega, by rw [HR0.out, HC.out, ← Nat.add_assoc, HU.out]; rfl⟩
              clear HC HU HR0
              have ST := S1
              clear S1
              go_wp2_with (at_builtin; refine wpList_append_own _ rfl _ _ 42 rfl (w.heap.size + 1) 45 i0 _ 3 24 Tryd.underlying42 hi hz0 hz1 hz2 rfl (by decide) _ _ _ rfl (ST.out.1.alloc _) ⟨w1.heap.size, 0, none⟩ 1 1 [.int .i64 (q + i), .int .i64 (stop - q - i), .int .i64 1] rfl rfl (World.news_of_block (alloc_at (w := w1) rfl _)) (by simp [Value.oneCell']) (by unfold maxLen; first | omega | (simp; done)) (by first | omega | (simp; done)) (by have h := lt_of_block ST.out.2.1; first | (simp at h ⊢; omega) | (simp; omega)) ?_)
              intro v' w3 hown' hgrow _
              have S3 : Hid (Step w w.heap.size sub (i + d) w3 v' ([] ++ [⟨q + i, stop - (q + i), 1⟩])) := by
                refine Step.app (x := ⟨q + i, stop - (q + i), 1⟩) ST.out hgrow ?_
                have e1 : (((q + i : Nat)) : Int) = (q : Int) + i := by omega
                have e2 : (((stop - (q + i) : Nat)) : Int) = (stop : Int) - q - i := by omega
                have e3 : ((1 : Nat) : Int) = 1 := rfl
                unfold R.cells
                simp only [e1, e2, e3]
                exact hown'
              have hip3 : w3.iterPos w.heap.size = i + d := by unfold World.iterPos; rw [S3.out.2.1]
              clear hown' hgrow ST
              go_wp2_with fail
              go_roundw
              case rel => exact ⟨i + d, _, by omega, F3, S3, fun h => by simp at h⟩
              case measure => rw [hip, hip3]; omega
          · have HR0 := Lib.hid hx3
            have hm := runes_length s stop st2 _ q (Nat.le_refl _)
            rw [hx3] at hm
            simp only [List.length_append, List.length_cons, List.length_nil] at hm
            clear hfar hx3 hnil
            by_cases hu : 65535 < r
            · have hu1 : (65535 : Int) < (r : Int) := by omega
              have HU : Hid (dU s (q + i) = 2) := by show _ = _; rw [HU0.out, if_pos hu]
              clear HU0 hu
              have F3 : Hid (Far s stop q (q + (i + d)) ((a ++ [x]) ++ [⟨q + i, stop - (q + i), 2⟩])) := .inr ⟨a ++ [x], ⟨q + i, d, 2⟩, rfl, by show q + i + d = _; omega, by show q ≤ q + i; omega, by rw [HR0.out, HC.out, ← Nat.add_assoc, HU.out]; simp⟩
              clear HC HU HR0
              obtain ⟨m, hma⟩ : ∃ m, a.length = m := ⟨_, rfl⟩
              have hn : (a ++ [(⟨x.p, stop - x.p, x.u⟩ : R)]).length = m + 1 := by simp [hma]
              have HN2 : Hid ((a ++ [x]).length = m + 1) := by show _ = _; simp [hma]
              have h1 := S1.out.1
              unfold OwnsR at h1
              rw [hn] at h1
              obtain ⟨g, cap, rfl, hg1, hg2⟩ := h1.form (by omega)
              have c0 : w1.cell? ⟨g, m * 3, none⟩ = some (.int .i64 x.p) := by
                rw [h1.cellAt (m * 3) (by omega)]
                exact (rCells_at (l := a ++ [⟨x.p, stop - x.p, x.u⟩]) (i := m) (x := ⟨x.p, stop - x.p, x.u⟩) (by rw [List.getElem?_append_right (by omega), hma]; simp)).1
              have c1 : w1.cell? ⟨g, m * 3 + 1, none⟩ = some (.int .i64 ((stop - x.p : Nat) : Int)) := by
                rw [h1.cellAt (m * 3 + 1) (by omega)]
                exact (rCells_at (l := a ++ [⟨x.p, stop - x.p, x.u⟩]) (i := m) (x := ⟨x.p, stop - x.p, x.u⟩) (by rw [List.getElem?_append_right (by omega), hma]; simp)).2.1
              have f1 : w1.frozen? ⟨g, m * 3 + 1, none⟩ = false := h1.frozenAt _
              have hw : IntKind.i64.wrap ((m : Int) + 1 - 1) = m := by rw [show ((m : Int) + 1 - 1) = m from by omega]; exact IntWalk.i64_in _ (by omega)
              have hm0 : (0 : Int) ≤ m := by omega
              have hm1 : (m : Int) < (m : Int) + 1 := by omega
              have hm9 : m ≤ 1000000 := by omega
              have ST : Hid (Step w w.heap.size sub (i + d) (w1.setCell ⟨g, m * 3 + 1, none⟩ (.int .i64 (q + i - x.p))) (.slice (some ⟨g, 0, none⟩) (m + 1) cap) (a ++ [x])) := by
                have := Step.set (ll := x.l) (z := (q : Int) + i - x.p) S1.out hn.symm (by omega)
                rw [hma] at this
                exact this
              have HO : Hid ((w1.setCell ⟨g, m * 3 + 1, none⟩ (.int .i64 (q + i - x.p))).ownsRow (w.heap.size + 1) 45 3 (.slice (some ⟨g, 0, none⟩) (m + 1) cap) (m + 1) (rCells (a ++ [x]))) := by
                have := ST.out.1
                unfold OwnsR at this
                rw [HN2.out] at this
                exact this
              clear S1 h1 hn hma hg1 hg2
              go_wp2_with (at_builtin; refine wpList_append_own _ rfl _ _ 42 rfl (w.heap.size + 1) 45 i0 _ 3 24 Tryd.underlying42 hi hz0 hz1 hz2 rfl (by decide) _ _ _ rfl (HO.out.alloc _) ⟨w1.heap.size, 0, none⟩ 1 1 [.int .i64 (q + i), .int .i64 (stop - q - i), .int .i64 2] rfl rfl (World.news_of_block (alloc_at (w := (w1.setCell ⟨g, m * 3 + 1, none⟩ (.int .i64 (q + i - x.p)))) (World.size_setCell _ _ _) _)) (by simp [Value.oneCell']) (by unfold maxLen; first | omega | (simp; done)) (by first | omega | (simp; done)) (by have h := lt_of_block ST.out.2.1; first | (simp at h ⊢; omega) | (simp; omega)) ?_)
              intro v' w3 hown' hgrow _
              have S3 : Hid (Step w w.heap.size sub (i + d) w3 v' ((a ++ [x]) ++ [⟨q + i, stop - (q + i), 2⟩])) := by
                refine Step.app (x := ⟨q + i, stop - (q + i), 2⟩) ST.out hgrow ?_
                have e1 : (((q + i : Nat)) : Int) = (q : Int) + i := by omega
                have e2 : (((stop - (q + i) : Nat)) : Int) = (stop : Int) - q - i := by omega
                have e3 : ((2 : Nat) : Int) = 2 := rfl
                unfold R.cells
                simp only [e1, e2, e3]
                rw [HN2.out]; exact hown'
              have hip3 : w3.iterPos w.heap.size = i + d := by unfold World.iterPos; rw [S3.out.2.1]
              clear hown' hgrow ST
              go_wp2_with fail
              go_roundw
              case rel => exact ⟨i + d, _, by omega, F3, S3, fun h => by simp at h⟩
              case measure => rw [hip, hip3]; omega
            · have hu1 : ¬ (65535 : Int) < (r : Int) := by omega
              have HU : Hid (dU s (q + i) = 1) := by show _ = _; rw [HU0.out, if_neg hu]
              clear HU0 hu
              have F3 : Hid (Far s stop q (q + (i + d)) ((a ++ [x]) ++ [⟨q + i, stop - (q + i), 1⟩])) := .inr ⟨a ++ [x], ⟨q + i, d, 1⟩, rfl, by show q + i + d = _; omega, by show q ≤ q + i; omega, by rw [HR0.out, HC.out, ← Nat.add_assoc, HU.out]; simp⟩
              clear HC HU HR0
              obtain ⟨m, hma⟩ : ∃ m, a.length = m := ⟨_, rfl⟩
              have hn : (a ++ [(⟨x.p, stop - x.p, x.u⟩ : R)]).length = m + 1 := by simp [hma]
              have HN2 : Hid ((a ++ [x]).length = m + 1) := by show _ = _; simp [hma]
              have h1 := S1.out.1
              unfold OwnsR at h1
              rw [hn] at h1
              obtain ⟨g, cap, rfl, hg1, hg2⟩ := h1.form (by omega)
              have c0 : w1.cell? ⟨g, m * 3, none⟩ = some (.int .i64 x.p) := by
                rw [h1.cellAt (m * 3) (by omega)]
                exact (rCells_at (l := a ++ [⟨x.p, stop - x.p, x.u⟩]) (i := m) (x := ⟨x.p, stop - x.p, x.u⟩) (by rw [List.getElem?_append_right (by omega), hma]; simp)).1
              have c1 : w1.cell? ⟨g, m * 3 + 1, none⟩ = some (.int .i64 ((stop - x.p : Nat) : Int)) := by
                rw [h1.cellAt (m * 3 + 1) (by omega)]
                exact (rCells_at (l := a ++ [⟨x.p, stop - x.p, x.u⟩]) (i := m) (x := ⟨x.p, stop - x.p, x.u⟩) (by rw [List.getElem?_append_right (by omega), hma]; simp)).2.1
              have f1 : w1.frozen? ⟨g, m * 3 + 1, none⟩ = false := h1.frozenAt _
              have hw : IntKind.i64.wrap ((m : Int) + 1 - 1) = m := by rw [show ((m : Int) + 1 - 1) = m from by omega]; exact IntWalk.i64_in _ (by omega)
              have hm0 : (0 : Int) ≤ m := by omega
              have hm1 : (m : Int) < (m : Int) + 1 := by omega
              have hm9 : m ≤ 1000000 := by omega
              have ST : Hid (Step w w.heap.size sub (i + d) (w1.setCell ⟨g, m * 3 + 1, none⟩ (.int .i64 (q + i - x.p))) (.slice (some ⟨g, 0, none⟩) (m + 1) cap) (a ++ [x])) := by
                have := Step.set (ll := x.l) (z := (q : Int) + i - x.p) S1.out hn.symm (by omega)
                rw [hma] at this
                exact this
              have HO : Hid ((w1.setCell ⟨g, m * 3 + 1, none⟩ (.int .i64 (q + i - x.p))).ownsRow (w.heap.size + 1) 45 3 (.slice (some ⟨g, 0, none⟩) (m + 1) cap) (m + 1) (rCells (a ++ [x]))) := by
                have := ST.out.1
                unfold OwnsR at this
                rw [HN2.out] at this
                exact this
              clear S1 h1 hn hma hg1 hg2
              go_wp2_with (at_builtin; refine wpList_append_own _ rfl _ _ 42 rfl (w.heap.size + 1) 45 i0 _ 3 24 Tryd.underlying42 hi hz0 hz1 hz2 rfl (by decide) _ _ _ rfl (HO.out.alloc _) ⟨w1.heap.size, 0, none⟩ 1 1 [.int .i64 (q + i), .int .i64 (stop - q - i), .int .i64 1] rfl rfl (World.news_of_block (alloc_at (w := (w1.setCell ⟨g, m * 3 + 1, none⟩ (.int .i64 (q + i - x.p)))) (World.size_setCell _ _ _) _)) (by simp [Value.oneCell']) (by unfold maxLen; first | omega | (simp; done)) (by first | omega | (simp; done)) (by have h := lt_of_block ST.out.2.1; first | (simp at h ⊢; omega) | (simp; omega)) ?_)
              intro v' w3 hown' hgrow _
              have S3 : Hid (Step w w.heap.size sub (i + d) w3 v' ((a ++ [x]) ++ [⟨q + i, stop - (q + i), 1⟩])) := by
                refine Step.app (x := ⟨q + i, stop - (q + i), 1⟩) ST.out hgrow ?_
                have e1 : (((q + i : Nat)) : Int) = (q : Int) + i := by omega
                have e2 : (((stop - (q + i) : Nat)) : Int) = (stop : Int) - q - i := by omega
                have e3 : ((1 : Nat) : Int) = 1 := rfl
                unfold R.cells
                simp only [e1, e2, e3]
                rw [HN2.out]; exact hown'
              have hip3 : w3.iterPos w.heap.size = i + d := by unfold World.iterPos; rw [S3.out.2.1]
              clear hown' hgrow ST
              go_wp2_with fail
              go_roundw
              case rel => exact ⟨i + d, _, by omega, F3, S3, fun h => by simp at h⟩
              case measure => rw [hip, hip3]; omega
        · have hnx := fun ty => Lib.run_next_end_at (P := Tryd.prog) wr w.heap.size sub i ty hst.out.2.1 (by omega)
          obtain rfl : stop = q + i := by omega
          have he := hfar.out.end
          obtain ⟨a, cap, rfl, hR⟩ := hst.out.1.rs
          have HR := Lib.hid hR
          have HB := Lib.hid hst.out.2.2
          rw [he] at HR ⊢
          clear hR hst hfar he hnil
          go_wp2_with fail
          go_ret
          exact ⟨_, _, rfl, HR, HB.out⟩
    · have hnx : Hid (stop = le s (p + 1)) := by show _ = _; rw [hle.out, le_go hk (hn.out.trans (decide_eq_false hd))]
      have hd1 : ((x0.toNat : Int) != 10) = true := by simpa using hd
      clear hle hn hend
      go_wp2_with fail
      go_round
      case rel => exact ⟨p + 1, by go_num, by omega, by omega, hnx⟩
      case measure => simp [intOf]; omega
end Go.Proofs.YtmdfkahodbfjnaaDoor
