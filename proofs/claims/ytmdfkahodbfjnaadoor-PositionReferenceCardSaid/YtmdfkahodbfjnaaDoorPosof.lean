/-
  position.positionOf by its contract, for either way to count.
-/
import Derived.Test.YtmdfkahodbfjnaaDoorUnit
namespace Go.Proofs.YtmdfkahodbfjnaaDoor
open Go.RowKit

theorem two_new0 (w : World) (a b : Obj) : ((w.alloc a).alloc b).heap[w.heap.size]? = some a := by
  rw [Below.heap_alloc _ _ _ (by simp)]; exact heap_alloc_new w a
theorem two_new1 (w : World) (a b : Obj) : ((w.alloc a).alloc b).heap[w.heap.size + 1]? = some b := by
  have := heap_alloc_new (w.alloc a) b
  rwa [show (w.alloc a).heap.size = w.heap.size + 1 from by simp] at this
theorem set_two0 {w : World} {b : Nat} {v0 v1 u : Value} {t : TypeId} (h : w.heap[b]? = some (.cells #[v0, v1] t (0, 0))) : (w.setCell ⟨b, 0, none⟩ u).heap[b]? = some (.cells #[u, v1] t (0, 0)) := by
  simp [World.setCell, Array.getElem?_modify, h]
theorem set_two1 {w : World} {b : Nat} {v0 v1 u : Value} {t : TypeId} (h : w.heap[b]? = some (.cells #[v0, v1] t (0, 0))) : (w.setCell ⟨b, 1, none⟩ u).heap[b]? = some (.cells #[v0, u] t (0, 0)) := by
  simp [World.setCell, Array.getElem?_modify, h]

set_option maxHeartbeats 1000000 in
theorem posof_true (s : ByteArray) (off : Int) (w : World) (hs : s.size ≤ 1000000) (hT : Tabs w) (ho : -9223372036854775808 ≤ off ∧ off ≤ 9223372036854775807) :
    Calls Tryd.prog 20 #[.string s, .int .i64 off, .func (.func 21) #[] #[]] w fun e w' => e = .returned (.tuple #[.agg #[.int .i64 (posV s true off).1, .int .i64 (posV s true off).2.1], .int .i64 (posV s true off).2.2]) ∧ Below w.heap.size w w' := by
  obtain ⟨ho1, ho2⟩ := ho
  by_cases c1 : off < 0
  · have HV := Lib.hid (posV_bad (s := s) (u := true) (.inl c1))
    have d1 : decide (off < 0) = true := decide_eq_true c1
    go_enter Tryd.func20, Tryd.ntmps20
    go_wp2_with fail
    refine bodyPost_ret (by simp [results, Tryd.results20, go_sem]; try rfl) rfl ?_
    exact ⟨by rw [HV.out], (Below.refl _ _).alloc (Nat.le_refl _) _⟩
  by_cases c2 : (s.size : Int) < off
  · have HV := Lib.hid (posV_bad (s := s) (u := true) (.inr c2))
    have d1 : decide (off < 0) = false := decide_eq_false c1
    go_enter Tryd.func20, Tryd.ntmps20
    go_wp2_with fail
    refine bodyPost_ret (by simp [results, Tryd.results20, go_sem]; try rfl) rfl ?_
    exact ⟨by rw [HV.out], (Below.refl _ _).alloc (Nat.le_refl _) _⟩
  obtain ⟨n, rfl⟩ : ∃ n : Nat, off = n := ⟨off.toNat, by omega⟩
  have hn : n ≤ s.size := by omega
  have HC := Lib.hid (fun W => (Tryd.strings_Count_one (s.extract 0 n) 10 W))
  have HLi := Lib.hid (fun W => (Tryd.strings_LastIndexByte (s.extract 0 n) 10 (by simp; omega) W))
  rw [count_nl s n hn] at HC
  have HLS := Lib.hid (last_ls s hn)
  have hls := ls_le s n
  have hnl := nl_le s n
  have hoff := le_off s n hn
  have hspec := le_spec (s := s) (p := ls s n) (by omega)
  have HP : Hid (posV s true n = match colOf true n (runes s (le s (ls s n)) (ls s n)) 0 with | none => (0, 0, 3) | some c => ((nl s n : Int), (c : Int), 0)) := by
    show _ = _
    rw [posV_in hn]; unfold lineAt; cases colOf true n (runes s (le s (ls s n)) (ls s n)) 0 <;> rfl
  generalize Lib.lastIndexByte (s.extract 0 n) 10 = li at *
  generalize posV s true n = V at *
  obtain ⟨stop, hstop⟩ : ∃ stop, stop = le s (ls s n) := ⟨_, rfl⟩
  rw [← hstop] at hoff hspec HP
  clear hstop
  obtain ⟨st1, st2, st3, _⟩ := hspec
  have HST := Lib.hid st3
  clear st3
  have hli : IntKind.i64.wrap (li + 1) = ls s n := by rw [HLS.out]; exact IntWalk.i64_in _ (by omega)
  generalize nl s n = L at *
  generalize hq : ls s n = q at *
  clear HLS hq
  go_enter Tryd.func20, Tryd.ntmps20
  go_wp2_with fail
  refine (HC.out _).mono ?_
  rintro e w' ⟨rfl, rfl⟩
  clear HC
  go_wp2_with fail
  refine (HLi.out _).mono ?_
  rintro e w' ⟨rfl, rfl⟩
  clear HLi
  go_wp2_with fail
  have H0 : Hid (((w.alloc (Obj.cells #[Value.int IntKind.i64 0, Value.int IntKind.i64 0] 23)).alloc (Obj.cells #[Value.int IntKind.i64 ↑L, Value.int IntKind.i64 0] 23)).heap[w.heap.size]? = some (.cells #[.int .i64 0, .int .i64 0] 23 (0, 0))) := two_new0 w _ _
  have H1 : Hid (((w.alloc (Obj.cells #[Value.int IntKind.i64 0, Value.int IntKind.i64 0] 23)).alloc (Obj.cells #[Value.int IntKind.i64 ↑L, Value.int IntKind.i64 0] 23)).heap[w.heap.size + 1]? = some (.cells #[.int .i64 L, .int .i64 0] 23 (0, 0))) := two_new1 w _ _
  go_loopw [10] (fun i wr => ∃ (p c : Nat), i = .int .i64 p ∧ p ≤ stop ∧ c ≤ 2 * p ∧ q ≤ p ∧ Hid ((p ≤ n ∧ colOf true n (runes s stop q) 0 = colOf true n (runes s stop p) c) ∨ (n < p ∧ colOf true n (runes s stop q) 0 = none)) ∧
      Hid (wr.heap[w.heap.size]? = some (.cells #[.int .i64 0, .int .i64 0] 23 (0, 0))) ∧ Hid (wr.heap[w.heap.size + 1]? = some (.cells #[.int .i64 L, .int .i64 c] 23 (0, 0))) ∧ Below w.heap.size w wr)
    (fun i _ => n - (intOf i).toNat)
  case atStart => exact ⟨q, 0, rfl, st1, Nat.zero_le _, Nat.le_refl _, .inl ⟨hls, rfl⟩, H0, H1, ((Below.refl _ _).alloc (Nat.le_refl _) _).alloc (by simp) _⟩
  case round =>
    clear H0 H1
    obtain ⟨p, c, rfl, hps, hcp, hqp, hst, hb0, hb1, hb⟩ := hrel
    have hzw := hb.size
    have hz2 := lt_of_block hb1.out
    by_cases hlt : p < n
    · have hk : p < s.size := by omega
      have hst2 : Hid (colOf true n (runes s stop q) 0 = colOf true n (runes s stop p) c) := by
        rcases hst.out with ⟨_, h⟩ | ⟨h, _⟩
        · exact h
        · omega
      have HD := Lib.hid (dec_any s p wr hk (hT.fwd hT.2 hb))
      have hd1 := dW_pos hk
      have hd2 := dW_le (by omega : p < stop) st2 HST.out
      obtain ⟨r, hr⟩ : ∃ r, (Utf8.decode s p).1 = r := ⟨_, rfl⟩
      rw [hr] at HD
      have hx := wR_dU (l := dW s p) true hr
      have hx2 := wd_pos true s p (dW s p)
      have hx3 : Hid (p + dW s p ≤ n → colOf true n (runes s stop q) 0 = colOf true n (runes s stop (p + dW s p)) (c + wd true ⟨p, dW s p, dU s p⟩)) := fun h => by rw [hst2.out, col_go st2 (by omega) hlt h]
      have hx4 : Hid (n < p + dW s p → colOf true n (runes s stop q) 0 = none) := fun h => by rw [hst2.out, col_in st2 (by omega) hlt h]
      have HU := Lib.hid (fun W => units_any r W)
      rw [← hx] at hx2 hx3
      generalize wR true r = x at *
      generalize dW s p = d at *
      clear hr hx hst hst2
      obtain ⟨x1, x2⟩ := hx2
      go_wp2_with fail
      refine HD.out.mono ?_
      rintro e w2 ⟨rfl, hb2⟩
      clear HD
      have g0 := Lib.hid ((hb2.block _ (by omega)).trans hb0.out)
      have g1 := Lib.hid ((hb2.block _ hz2).trans hb1.out)
      have hb3 := hb.trans (hb2.mono hzw)
      have hz3 := hb2.size
      clear hb2 hb0 hb1 hb
      have f1 : w2.cell? ⟨w.heap.size + 1, 1, none⟩ = some (.int .i64 c) := by rw [Lib.cell_of_heap g1.out]; rfl
      have f2 : w2.frozen? ⟨w.heap.size + 1, 1, none⟩ = false := Lib.frozen_of_heap g1.out 1
      go_wp2_with fail
      have hwx : IntKind.i64.wrap ((c : Int) + (x : Int)) = c + x := IntWalk.i64_in _ (by omega)
      have hcx : (((c + x : Nat)) : Int) = (c : Int) + x := by omega
      have G1 : Hid ((w2.setCell ⟨w.heap.size + 1, 1, none⟩ (.int .i64 (c + x))).drew.heap[w.heap.size + 1]? = some (.cells #[.int .i64 L, .int .i64 ((c + x : Nat) : Int)] 23 (0, 0))) := by rw [hcx]; exact set_two1 g1.out
      have G0 : Hid ((w2.setCell ⟨w.heap.size + 1, 1, none⟩ (.int .i64 (c + x))).drew.heap[w.heap.size]? = some (.cells #[.int .i64 0, .int .i64 0] 23 (0, 0))) := (Below.heap_setCell _ _ _ _ (by show w.heap.size ≠ w.heap.size + 1; omega)).trans g0.out
      have hb4 : Below w.heap.size w (w2.setCell ⟨w.heap.size + 1, 1, none⟩ (.int .i64 (c + x))).drew := (hb3.setCell (by show _ ≤ w.heap.size + 1; omega) _).drew
      have HB4 := Lib.hid hb4
      have HCX := Lib.hid hcx
      clear hb4 hb3 g0 g1 hcx
      go_region_with (go_at_call 21; refine (HU.out _).mono ?_; rintro e w9 ⟨rfl, rfl⟩)
      all_goals
        clear f1 f2 hwx HU
        go_wp2_with fail
        go_roundw
        case rel =>
          refine ⟨p + d, c + x, by go_num, hd2, by omega, by omega, ?_, G0, G1, HB4⟩
          by_cases h : p + d ≤ n
          · exact .inl ⟨h, hx3.out h⟩
          · exact .inr ⟨by omega, hx4.out (by omega)⟩
        case measure => simp [intOf]; omega
    · have a0 : wr.cell? ⟨w.heap.size, 0, none⟩ = some (.int .i64 0) := by rw [Lib.cell_of_heap hb0.out]; rfl
      have a1 : wr.cell? ⟨w.heap.size, 1, none⟩ = some (.int .i64 0) := by rw [Lib.cell_of_heap hb0.out]; rfl
      have a2 : wr.frozen? ⟨w.heap.size, 0, none⟩ = false := Lib.frozen_of_heap hb0.out 0
      have a3 : wr.frozen? ⟨w.heap.size, 1, none⟩ = false := Lib.frozen_of_heap hb0.out 1
      have e0 : wr.cell? ⟨w.heap.size + 1, 0, none⟩ = some (.int .i64 L) := by rw [Lib.cell_of_heap hb1.out]; rfl
      have e1 : wr.cell? ⟨w.heap.size + 1, 1, none⟩ = some (.int .i64 c) := by rw [Lib.cell_of_heap hb1.out]; rfl
      have z0 : ∀ v, (wr.setCell ⟨w.heap.size, 0, none⟩ v).cell? ⟨w.heap.size, 0, none⟩ = some v := fun v => by rw [Lib.cell_of_heap (set_two0 hb0.out)]; rfl
      have z1 : ∀ v u, ((wr.setCell ⟨w.heap.size, 0, none⟩ v).setCell ⟨w.heap.size, 1, none⟩ u).cell? ⟨w.heap.size, 1, none⟩ = some u := fun v u => by rw [Lib.cell_of_heap (set_two1 (set_two0 hb0.out))]; rfl
      clear hb0 hb1 hz2
      by_cases hgt : n < p
      · have HV : Hid (V = (0, 0, 3)) := by
          rcases hst.out with ⟨h, _⟩ | ⟨_, h⟩
          · omega
          · show _ = _; rw [HP.out, h]
        clear hst HP
        go_wp2_with fail
        refine bodyPost_ret (by simp [results, Tryd.results20, go_sem, z0, z1]; try rfl) rfl ?_
        exact ⟨by rw [HV.out], (hb.setCell (Nat.le_refl _) _).setCell (Nat.le_refl _) _⟩
      · obtain rfl : p = n := by omega
        have HV : Hid (V = ((L : Int), (c : Int), 0)) := by
          rcases hst.out with ⟨_, h⟩ | ⟨h, _⟩
          · show _ = _; rw [HP.out, h, col_at st2 (Nat.le_refl _)]
          · omega
        clear hst HP
        go_wp2_with fail
        refine bodyPost_ret (by simp [results, Tryd.results20, go_sem, z0, z1]; try rfl) rfl ?_
        exact ⟨by rw [HV.out], (hb.setCell (Nat.le_refl _) _).setCell (Nat.le_refl _) _⟩

set_option maxHeartbeats 1000000 in
theorem posof_false (s : ByteArray) (off : Int) (w : World) (hs : s.size ≤ 1000000) (hT : Tabs w) (ho : -9223372036854775808 ≤ off ∧ off ≤ 9223372036854775807) :
    Calls Tryd.prog 20 #[.string s, .int .i64 off, .func (.func 23) #[] #[]] w fun e w' => e = .returned (.tuple #[.agg #[.int .i64 (posV s false off).1, .int .i64 (posV s false off).2.1], .int .i64 (posV s false off).2.2]) ∧ Below w.heap.size w w' := by
  obtain ⟨ho1, ho2⟩ := ho
  by_cases c1 : off < 0
  · have HV := Lib.hid (posV_bad (s := s) (u := false) (.inl c1))
    have d1 : decide (off < 0) = true := decide_eq_true c1
    go_enter Tryd.func20, Tryd.ntmps20
    go_wp2_with fail
    refine bodyPost_ret (by simp [results, Tryd.results20, go_sem]; try rfl) rfl ?_
    exact ⟨by rw [HV.out], (Below.refl _ _).alloc (Nat.le_refl _) _⟩
  by_cases c2 : (s.size : Int) < off
  · have HV := Lib.hid (posV_bad (s := s) (u := false) (.inr c2))
    have d1 : decide (off < 0) = false := decide_eq_false c1
    go_enter Tryd.func20, Tryd.ntmps20
    go_wp2_with fail
    refine bodyPost_ret (by simp [results, Tryd.results20, go_sem]; try rfl) rfl ?_
    exact ⟨by rw [HV.out], (Below.refl _ _).alloc (Nat.le_refl _) _⟩
  obtain ⟨n, rfl⟩ : ∃ n : Nat, off = n := ⟨off.toNat, by omega⟩
  have hn : n ≤ s.size := by omega
  have HC := Lib.hid (fun W => (Tryd.strings_Count_one (s.extract 0 n) 10 W))
  have HLi := Lib.hid (fun W => (Tryd.strings_LastIndexByte (s.extract 0 n) 10 (by simp; omega) W))
  rw [count_nl s n hn] at HC
  have HLS := Lib.hid (last_ls s hn)
  have hls := ls_le s n
  have hnl := nl_le s n
  have hoff := le_off s n hn
  have hspec := le_spec (s := s) (p := ls s n) (by omega)
  have HP : Hid (posV s false n = match colOf false n (runes s (le s (ls s n)) (ls s n)) 0 with | none => (0, 0, 3) | some c => ((nl s n : Int), (c : Int), 0)) := by
    show _ = _
    rw [posV_in hn]; unfold lineAt; cases colOf false n (runes s (le s (ls s n)) (ls s n)) 0 <;> rfl
  generalize Lib.lastIndexByte (s.extract 0 n) 10 = li at *
  generalize posV s false n = V at *
  obtain ⟨stop, hstop⟩ : ∃ stop, stop = le s (ls s n) := ⟨_, rfl⟩
  rw [← hstop] at hoff hspec HP
  clear hstop
  obtain ⟨st1, st2, st3, _⟩ := hspec
  have HST := Lib.hid st3
  clear st3
  have hli : IntKind.i64.wrap (li + 1) = ls s n := by rw [HLS.out]; exact IntWalk.i64_in _ (by omega)
  generalize nl s n = L at *
  generalize hq : ls s n = q at *
  clear HLS hq
  go_enter Tryd.func20, Tryd.ntmps20
  go_wp2_with fail
  refine (HC.out _).mono ?_
  rintro e w' ⟨rfl, rfl⟩
  clear HC
  go_wp2_with fail
  refine (HLi.out _).mono ?_
  rintro e w' ⟨rfl, rfl⟩
  clear HLi
  go_wp2_with fail
  have H0 : Hid (((w.alloc (Obj.cells #[Value.int IntKind.i64 0, Value.int IntKind.i64 0] 23)).alloc (Obj.cells #[Value.int IntKind.i64 ↑L, Value.int IntKind.i64 0] 23)).heap[w.heap.size]? = some (.cells #[.int .i64 0, .int .i64 0] 23 (0, 0))) := two_new0 w _ _
  have H1 : Hid (((w.alloc (Obj.cells #[Value.int IntKind.i64 0, Value.int IntKind.i64 0] 23)).alloc (Obj.cells #[Value.int IntKind.i64 ↑L, Value.int IntKind.i64 0] 23)).heap[w.heap.size + 1]? = some (.cells #[.int .i64 L, .int .i64 0] 23 (0, 0))) := two_new1 w _ _
  go_loopw [10] (fun i wr => ∃ (p c : Nat), i = .int .i64 p ∧ p ≤ stop ∧ c ≤ 2 * p ∧ q ≤ p ∧ Hid ((p ≤ n ∧ colOf false n (runes s stop q) 0 = colOf false n (runes s stop p) c) ∨ (n < p ∧ colOf false n (runes s stop q) 0 = none)) ∧
      Hid (wr.heap[w.heap.size]? = some (.cells #[.int .i64 0, .int .i64 0] 23 (0, 0))) ∧ Hid (wr.heap[w.heap.size + 1]? = some (.cells #[.int .i64 L, .int .i64 c] 23 (0, 0))) ∧ Below w.heap.size w wr)
    (fun i _ => n - (intOf i).toNat)
  case atStart => exact ⟨q, 0, rfl, st1, Nat.zero_le _, Nat.le_refl _, .inl ⟨hls, rfl⟩, H0, H1, ((Below.refl _ _).alloc (Nat.le_refl _) _).alloc (by simp) _⟩
  case round =>
    clear H0 H1
    obtain ⟨p, c, rfl, hps, hcp, hqp, hst, hb0, hb1, hb⟩ := hrel
    have hzw := hb.size
    have hz2 := lt_of_block hb1.out
    by_cases hlt : p < n
    · have hk : p < s.size := by omega
      have hst2 : Hid (colOf false n (runes s stop q) 0 = colOf false n (runes s stop p) c) := by
        rcases hst.out with ⟨_, h⟩ | ⟨h, _⟩
        · exact h
        · omega
      have HD := Lib.hid (dec_any s p wr hk (hT.fwd hT.2 hb))
      have hd1 := dW_pos hk
      have hd2 := dW_le (by omega : p < stop) st2 HST.out
      obtain ⟨r, hr⟩ : ∃ r, (Utf8.decode s p).1 = r := ⟨_, rfl⟩
      rw [hr] at HD
      have hx := wR_dU (l := dW s p) false hr
      have hx2 := wd_pos false s p (dW s p)
      have hx3 : Hid (p + dW s p ≤ n → colOf false n (runes s stop q) 0 = colOf false n (runes s stop (p + dW s p)) (c + wd false ⟨p, dW s p, dU s p⟩)) := fun h => by rw [hst2.out, col_go st2 (by omega) hlt h]
      have hx4 : Hid (n < p + dW s p → colOf false n (runes s stop q) 0 = none) := fun h => by rw [hst2.out, col_in st2 (by omega) hlt h]
      have HU := Lib.hid (fun W => points_any r W)
      rw [← hx] at hx2 hx3
      generalize wR false r = x at *
      generalize dW s p = d at *
      clear hr hx hst hst2
      obtain ⟨x1, x2⟩ := hx2
      go_wp2_with fail
      refine HD.out.mono ?_
      rintro e w2 ⟨rfl, hb2⟩
      clear HD
      have g0 := Lib.hid ((hb2.block _ (by omega)).trans hb0.out)
      have g1 := Lib.hid ((hb2.block _ hz2).trans hb1.out)
      have hb3 := hb.trans (hb2.mono hzw)
      have hz3 := hb2.size
      clear hb2 hb0 hb1 hb
      have f1 : w2.cell? ⟨w.heap.size + 1, 1, none⟩ = some (.int .i64 c) := by rw [Lib.cell_of_heap g1.out]; rfl
      have f2 : w2.frozen? ⟨w.heap.size + 1, 1, none⟩ = false := Lib.frozen_of_heap g1.out 1
      go_wp2_with fail
      have hwx : IntKind.i64.wrap ((c : Int) + (x : Int)) = c + x := IntWalk.i64_in _ (by omega)
      have hcx : (((c + x : Nat)) : Int) = (c : Int) + x := by omega
      have G1 : Hid ((w2.setCell ⟨w.heap.size + 1, 1, none⟩ (.int .i64 (c + x))).drew.heap[w.heap.size + 1]? = some (.cells #[.int .i64 L, .int .i64 ((c + x : Nat) : Int)] 23 (0, 0))) := by rw [hcx]; exact set_two1 g1.out
      have G0 : Hid ((w2.setCell ⟨w.heap.size + 1, 1, none⟩ (.int .i64 (c + x))).drew.heap[w.heap.size]? = some (.cells #[.int .i64 0, .int .i64 0] 23 (0, 0))) := (Below.heap_setCell _ _ _ _ (by show w.heap.size ≠ w.heap.size + 1; omega)).trans g0.out
      have hb4 : Below w.heap.size w (w2.setCell ⟨w.heap.size + 1, 1, none⟩ (.int .i64 (c + x))).drew := (hb3.setCell (by show _ ≤ w.heap.size + 1; omega) _).drew
      have HB4 := Lib.hid hb4
      have HCX := Lib.hid hcx
      clear hb4 hb3 g0 g1 hcx
      go_region_with (go_at_call 23; refine (HU.out _).mono ?_; rintro e w9 ⟨rfl, rfl⟩)
      all_goals
        clear f1 f2 hwx HU
        go_wp2_with fail
        go_roundw
        case rel =>
          refine ⟨p + d, c + x, by go_num, hd2, by omega, by omega, ?_, G0, G1, HB4⟩
          by_cases h : p + d ≤ n
          · exact .inl ⟨h, hx3.out h⟩
          · exact .inr ⟨by omega, hx4.out (by omega)⟩
        case measure => simp [intOf]; omega
    · have a0 : wr.cell? ⟨w.heap.size, 0, none⟩ = some (.int .i64 0) := by rw [Lib.cell_of_heap hb0.out]; rfl
      have a1 : wr.cell? ⟨w.heap.size, 1, none⟩ = some (.int .i64 0) := by rw [Lib.cell_of_heap hb0.out]; rfl
      have a2 : wr.frozen? ⟨w.heap.size, 0, none⟩ = false := Lib.frozen_of_heap hb0.out 0
      have a3 : wr.frozen? ⟨w.heap.size, 1, none⟩ = false := Lib.frozen_of_heap hb0.out 1
      have e0 : wr.cell? ⟨w.heap.size + 1, 0, none⟩ = some (.int .i64 L) := by rw [Lib.cell_of_heap hb1.out]; rfl
      have e1 : wr.cell? ⟨w.heap.size + 1, 1, none⟩ = some (.int .i64 c) := by rw [Lib.cell_of_heap hb1.out]; rfl
      have z0 : ∀ v, (wr.setCell ⟨w.heap.size, 0, none⟩ v).cell? ⟨w.heap.size, 0, none⟩ = some v := fun v => by rw [Lib.cell_of_heap (set_two0 hb0.out)]; rfl
      have z1 : ∀ v u, ((wr.setCell ⟨w.heap.size, 0, none⟩ v).setCell ⟨w.heap.size, 1, none⟩ u).cell? ⟨w.heap.size, 1, none⟩ = some u := fun v u => by rw [Lib.cell_of_heap (set_two1 (set_two0 hb0.out))]; rfl
      clear hb0 hb1 hz2
      by_cases hgt : n < p
      · have HV : Hid (V = (0, 0, 3)) := by
          rcases hst.out with ⟨h, _⟩ | ⟨_, h⟩
          · omega
          · show _ = _; rw [HP.out, h]
        clear hst HP
        go_wp2_with fail
        refine bodyPost_ret (by simp [results, Tryd.results20, go_sem, z0, z1]; try rfl) rfl ?_
        exact ⟨by rw [HV.out], (hb.setCell (Nat.le_refl _) _).setCell (Nat.le_refl _) _⟩
      · obtain rfl : p = n := by omega
        have HV : Hid (V = ((L : Int), (c : Int), 0)) := by
          rcases hst.out with ⟨_, h⟩ | ⟨h, _⟩
          · show _ = _; rw [HP.out, h, col_at st2 (Nat.le_refl _)]
          · omega
        clear hst HP
        go_wp2_with fail
        refine bodyPost_ret (by simp [results, Tryd.results20, go_sem, z0, z1]; try rfl) rfl ?_
        exact ⟨by rw [HV.out], (hb.setCell (Nat.le_refl _) _).setCell (Nat.le_refl _) _⟩
end Go.Proofs.YtmdfkahodbfjnaaDoor
