/-
  glossatorref1.PositionOf by its contract, for either way to count.
-/
import Derived.Test.YtmdfkahodbfjnaaDoorLine
namespace Go.Proofs.YtmdfkahodbfjnaaDoor
open Go.RowKit

set_option maxHeartbeats 2000000 in
set_option maxRecDepth 100000 in
theorem rposof_true (s : ByteArray) (off : Int) (w : World) (hs : s.size ≤ 1000000) (ho : -9223372036854775808 ≤ off ∧ off ≤ 9223372036854775807) :
    Calls Tryd.prog 13 #[.string s, .int .i64 off, .bool true] w fun e w' => e = .returned (.tuple #[.agg #[.int .i64 (posV s true off).1, .int .i64 (posV s true off).2.1], .int .i64 (posV s true off).2.2]) ∧ Below w.heap.size w w' := by
  obtain ⟨ho1, ho2⟩ := ho
  by_cases c1 : off < 0
  · have HV := Lib.hid (posV_bad (s := s) (u := true) (.inl c1))
    have d1 : decide (off < 0) = true := decide_eq_true c1
    go_enter Tryd.func13, Tryd.ntmps13
    go_wp2_with fail
    refine bodyPost_ret (by simp [results, Tryd.results13, go_sem]; try rfl) rfl ?_
    exact ⟨by rw [HV.out], (Below.refl _ _).alloc (Nat.le_refl _) _⟩
  by_cases c2 : (s.size : Int) < off
  · have HV := Lib.hid (posV_bad (s := s) (u := true) (.inr c2))
    have d1 : decide (off < 0) = false := decide_eq_false c1
    go_enter Tryd.func13, Tryd.ntmps13
    go_wp2_with fail
    refine bodyPost_ret (by simp [results, Tryd.results13, go_sem]; try rfl) rfl ?_
    exact ⟨by rw [HV.out], (Below.refl _ _).alloc (Nat.le_refl _) _⟩
  obtain ⟨n, rfl⟩ : ∃ n : Nat, off = n := ⟨off.toNat, by omega⟩
  have hn : n ≤ s.size := by omega
  have d1 : decide ((n : Int) < 0) = false := decide_eq_false c1
  have d2 : decide ((s.size : Int) < (n : Int)) = false := decide_eq_false c2
  have d3 : decide (s.size < n) = false := decide_eq_false (by omega)
  have HS := Lib.hid (fun W => rstarts_any s W hs)
  have hls := ls_le s n
  have HLn := Lib.hid (fun W => line_any s (ls s n) W hs (by omega))
  have hspec := le_spec (s := s) (p := ls s n) (by omega)
  have hmem := runes_mem (s := s) hspec.2.1 hspec.2.2.1 _ (ls s n) (Nat.le_refl _)
  have hrl := runes_length s _ hspec.2.1 _ (ls s n) (Nat.le_refl _)
  have hrl2 : (runes s (le s (ls s n)) (ls s n)).length ≤ 1000000 := by omega
  have hsp2 : le s (ls s n) ≤ 1000000 := by omega
  have HM : Hid (∀ r, r ∈ lineAt s (ls s n) → r.p + r.l ≤ 1000000 ∧ (r.u = 1 ∨ r.u = 2)) := fun r hr => by
    obtain ⟨_, _, h3, h4⟩ := hmem r hr
    exact ⟨by omega, h4⟩
  have HP : Hid (posV s true n = match colOf true n (lineAt s (ls s n)) 0 with | none => (0, 0, 3) | some c => ((nl s n : Int), (c : Int), 0)) := by
    show _ = _
    rw [posV_in hn]; cases colOf true n (lineAt s (ls s n)) 0 <;> rfl
  generalize posV s true n = V at *
  have HLEN : Hid ((lineAt s (ls s n)).length ≤ 1000000) := hrl2
  clear hmem hrl hrl2 hsp2 hspec
  generalize lineAt s (ls s n) = rs at *
  have HAT := Lib.hid (lst_at s hn)
  have HPAST : Hid (∀ j z, nl s n < j → (lst s s.size)[j]? = some z → (n : Int) < z) := fun j z h1 h2 => lst_past s hn h1 h2
  have HLL := Lib.hid (lst_length s s.size)
  have hmono := nl_mono s hn
  have hnls := nl_le s s.size
  generalize ls s n = q at *
  generalize nl s n = L at *
  have HB : Hid (Below w.heap.size w (w.alloc (.cells #[.int .i64 0, .int .i64 0] 23))) := (Below.refl _ _).alloc (Nat.le_refl _) _
  have HBK := Lib.hid (heap_alloc_new w (.cells #[.int .i64 0, .int .i64 0] 23))
  have HZ : Hid ((w.alloc (.cells #[.int .i64 0, .int .i64 0] 23)).heap.size = w.heap.size + 1) := by show _ = _; simp
  go_enter Tryd.func13, Tryd.ntmps13
  go_wp2_with fail
  refine (HS.out _).mono ?_
  rintro e w1 ⟨a, cap, rfl, HI, hb1⟩
  have hz1 := hb1.size
  rw [HZ.out] at hz1
  have k1 := Lib.hid ((hb1.block _ (by rw [HZ.out]; omega)).trans HBK.out)
  have B1 := HB.out.trans (hb1.mono (by rw [HZ.out]; omega))
  clear hb1 HS HB HBK HZ
  have hw : IntKind.i64.wrap (((lst s s.size).length : Int) - 1) = nl s s.size := by rw [HLL.out, show (((nl s s.size + 1 : Nat) : Int) - 1) = nl s s.size from by omega]; exact IntWalk.i64_in _ (by omega)
  have hlen1 : (lst s s.size).length = nl s s.size + 1 := HLL.out
  have HX : Hid (∀ j, j ≤ nl s s.size → ∃ z, (lst s s.size)[j]? = some z) := fun j hj => ⟨_, List.getElem?_eq_getElem (by rw [HLL.out]; omega)⟩
  clear HLL hlen1
  have hlen2 : nl s s.size < (lst s s.size).length := by rw [lst_length]; omega
  generalize hT : nl s s.size = T at *
  generalize hK : lst s s.size = K at *
  clear hT hK
  go_wp2_with fail
  clear hw
  go_loop [9] (fun i => ∃ (j : Nat), i = .int .i64 j ∧ L ≤ j ∧ j ≤ T) (fun i => (intOf i).toNat)
  case atStart => exact ⟨T, rfl, hmono, Nat.le_refl _⟩
  case round =>
    obtain ⟨j, rfl, hj1, hj2⟩ := hrel
    have hj3 : (0 : Int) ≤ j := by omega
    have hj4 : (j : Int) < (K.length : Int) := by omega
    by_cases hj : L < j
    · obtain ⟨z, hz⟩ := HX.out j hj2
      obtain ⟨⟨hz3, hz4⟩, b, oo, rfl, hbl, g0⟩ := HI.out j z hz
      have hz2 := HPAST.out j z hj hz
      clear hz
      go_wp2_with fail
      go_round
      case rel => exact ⟨j - 1, by first | go_num | (congr 1; omega), by omega, by omega⟩
      case measure => simp [intOf]; omega
    obtain rfl : j = L := by omega
    obtain ⟨_, b, oo, rfl, hbl, g0⟩ := HI.out j q HAT.out
    have hq : ¬ (n : Int) < (q : Int) := by omega
    clear HX HPAST HAT HI
    go_wp2_with fail
    refine (HLn.out _).mono ?_
    rintro e w2 ⟨a2, cap2, rfl, HR, hb2⟩
    have B2 := B1.trans (hb2.mono B1.size)
    have k2 := Lib.hid (below_kept hb2 k1.out)
    clear hb2 k1 B1 HLn g0 hbl
    go_wp2_with fail
    go_loopw [10, 42] (fun ci ki wr => ∃ (k c : Nat), ki = .int .i64 k ∧ ci = .int .i64 c ∧ k ≤ rs.length ∧ c ≤ 2 * k ∧ Hid (colOf true n rs 0 = colOf true n (rs.drop k) c) ∧ Hid (Rs wr wr.heap.size a2 rs) ∧ Hid (wr.heap[w.heap.size]? = some (.cells #[.int .i64 0, .int .i64 0] 23 (0, 0))) ∧ Below w.heap.size w wr)
      (fun _ ki _ => rs.length - (intOf ki).toNat)
    case atStart => exact ⟨0, 0, rfl, rfl, Nat.zero_le _, Nat.zero_le _, rfl, HR, k2, B2⟩
    case round =>
      clear HR k2 B2
      obtain ⟨k, c, rfl, rfl, hk, hck, hst, HR, k3, B3⟩ := hrel
      have hz9 := lt_of_block k3.out
      have hl9 := HLEN.out
      by_cases hlt : k < rs.length
      · have hx : rs[k]? = some rs[k] := List.getElem?_eq_getElem hlt
        have hdrop := List.drop_eq_getElem_cons hlt
        obtain ⟨x, hX⟩ : ∃ x, x = rs[k] := ⟨_, rfl⟩
        rw [← hX] at hx hdrop
        clear hX
        obtain ⟨m1, m2⟩ := HM.out x (List.mem_of_getElem? hx)
        have hx9 : x.u ≤ 2 := by omega
        have hst2 : Hid (colOf true n rs 0 = if n ≤ x.p then some c else if n < x.p + x.l then none else colOf true n (rs.drop (k + 1)) (c + x.u)) := by
          show _ = _; rw [hst.out, hdrop]; rfl
        obtain ⟨b2, o2, rfl, hb2, g0, g1, g2⟩ := HR.out k x hx
        have HR4 := Lib.hid (HR.out.to ((Below.refl _ wr).alloc (Nat.le_refl _) (.cells #[.int .i64 x.p, .int .i64 x.l, .int .i64 x.u] 45)))
        have k4 := Lib.hid ((Below.heap_alloc wr (.cells #[.int .i64 x.p, .int .i64 x.l, .int .i64 x.u] 45) _ hz9).trans k3.out)
        have B4 := Lib.hid (B3.alloc B3.size (.cells #[.int .i64 x.p, .int .i64 x.l, .int .i64 x.u] 45))
        have hk0 : (0 : Int) ≤ k := by omega
        have hk1 : (k : Int) < (rs.length : Int) := by omega
        clear hx hdrop hst HR m2
        by_cases e1 : n ≤ x.p
        · have HV : Hid (V = ((j : Int), (c : Int), 0)) := by show _ = _; rw [HP.out, hst2.out, if_pos e1]
          have e1' : (n : Int) ≤ (x.p : Int) := by omega
          have EB := ((B3.setCell (p := ⟨w.heap.size, 0, none⟩) (Nat.le_refl _) (.int .i64 j)).setCell (p := ⟨w.heap.size, 1, none⟩) (Nat.le_refl _) (.int .i64 c)).alloc (by simp; exact B3.size) (.cells #[.int .i64 x.p, .int .i64 x.l, .int .i64 x.u] 45)
          obtain ⟨a0, a1⟩ := two_at k3.out
          have f0 := Lib.frozen_of_heap k3.out 0
          have f1 := Lib.frozen_of_heap k3.out 1
          have z0 : ∀ v, (wr.setCell ⟨w.heap.size, 0, none⟩ v).cell? ⟨w.heap.size, 0, none⟩ = some v := fun v => by rw [Lib.cell_of_heap (set_two0 k3.out)]; rfl
          have z1 : ∀ v u, ((wr.setCell ⟨w.heap.size, 0, none⟩ v).setCell ⟨w.heap.size, 1, none⟩ u).cell? ⟨w.heap.size, 1, none⟩ = some u := fun v u => by rw [Lib.cell_of_heap (set_two1 (set_two0 k3.out))]; rfl
          have hH : ∀ v u (o : Obj), (((wr.setCell ⟨w.heap.size, 0, none⟩ v).setCell ⟨w.heap.size, 1, none⟩ u).alloc o).heap[w.heap.size]? = some (.cells #[v, u] 23 (0, 0)) := fun v u o => (Below.heap_alloc _ _ _ (by simp; exact hz9)).trans (set_two1 (set_two0 k3.out))
          have y0 : ∀ v u (o : Obj), (((wr.setCell ⟨w.heap.size, 0, none⟩ v).setCell ⟨w.heap.size, 1, none⟩ u).alloc o).cell? ⟨w.heap.size, 0, none⟩ = some v := fun v u o => by rw [Lib.cell_of_heap (hH v u o)]; rfl
          have y1 : ∀ v u (o : Obj), (((wr.setCell ⟨w.heap.size, 0, none⟩ v).setCell ⟨w.heap.size, 1, none⟩ u).alloc o).cell? ⟨w.heap.size, 1, none⟩ = some u := fun v u o => by rw [Lib.cell_of_heap (hH v u o)]; rfl
          clear hH
          clear hst2 HP HM HR4 k3 k4
          go_wp2_with fail
          refine bodyPost_ret (by simp [results, Tryd.results13, go_sem, y0, y1]; try rfl) rfl ?_
          exact ⟨by rw [HV.out], EB⟩
        have e1' : ¬ (n : Int) ≤ (x.p : Int) := by omega
        by_cases e2 : n < x.p + x.l
        · have HV : Hid (V = (0, 0, 3)) := by show _ = _; rw [HP.out, hst2.out, if_neg e1, if_pos e2]
          have e2' : (n : Int) < (x.p : Int) + (x.l : Int) := by omega
          have EB := ((B3.setCell (p := ⟨w.heap.size, 0, none⟩) (Nat.le_refl _) (.int .i64 0)).setCell (p := ⟨w.heap.size, 1, none⟩) (Nat.le_refl _) (.int .i64 0)).alloc (by simp; exact B3.size) (.cells #[.int .i64 x.p, .int .i64 x.l, .int .i64 x.u] 45)
          obtain ⟨a0, a1⟩ := two_at k3.out
          have f0 := Lib.frozen_of_heap k3.out 0
          have f1 := Lib.frozen_of_heap k3.out 1
          have z0 : ∀ v, (wr.setCell ⟨w.heap.size, 0, none⟩ v).cell? ⟨w.heap.size, 0, none⟩ = some v := fun v => by rw [Lib.cell_of_heap (set_two0 k3.out)]; rfl
          have z1 : ∀ v u, ((wr.setCell ⟨w.heap.size, 0, none⟩ v).setCell ⟨w.heap.size, 1, none⟩ u).cell? ⟨w.heap.size, 1, none⟩ = some u := fun v u => by rw [Lib.cell_of_heap (set_two1 (set_two0 k3.out))]; rfl
          have hH : ∀ v u (o : Obj), (((wr.setCell ⟨w.heap.size, 0, none⟩ v).setCell ⟨w.heap.size, 1, none⟩ u).alloc o).heap[w.heap.size]? = some (.cells #[v, u] 23 (0, 0)) := fun v u o => (Below.heap_alloc _ _ _ (by simp; exact hz9)).trans (set_two1 (set_two0 k3.out))
          have y0 : ∀ v u (o : Obj), (((wr.setCell ⟨w.heap.size, 0, none⟩ v).setCell ⟨w.heap.size, 1, none⟩ u).alloc o).cell? ⟨w.heap.size, 0, none⟩ = some v := fun v u o => by rw [Lib.cell_of_heap (hH v u o)]; rfl
          have y1 : ∀ v u (o : Obj), (((wr.setCell ⟨w.heap.size, 0, none⟩ v).setCell ⟨w.heap.size, 1, none⟩ u).alloc o).cell? ⟨w.heap.size, 1, none⟩ = some u := fun v u o => by rw [Lib.cell_of_heap (hH v u o)]; rfl
          clear hH
          clear hst2 HP HM HR4 k3 k4
          go_wp2_with fail
          refine bodyPost_ret (by simp [results, Tryd.results13, go_sem, y0, y1]; try rfl) rfl ?_
          exact ⟨by rw [HV.out], EB⟩
        have e2' : ¬ (n : Int) < (x.p : Int) + (x.l : Int) := by omega
        have hst3 : Hid (colOf true n rs 0 = colOf true n (rs.drop (k + 1)) (c + x.u)) := by show _ = _; rw [hst2.out, if_neg e1, if_neg e2]
        clear hst2 HP
        go_wp2_with fail
        go_roundw
        case rel => exact ⟨k + 1, c + x.u, by go_num, by go_num, by omega, by omega, hst3, HR4, k4, B4.out⟩
        case measure => simp [intOf]; omega
      · have HV : Hid (V = ((j : Int), (c : Int), 0)) := by show _ = _; rw [HP.out, hst.out, List.drop_eq_nil_of_le (by omega)]; rfl
        have EB := (B3.setCell (p := ⟨w.heap.size, 0, none⟩) (Nat.le_refl _) (.int .i64 j)).setCell (p := ⟨w.heap.size, 1, none⟩) (Nat.le_refl _) (.int .i64 c)
        obtain ⟨a0, a1⟩ := two_at k3.out
        have f0 := Lib.frozen_of_heap k3.out 0
        have f1 := Lib.frozen_of_heap k3.out 1
        have z0 : ∀ v, (wr.setCell ⟨w.heap.size, 0, none⟩ v).cell? ⟨w.heap.size, 0, none⟩ = some v := fun v => by rw [Lib.cell_of_heap (set_two0 k3.out)]; rfl
        have z1 : ∀ v u, ((wr.setCell ⟨w.heap.size, 0, none⟩ v).setCell ⟨w.heap.size, 1, none⟩ u).cell? ⟨w.heap.size, 1, none⟩ = some u := fun v u => by rw [Lib.cell_of_heap (set_two1 (set_two0 k3.out))]; rfl
        clear hst HP HM HR k3
        go_wp2_with fail
        refine bodyPost_ret (by simp [results, Tryd.results13, go_sem, z0, z1]; try rfl) rfl ?_
        exact ⟨by rw [HV.out], EB⟩

set_option maxHeartbeats 2000000 in
set_option maxRecDepth 100000 in
theorem rposof_false (s : ByteArray) (off : Int) (w : World) (hs : s.size ≤ 1000000) (ho : -9223372036854775808 ≤ off ∧ off ≤ 9223372036854775807) :
    Calls Tryd.prog 13 #[.string s, .int .i64 off, .bool false] w fun e w' => e = .returned (.tuple #[.agg #[.int .i64 (posV s false off).1, .int .i64 (posV s false off).2.1], .int .i64 (posV s false off).2.2]) ∧ Below w.heap.size w w' := by
  obtain ⟨ho1, ho2⟩ := ho
  by_cases c1 : off < 0
  · have HV := Lib.hid (posV_bad (s := s) (u := false) (.inl c1))
    have d1 : decide (off < 0) = true := decide_eq_true c1
    go_enter Tryd.func13, Tryd.ntmps13
    go_wp2_with fail
    refine bodyPost_ret (by simp [results, Tryd.results13, go_sem]; try rfl) rfl ?_
    exact ⟨by rw [HV.out], (Below.refl _ _).alloc (Nat.le_refl _) _⟩
  by_cases c2 : (s.size : Int) < off
  · have HV := Lib.hid (posV_bad (s := s) (u := false) (.inr c2))
    have d1 : decide (off < 0) = false := decide_eq_false c1
    go_enter Tryd.func13, Tryd.ntmps13
    go_wp2_with fail
    refine bodyPost_ret (by simp [results, Tryd.results13, go_sem]; try rfl) rfl ?_
    exact ⟨by rw [HV.out], (Below.refl _ _).alloc (Nat.le_refl _) _⟩
  obtain ⟨n, rfl⟩ : ∃ n : Nat, off = n := ⟨off.toNat, by omega⟩
  have hn : n ≤ s.size := by omega
  have d1 : decide ((n : Int) < 0) = false := decide_eq_false c1
  have d2 : decide ((s.size : Int) < (n : Int)) = false := decide_eq_false c2
  have d3 : decide (s.size < n) = false := decide_eq_false (by omega)
  have HS := Lib.hid (fun W => rstarts_any s W hs)
  have hls := ls_le s n
  have HLn := Lib.hid (fun W => line_any s (ls s n) W hs (by omega))
  have hspec := le_spec (s := s) (p := ls s n) (by omega)
  have hmem := runes_mem (s := s) hspec.2.1 hspec.2.2.1 _ (ls s n) (Nat.le_refl _)
  have hrl := runes_length s _ hspec.2.1 _ (ls s n) (Nat.le_refl _)
  have hrl2 : (runes s (le s (ls s n)) (ls s n)).length ≤ 1000000 := by omega
  have hsp2 : le s (ls s n) ≤ 1000000 := by omega
  have HM : Hid (∀ r, r ∈ lineAt s (ls s n) → r.p + r.l ≤ 1000000 ∧ (r.u = 1 ∨ r.u = 2)) := fun r hr => by
    obtain ⟨_, _, h3, h4⟩ := hmem r hr
    exact ⟨by omega, h4⟩
  have HP : Hid (posV s false n = match colOf false n (lineAt s (ls s n)) 0 with | none => (0, 0, 3) | some c => ((nl s n : Int), (c : Int), 0)) := by
    show _ = _
    rw [posV_in hn]; cases colOf false n (lineAt s (ls s n)) 0 <;> rfl
  generalize posV s false n = V at *
  have HLEN : Hid ((lineAt s (ls s n)).length ≤ 1000000) := hrl2
  clear hmem hrl hrl2 hsp2 hspec
  generalize lineAt s (ls s n) = rs at *
  have HAT := Lib.hid (lst_at s hn)
  have HPAST : Hid (∀ j z, nl s n < j → (lst s s.size)[j]? = some z → (n : Int) < z) := fun j z h1 h2 => lst_past s hn h1 h2
  have HLL := Lib.hid (lst_length s s.size)
  have hmono := nl_mono s hn
  have hnls := nl_le s s.size
  generalize ls s n = q at *
  generalize nl s n = L at *
  have HB : Hid (Below w.heap.size w (w.alloc (.cells #[.int .i64 0, .int .i64 0] 23))) := (Below.refl _ _).alloc (Nat.le_refl _) _
  have HBK := Lib.hid (heap_alloc_new w (.cells #[.int .i64 0, .int .i64 0] 23))
  have HZ : Hid ((w.alloc (.cells #[.int .i64 0, .int .i64 0] 23)).heap.size = w.heap.size + 1) := by show _ = _; simp
  go_enter Tryd.func13, Tryd.ntmps13
  go_wp2_with fail
  refine (HS.out _).mono ?_
  rintro e w1 ⟨a, cap, rfl, HI, hb1⟩
  have hz1 := hb1.size
  rw [HZ.out] at hz1
  have k1 := Lib.hid ((hb1.block _ (by rw [HZ.out]; omega)).trans HBK.out)
  have B1 := HB.out.trans (hb1.mono (by rw [HZ.out]; omega))
  clear hb1 HS HB HBK HZ
  have hw : IntKind.i64.wrap (((lst s s.size).length : Int) - 1) = nl s s.size := by rw [HLL.out, show (((nl s s.size + 1 : Nat) : Int) - 1) = nl s s.size from by omega]; exact IntWalk.i64_in _ (by omega)
  have hlen1 : (lst s s.size).length = nl s s.size + 1 := HLL.out
  have HX : Hid (∀ j, j ≤ nl s s.size → ∃ z, (lst s s.size)[j]? = some z) := fun j hj => ⟨_, List.getElem?_eq_getElem (by rw [HLL.out]; omega)⟩
  clear HLL hlen1
  have hlen2 : nl s s.size < (lst s s.size).length := by rw [lst_length]; omega
  generalize hT : nl s s.size = T at *
  generalize hK : lst s s.size = K at *
  clear hT hK
  go_wp2_with fail
  clear hw
  go_loop [9] (fun i => ∃ (j : Nat), i = .int .i64 j ∧ L ≤ j ∧ j ≤ T) (fun i => (intOf i).toNat)
  case atStart => exact ⟨T, rfl, hmono, Nat.le_refl _⟩
  case round =>
    obtain ⟨j, rfl, hj1, hj2⟩ := hrel
    have hj3 : (0 : Int) ≤ j := by omega
    have hj4 : (j : Int) < (K.length : Int) := by omega
    by_cases hj : L < j
    · obtain ⟨z, hz⟩ := HX.out j hj2
      obtain ⟨⟨hz3, hz4⟩, b, oo, rfl, hbl, g0⟩ := HI.out j z hz
      have hz2 := HPAST.out j z hj hz
      clear hz
      go_wp2_with fail
      go_round
      case rel => exact ⟨j - 1, by first | go_num | (congr 1; omega), by omega, by omega⟩
      case measure => simp [intOf]; omega
    obtain rfl : j = L := by omega
    obtain ⟨_, b, oo, rfl, hbl, g0⟩ := HI.out j q HAT.out
    have hq : ¬ (n : Int) < (q : Int) := by omega
    clear HX HPAST HAT HI
    go_wp2_with fail
    refine (HLn.out _).mono ?_
    rintro e w2 ⟨a2, cap2, rfl, HR, hb2⟩
    have B2 := B1.trans (hb2.mono B1.size)
    have k2 := Lib.hid (below_kept hb2 k1.out)
    clear hb2 k1 B1 HLn g0 hbl
    go_wp2_with fail
    go_loopw [10, 42] (fun ci ki wr => ∃ (k c : Nat), ki = .int .i64 k ∧ ci = .int .i64 c ∧ k ≤ rs.length ∧ c ≤ 2 * k ∧ Hid (colOf false n rs 0 = colOf false n (rs.drop k) c) ∧ Hid (Rs wr wr.heap.size a2 rs) ∧ Hid (wr.heap[w.heap.size]? = some (.cells #[.int .i64 0, .int .i64 0] 23 (0, 0))) ∧ Below w.heap.size w wr)
      (fun _ ki _ => rs.length - (intOf ki).toNat)
    case atStart => exact ⟨0, 0, rfl, rfl, Nat.zero_le _, Nat.zero_le _, rfl, HR, k2, B2⟩
    case round =>
      clear HR k2 B2
      obtain ⟨k, c, rfl, rfl, hk, hck, hst, HR, k3, B3⟩ := hrel
      have hz9 := lt_of_block k3.out
      have hl9 := HLEN.out
      by_cases hlt : k < rs.length
      · have hx : rs[k]? = some rs[k] := List.getElem?_eq_getElem hlt
        have hdrop := List.drop_eq_getElem_cons hlt
        obtain ⟨x, hX⟩ : ∃ x, x = rs[k] := ⟨_, rfl⟩
        rw [← hX] at hx hdrop
        clear hX
        obtain ⟨m1, m2⟩ := HM.out x (List.mem_of_getElem? hx)
        have hx9 : x.u ≤ 2 := by omega
        have hst2 : Hid (colOf false n rs 0 = if n ≤ x.p then some c else if n < x.p + x.l then none else colOf false n (rs.drop (k + 1)) (c + 1)) := by
          show _ = _; rw [hst.out, hdrop]; rfl
        obtain ⟨b2, o2, rfl, hb2, g0, g1, g2⟩ := HR.out k x hx
        have HR4 := Lib.hid (HR.out.to ((Below.refl _ wr).alloc (Nat.le_refl _) (.cells #[.int .i64 x.p, .int .i64 x.l, .int .i64 x.u] 45)))
        have k4 := Lib.hid ((Below.heap_alloc wr (.cells #[.int .i64 x.p, .int .i64 x.l, .int .i64 x.u] 45) _ hz9).trans k3.out)
        have B4 := Lib.hid (B3.alloc B3.size (.cells #[.int .i64 x.p, .int .i64 x.l, .int .i64 x.u] 45))
        have hk0 : (0 : Int) ≤ k := by omega
        have hk1 : (k : Int) < (rs.length : Int) := by omega
        clear hx hdrop hst HR m2
        by_cases e1 : n ≤ x.p
        · have HV : Hid (V = ((j : Int), (c : Int), 0)) := by show _ = _; rw [HP.out, hst2.out, if_pos e1]
          have e1' : (n : Int) ≤ (x.p : Int) := by omega
          have EB := ((B3.setCell (p := ⟨w.heap.size, 0, none⟩) (Nat.le_refl _) (.int .i64 j)).setCell (p := ⟨w.heap.size, 1, none⟩) (Nat.le_refl _) (.int .i64 c)).alloc (by simp; exact B3.size) (.cells #[.int .i64 x.p, .int .i64 x.l, .int .i64 x.u] 45)
          obtain ⟨a0, a1⟩ := two_at k3.out
          have f0 := Lib.frozen_of_heap k3.out 0
          have f1 := Lib.frozen_of_heap k3.out 1
          have z0 : ∀ v, (wr.setCell ⟨w.heap.size, 0, none⟩ v).cell? ⟨w.heap.size, 0, none⟩ = some v := fun v => by rw [Lib.cell_of_heap (set_two0 k3.out)]; rfl
          have z1 : ∀ v u, ((wr.setCell ⟨w.heap.size, 0, none⟩ v).setCell ⟨w.heap.size, 1, none⟩ u).cell? ⟨w.heap.size, 1, none⟩ = some u := fun v u => by rw [Lib.cell_of_heap (set_two1 (set_two0 k3.out))]; rfl
          have hH : ∀ v u (o : Obj), (((wr.setCell ⟨w.heap.size, 0, none⟩ v).setCell ⟨w.heap.size, 1, none⟩ u).alloc o).heap[w.heap.size]? = some (.cells #[v, u] 23 (0, 0)) := fun v u o => (Below.heap_alloc _ _ _ (by simp; exact hz9)).trans (set_two1 (set_two0 k3.out))
          have y0 : ∀ v u (o : Obj), (((wr.setCell ⟨w.heap.size, 0, none⟩ v).setCell ⟨w.heap.size, 1, none⟩ u).alloc o).cell? ⟨w.heap.size, 0, none⟩ = some v := fun v u o => by rw [Lib.cell_of_heap (hH v u o)]; rfl
          have y1 : ∀ v u (o : Obj), (((wr.setCell ⟨w.heap.size, 0, none⟩ v).setCell ⟨w.heap.size, 1, none⟩ u).alloc o).cell? ⟨w.heap.size, 1, none⟩ = some u := fun v u o => by rw [Lib.cell_of_heap (hH v u o)]; rfl
          clear hH
          clear hst2 HP HM HR4 k3 k4
          go_wp2_with fail
          refine bodyPost_ret (by simp [results, Tryd.results13, go_sem, y0, y1]; try rfl) rfl ?_
          exact ⟨by rw [HV.out], EB⟩
        have e1' : ¬ (n : Int) ≤ (x.p : Int) := by omega
        by_cases e2 : n < x.p + x.l
        · have HV : Hid (V = (0, 0, 3)) := by show _ = _; rw [HP.out, hst2.out, if_neg e1, if_pos e2]
          have e2' : (n : Int) < (x.p : Int) + (x.l : Int) := by omega
          have EB := ((B3.setCell (p := ⟨w.heap.size, 0, none⟩) (Nat.le_refl _) (.int .i64 0)).setCell (p := ⟨w.heap.size, 1, none⟩) (Nat.le_refl _) (.int .i64 0)).alloc (by simp; exact B3.size) (.cells #[.int .i64 x.p, .int .i64 x.l, .int .i64 x.u] 45)
          obtain ⟨a0, a1⟩ := two_at k3.out
          have f0 := Lib.frozen_of_heap k3.out 0
          have f1 := Lib.frozen_of_heap k3.out 1
          have z0 : ∀ v, (wr.setCell ⟨w.heap.size, 0, none⟩ v).cell? ⟨w.heap.size, 0, none⟩ = some v := fun v => by rw [Lib.cell_of_heap (set_two0 k3.out)]; rfl
          have z1 : ∀ v u, ((wr.setCell ⟨w.heap.size, 0, none⟩ v).setCell ⟨w.heap.size, 1, none⟩ u).cell? ⟨w.heap.size, 1, none⟩ = some u := fun v u => by rw [Lib.cell_of_heap (set_two1 (set_two0 k3.out))]; rfl
          have hH : ∀ v u (o : Obj), (((wr.setCell ⟨w.heap.size, 0, none⟩ v).setCell ⟨w.heap.size, 1, none⟩ u).alloc o).heap[w.heap.size]? = some (.cells #[v, u] 23 (0, 0)) := fun v u o => (Below.heap_alloc _ _ _ (by simp; exact hz9)).trans (set_two1 (set_two0 k3.out))
          have y0 : ∀ v u (o : Obj), (((wr.setCell ⟨w.heap.size, 0, none⟩ v).setCell ⟨w.heap.size, 1, none⟩ u).alloc o).cell? ⟨w.heap.size, 0, none⟩ = some v := fun v u o => by rw [Lib.cell_of_heap (hH v u o)]; rfl
          have y1 : ∀ v u (o : Obj), (((wr.setCell ⟨w.heap.size, 0, none⟩ v).setCell ⟨w.heap.size, 1, none⟩ u).alloc o).cell? ⟨w.heap.size, 1, none⟩ = some u := fun v u o => by rw [Lib.cell_of_heap (hH v u o)]; rfl
          clear hH
          clear hst2 HP HM HR4 k3 k4
          go_wp2_with fail
          refine bodyPost_ret (by simp [results, Tryd.results13, go_sem, y0, y1]; try rfl) rfl ?_
          exact ⟨by rw [HV.out], EB⟩
        have e2' : ¬ (n : Int) < (x.p : Int) + (x.l : Int) := by omega
        have hst3 : Hid (colOf false n rs 0 = colOf false n (rs.drop (k + 1)) (c + 1)) := by show _ = _; rw [hst2.out, if_neg e1, if_neg e2]
        clear hst2 HP
        go_wp2_with fail
        go_roundw
        case rel => exact ⟨k + 1, c + 1, by go_num, by go_num, by omega, by omega, hst3, HR4, k4, B4.out⟩
        case measure => simp [intOf]; omega
      · have HV : Hid (V = ((j : Int), (c : Int), 0)) := by show _ = _; rw [HP.out, hst.out, List.drop_eq_nil_of_le (by omega)]; rfl
        have EB := (B3.setCell (p := ⟨w.heap.size, 0, none⟩) (Nat.le_refl _) (.int .i64 j)).setCell (p := ⟨w.heap.size, 1, none⟩) (Nat.le_refl _) (.int .i64 c)
        obtain ⟨a0, a1⟩ := two_at k3.out
        have f0 := Lib.frozen_of_heap k3.out 0
        have f1 := Lib.frozen_of_heap k3.out 1
        have z0 : ∀ v, (wr.setCell ⟨w.heap.size, 0, none⟩ v).cell? ⟨w.heap.size, 0, none⟩ = some v := fun v => by rw [Lib.cell_of_heap (set_two0 k3.out)]; rfl
        have z1 : ∀ v u, ((wr.setCell ⟨w.heap.size, 0, none⟩ v).setCell ⟨w.heap.size, 1, none⟩ u).cell? ⟨w.heap.size, 1, none⟩ = some u := fun v u => by rw [Lib.cell_of_heap (set_two1 (set_two0 k3.out))]; rfl
        clear hst HP HM HR k3
        go_wp2_with fail
        refine bodyPost_ret (by simp [results, Tryd.results13, go_sem, z0, z1]; try rfl) rfl ?_
        exact ⟨by rw [HV.out], EB⟩
end Go.Proofs.YtmdfkahodbfjnaaDoor
