/-
  slices.Insert of one tree ahead of others, by its contract: in place where there is room, else in a new row.
  parseImpl, by its contract.
-/
import Derived.Test.YtcpojagfnpajeaaGreatDoorRZPsCase
import Derived.Shelf.Spec.SlicesInsertGrow
import Derived.Deep.DeepCutAuto
namespace Go.Proofs.YtcpojagfnpajeaaGreatDoorR.Ps
open Go.RowKit Go.Shelf Go.Lib

/-- copy, at elements of three cells. -/
theorem run_copy3 (w : World) (ty : TypeId) (g o dLen dCap : Nat) (a : Addr) (sLen sCap : Nat) (cur : Array Value) (t : TypeId) (cs : List Value)
    (hg : w.heap[g]? = some (.cells cur t (0, 0))) (hn : cs.length = Nat.min sLen dLen * 3) (hsrc : ∀ j v, cs[j]? = some v → w.cell? (a.add j) = some v) (hfit : o + cs.length ≤ cur.size) (h1 : ∀ v ∈ cs, v.oneCell' = true) :
    (Builtin.copy_ #[23, 23] ty #[.slice (some ⟨g, o, none⟩) dLen dCap, .slice (some a) sLen sCap]).run Tryz.prog w =
      .ok (goInt (Nat.min sLen dLen)) (w.setRow g (cur.toList.take o ++ cs ++ cur.toList.drop (o + cs.length)).toArray) := by
  have hl := run_loadCells_list (P := Tryz.prog) w a cs hsrc
  have hst := run_storeCells_at Tryz.prog g o t cs 0 cur w hg (by simpa using hfit) h1
  obtain ⟨i0, ii, iz0, iz1, iz2⟩ := info_parts info_tree
  rw [Nat.add_zero] at hst
  rw [hn] at hl
  simp [Builtin.copy_, run_underlying Tryz.underlying23, Builtin.lenOf, Builtin.firstCells, sizeOf, typeInfo, ii, iz1, hl, hst]

theorem ins_cells {xs cur new : List Value} {n i : Nat} (hx : xs.length = n * 3) (hc : (n + 1) * 3 ≤ cur.length) (ht : cur.take (n * 3) = xs) (hi : i < n) (hnew : new.length = 3) :
    let c1 := cur.take ((i + 1) * 3) ++ xs.drop (i * 3) ++ cur.drop ((i + 1) * 3 + (xs.drop (i * 3)).length)
    c1.length = cur.length ∧ (c1.take (i * 3) ++ new ++ c1.drop (i * 3 + new.length)).length = cur.length ∧ (c1.take (i * 3) ++ new ++ c1.drop (i * 3 + new.length)).take ((n + 1) * 3) = xs.take (i * 3) ++ new ++ xs.drop (i * 3) := by
  intro c1
  have hd : (xs.drop (i * 3)).length = n * 3 - i * 3 := by rw [List.length_drop, hx]
  have e1 : c1.length = cur.length := by
    show (_ ++ _ ++ _ : List Value).length = _
    simp only [List.length_append, List.length_take, List.length_drop, hx]; omega
  have e2 : c1.take (i * 3) = xs.take (i * 3) := by
    show (_ ++ _ ++ _ : List Value).take _ = _
    rw [List.append_assoc, List.take_append_of_le_length (by rw [List.length_take]; omega), List.take_take, Nat.min_eq_left (by omega), ← ht, List.take_take, Nat.min_eq_left (by omega)]
  have e3 : c1.drop (i * 3 + new.length) = xs.drop (i * 3) ++ cur.drop ((i + 1) * 3 + (xs.drop (i * 3)).length) := by
    show (_ ++ _ ++ _ : List Value).drop _ = _
    rw [hnew, List.append_assoc, List.drop_append, List.drop_of_length_le (by rw [List.length_take]; omega), List.length_take, Nat.min_eq_left (by omega), show i * 3 + 3 - (i + 1) * 3 = 0 from by omega]
    rfl
  refine ⟨e1, ?_, ?_⟩
  · simp only [List.length_append, List.length_take, List.length_drop, e1, hnew]; omega
  · rw [e2, e3, ← List.append_assoc, List.take_append_of_le_length (by simp only [List.length_append, List.length_take, hx, hd, hnew]; omega), List.take_of_length_le (by simp only [List.length_append, List.length_take, hx, hd, hnew]; omega)]

theorem size25 (w : World) : (sizeOf 25).run Tryz.prog w = .ok 3 w := by kernel_rfl

abbrev noneCells : List Value := [.int .i64 0, .string ⟨#[]⟩, .slice none 0 0]

set_option maxRecDepth 100000 in
set_option maxHeartbeats 4000000 in
theorem ins_shift (g n cap i q : Nat) (xs : List Value) (w : World) (hi : i < n) (hown : w.ownsRow 0 25 3 (.slice (some ⟨g, 0, none⟩) n cap) n xs) (h1 : ∀ u, u ∈ xs → u.oneCell' = true) (hq : w.heap[q]? = some (.cells #[.int .i64 0, .string ⟨#[]⟩, .slice none 0 0] 25 (0, 0))) (hqg : q ≠ g)
    (hn : n ≤ 1000000) (hroom : n + 1 ≤ cap) :
    Calls Tryz.prog 227 #[.slice (some ⟨g, 0, none⟩) n cap, .int .i64 i, .slice (some ⟨q, 0, none⟩) 1 1] w fun e w' => ∃ g' cap', e = .returned (.slice (some ⟨g', 0, none⟩) (n + 1) cap') ∧
      w'.ownsRow 0 25 3 (.slice (some ⟨g', 0, none⟩) (n + 1) cap') (n + 1) (xs.take (i * 3) ++ noneCells ++ xs.drop (i * 3)) ∧ w.grownBy w' (some g) ∧ (g' = g ∨ w.heap.size ≤ g') := by
  obtain ⟨hxl, ⟨h0, _⟩ | ⟨g0, cap0, cur, hv, _, hg, hnc, hcm, hcs, htake⟩⟩ := hown
  · cases h0
  cases hv
  obtain ⟨hc1, hc2, hc3⟩ := ins_cells (new := noneCells) hxl (cur := cur.toList) (by rw [Array.length_toList, hcs]; omega) htake hi rfl
  obtain ⟨C1, hC1⟩ : ∃ C1, C1 = cur.toList.take ((i + 1) * 3) ++ xs.drop (i * 3) ++ cur.toList.drop ((i + 1) * 3 + (xs.drop (i * 3)).length) := ⟨_, rfl⟩
  simp only [← hC1] at hc1 hc2 hc3
  have hdl : (xs.drop (i * 3)).length = (n - i) * 3 := by rw [List.length_drop, hxl]; omega
  have hxcell : ∀ j v, xs[j]? = some v → w.cell? ⟨g, j, none⟩ = some v := fun j v hj => by
    rw [← htake, List.getElem?_take] at hj
    split at hj
    · rw [Lib.cell_of_heap hg]; simpa using hj
    · cases hj
  have hov : ∀ o lb cb, (callFunc 260 #[.slice (some ⟨q, 0, none⟩) 1 1, .slice (some ⟨g, o, none⟩) lb cb]).run Tryz.prog w = .ok (.value (.bool false)) w := fun o lb cb => by
    rw [run_callFunc_extern Tryz.func260 (by kernel_rfl) (by kernel_rfl) (by kernel_rfl) (e := Extern.SlicesOverlaps.overlaps #[23, 23] #[4]) (by kernel_rfl),
      Lib.run_overlaps_apart w 23 4 25 Tryz.underlying23 3 size25 ⟨q, 0, none⟩ ⟨g, o, none⟩ 1 1 lb cb hqg 25 25 3 cur.size (by simp [World.shape?, hq]) (by simp [World.shape?, hg]) (by rw [hcs]; omega) (Lib.frozen_of_heap hq _) (Lib.frozen_of_heap hq _)]
    rfl
  have hcp1 : ∀ ty dc sc, (Builtin.copy_ #[23, 23] ty #[.slice (some ⟨g, (i + 1) * 3, none⟩) (n - i) dc, .slice (some ⟨g, i * 3, none⟩) (n + 1 - i) sc]).run Tryz.prog w.drew = .ok (goInt (Nat.min (n + 1 - i) (n - i))) (w.drew.setRow g C1.toArray) := fun ty dc sc => by
    rw [hC1]
    refine run_copy3 w.drew ty g ((i + 1) * 3) _ dc ⟨g, i * 3, none⟩ _ sc cur 25 (xs.drop (i * 3)) hg (by rw [hdl]; simp only [Nat.min_def]; split <;> omega) (fun j v hj => ?_) (by rw [hdl, hcs]; omega) (fun v hv => h1 v (List.mem_of_mem_drop hv))
    rw [Addr.add_lit]
    exact hxcell _ v (by rwa [List.getElem?_drop] at hj)
  obtain ⟨W1, hW1⟩ : ∃ W1, W1 = w.drew.setRow g C1.toArray := ⟨_, rfl⟩
  have hg1 : W1.heap[g]? = some (.cells C1.toArray 25 (0, 0)) := by rw [hW1]; exact setRow_heap w.drew g cur _ 25 _ hg
  have hcp2 : ∀ (W : World), (∀ j : Nat, W.heap[j]? = W1.heap[j]?) → ∀ ty dc, (Builtin.copy_ #[23, 23] ty #[.slice (some ⟨g, i * 3, none⟩) (n + 1 - i) dc, .slice (some ⟨q, 0, none⟩) 1 1]).run Tryz.prog W = .ok (goInt (Nat.min 1 (n + 1 - i))) (W.setRow g (C1.take (i * 3) ++ noneCells ++ C1.drop (i * 3 + noneCells.length)).toArray) := fun W hW ty dc => by
    have hqW : W.heap[q]? = some (.cells #[.int .i64 0, .string ⟨#[]⟩, .slice none 0 0] 25 (0, 0)) := by rw [hW q, hW1, setRow_other w.drew g q _ hqg]; exact hq
    refine run_copy3 W ty g (i * 3) _ dc ⟨q, 0, none⟩ 1 1 C1.toArray 25 noneCells (by rw [hW g]; exact hg1) (by show 3 = _; simp only [Nat.min_def]; split <;> omega) (fun j v hj => ?_) (by simp only [List.size_toArray, hc1, Array.length_toList, hcs]; show i * 3 + 3 ≤ _; omega) (by simp [Value.oneCell'])
    rw [Addr.add_lit, Nat.zero_add, Lib.cell_of_heap hqW]
    simpa using hj
  rw [← hW1] at hcp1
  have HFIN : Hid (∀ (W : World), (∀ j : Nat, W.heap[j]? = W1.heap[j]?) → W.os = w.os → W.tape = w.tape → W.output = w.output → (W.setRow g (C1.take (i * 3) ++ noneCells ++ C1.drop (i * 3 + noneCells.length)).toArray).ownsRow 0 25 3 (.slice (some ⟨g, 0, none⟩) (n + 1) cap) (n + 1) (xs.take (i * 3) ++ noneCells ++ xs.drop (i * 3)) ∧
      w.grownBy (W.setRow g (C1.take (i * 3) ++ noneCells ++ C1.drop (i * 3 + noneCells.length)).toArray) (some g)) := by
    intro W hW a1 a2 a3
    have hgW : W.heap[g]? = some (.cells C1.toArray 25 (0, 0)) := by rw [hW g]; exact hg1
    refine ⟨⟨by simp only [List.length_append, List.length_take, List.length_drop, hxl]; show _ + 3 + _ = _; omega, .inr ⟨g, cap, _, rfl, Nat.zero_le _, setRow_heap W g _ _ 25 _ hgW, hroom, hcm, by simp only [List.size_toArray, hc2, Array.length_toList, hcs], hc3⟩⟩, a1, a2, a3, ?_, fun j hj hne => ?_⟩
    · have : W.heap.size = w.heap.size := by
        have h2 : W1.heap.size = w.heap.size := by rw [hW1]; simp [World.setRow]
        rw [← h2]
        rcases Nat.lt_trichotomy W.heap.size W1.heap.size with h | h | h
        · have := hW W.heap.size; rw [Array.getElem?_eq_none (Nat.le_refl _), Array.getElem?_eq_getElem h] at this; cases this
        · exact h
        · have := hW W1.heap.size; rw [Array.getElem?_eq_none (Nat.le_refl W1.heap.size), Array.getElem?_eq_getElem h] at this; cases this
      simp [World.setRow]; omega
    · have hjg : j ≠ g := fun e => hne (by rw [e])
      rw [setRow_other W g j _ hjg, hW j, hW1, setRow_other w.drew g j _ hjg]
      rfl
  have hw1 : IntKind.i64.wrap ((i : Int) + 1) = (i : Int) + 1 := IntWalk.i64_in _ (by omega)
  have hw2 : IntKind.i64.wrap ((n : Int) + 1) = (n : Int) + 1 := IntWalk.i64_in _ (by omega)
  have hz2 : ¬ ((i : Int) = (n : Int)) := by omega
  have hcm' : cap ≤ 9223372036854775807 := by unfold maxLen at hcm; omega
  have hin : i ≤ n := by omega
  have hb2 : ¬ (cap = i + 1) := by omega
  have hb4 : ¬ (cap = i) := by omega
  have hb3 : (i : Int) ≤ (n : Int) + 1 := by omega
  have hr1 : ¬ ((cap : Int) < (n : Int) + 1) := by omega
  have HW1 : Hid (W1.os = w.os ∧ W1.tape = w.tape ∧ W1.output = w.output) := by rw [hW1]; exact ⟨rfl, rfl, rfl⟩
  obtain ⟨D1, hD1⟩ : ∃ D1, D1 = (C1.take (i * 3) ++ noneCells ++ C1.drop (i * 3 + noneCells.length)).toArray := ⟨_, rfl⟩
  rw [← hD1] at hcp2 HFIN
  clear hD1
  clear hc1 hc2 hc3 hC1 hxcell hg hg1 htake hxl hdl hcs hq hW1
  have mixed : Tryz.prog.follows .mixedOrders = true := by kernel_rfl
  have hb1 : (0 : Int) ≤ (i : Int) + 1 := by omega
  go_enter Tryz.func227, Tryz.ntmps227
  go_wp2_with (simp only [hov])
  go_region_law_o (refine step_copy_runI rfl _ _ 23 23 rfl _ _ (by simp [Act.eval, Act.put]) (by simp [Act.eval, Act.put]) (hcp1 _ _ _) ?_)
  go_wp2_with (at_builtin; refine wpList_copy_runI _ rfl _ _ 23 23 rfl _ _ rfl rfl (hcp2 _ (fun _ => rfl) _ _) ?_)
  first | go_ret | go_ret2
  obtain ⟨f1, f2⟩ := HFIN.out W1 (fun _ => rfl) HW1.out.1 HW1.out.2.1 HW1.out.2.2
  exact ⟨g, cap, rfl, f1, f2, Or.inl rfl⟩

theorem ins_new {xs row new : List Value} {n i : Nat} (hx : xs.length = n * 3) (hr : (n + 1) * 3 ≤ row.length) (ht : row.take (i * 3) = xs.take (i * 3)) (hi : i < n) (hnew : new.length = 3) :
    let c1 := row.take (i * 3) ++ new ++ row.drop (i * 3 + new.length)
    c1.length = row.length ∧ (c1.take ((i + 1) * 3) ++ xs.drop (i * 3) ++ c1.drop ((i + 1) * 3 + (xs.drop (i * 3)).length)).length = row.length ∧
      (c1.take ((i + 1) * 3) ++ xs.drop (i * 3) ++ c1.drop ((i + 1) * 3 + (xs.drop (i * 3)).length)).take ((n + 1) * 3) = xs.take (i * 3) ++ new ++ xs.drop (i * 3) := by
  intro c1
  have hd : (xs.drop (i * 3)).length = n * 3 - i * 3 := by rw [List.length_drop, hx]
  have e1 : c1.length = row.length := by
    show (_ ++ _ ++ _ : List Value).length = _
    simp only [List.length_append, List.length_take, List.length_drop, hnew]; omega
  have e2 : c1.take ((i + 1) * 3) = xs.take (i * 3) ++ new := by
    show (_ ++ _ ++ _ : List Value).take _ = _
    rw [List.take_append_of_le_length (by simp only [List.length_append, List.length_take, hnew]; omega), List.take_of_length_le (by simp only [List.length_append, List.length_take, hnew]; omega), ht]
  refine ⟨e1, ?_, ?_⟩
  · simp only [List.length_append, List.length_take, List.length_drop, e1, hx]; omega
  · rw [e2, List.take_append_of_le_length (by simp only [List.length_append, List.length_take, hx, hd, hnew]; omega), List.take_of_length_le (by simp only [List.length_append, List.length_take, hx, hd, hnew]; omega)]

set_option maxRecDepth 100000 in
set_option maxHeartbeats 4000000 in
theorem ins_grow (g n cap i q : Nat) (xs : List Value) (w : World) (hi : i < n) (hown : w.ownsRow 0 25 3 (.slice (some ⟨g, 0, none⟩) n cap) n xs) (h1 : ∀ u, u ∈ xs → u.oneCell' = true) (hq : w.heap[q]? = some (.cells #[.int .i64 0, .string ⟨#[]⟩, .slice none 0 0] 25 (0, 0)))
    (hn : n ≤ 1000000) (hroom : cap < n + 1) :
    Calls Tryz.prog 227 #[.slice (some ⟨g, 0, none⟩) n cap, .int .i64 i, .slice (some ⟨q, 0, none⟩) 1 1] w fun e w' => ∃ g' cap', e = .returned (.slice (some ⟨g', 0, none⟩) (n + 1) cap') ∧
      w'.ownsRow 0 25 3 (.slice (some ⟨g', 0, none⟩) (n + 1) cap') (n + 1) (xs.take (i * 3) ++ noneCells ++ xs.drop (i * 3)) ∧ w.grownBy w' (some g) ∧ (g' = g ∨ w.heap.size ≤ g') := by
  obtain ⟨hxl, ⟨h0, _⟩ | ⟨g0, cap0, cur, hv, _, hg, hnc, hcm, hcs, htake⟩⟩ := hown
  · cases h0
  cases hv
  obtain ⟨i0, ii, iz0, iz1, iz2⟩ := info_parts info_tree
  have hglt : g < w.heap.size := (Array.getElem?_eq_some_iff.1 hg).1
  have hqlt : q < w.heap.size := (Array.getElem?_eq_some_iff.1 hq).1
  have hxcell : ∀ j v, xs[j]? = some v → w.cell? ⟨g, j, none⟩ = some v := fun j v hj => by
    rw [← htake, List.getElem?_take] at hj
    split at hj
    · rw [Lib.cell_of_heap hg]; simpa using hj
    · cases hj
  have hold : (Builtin.firstCells i0.size i (.slice (some ⟨g, 0, none⟩) i cap)).run Tryz.prog w.drew = .ok (xs.take (i * 3)).toArray w.drew := by
    rw [iz1]
    exact run_firstCells_some w.drew 3 i ⟨g, 0, none⟩ i cap (xs.take (i * 3)) (by rw [List.length_take, hxl]; omega) (fun j v hj => by
      rw [Addr.add_lit, Nat.zero_add]
      rw [List.getElem?_take] at hj
      split at hj
      · exact hxcell j v hj
      · cases hj)
  have hik : i + (n + 1 - i) = n + 1 := by omega
  have hkk : (n : Int) + 1 - (i : Int) = ((n + 1 - i : Nat) : Int) := by omega
  obtain ⟨G, hG⟩ : ∃ G, G = grownCap w (n + 1) cap 25 := ⟨_, rfl⟩
  obtain ⟨ROW, hROW⟩ : ∃ ROW : Array Value, ROW = (xs.take (i * 3)).toArray ++ Builtin.zeroCells (Value.agg #[.int .i64 0, .string ⟨#[]⟩, .slice none 0 0]).cells (n + 1 - i) ++ Builtin.zeroCells (Value.agg #[.int .i64 0, .string ⟨#[]⟩, .slice none 0 0]).cells (G - (n + 1)) := ⟨_, rfl⟩
  have hrz : ∀ ty, (Builtin.append_ #[23, 3] ty #[.slice (some ⟨g, 0, none⟩) i cap, .int .i64 ((n : Int) + 1 - (i : Int))]).run Tryz.prog w = .ok (.slice (some ⟨w.heap.size, 0, none⟩) (n + 1) G) (w.drew.alloc (.cells ROW 25)) := fun ty => by
    have h := Lib.run_append_grow_zeros w 23 3 ty 25 i0 _ .i64 .i64 Tryz.underlying23 Tryz.underlying3 ii iz0 (some ⟨g, 0, none⟩) i cap (xs.take (i * 3)) hold (n + 1 - i) (by omega) (by omega) (by omega) (by omega) (by rw [iz2]; omega) (by rw [iz2, hik]; exact growslice_fits (by omega) (by omega))
    rw [hik, ← hG] at h
    rw [hkk, hROW]
    exact h
  have hGn : n + 1 ≤ G := by rw [hG]; exact grownCap_ge w _ _ _
  have hG63 : G ≤ maxLen := by
    have := grownCap_le_maxLen w (n + 1) cap 25 (by unfold maxLen; omega)
    rwa [← hG] at this
  have hRs : ROW.size = G * 3 := by
    rw [hROW]
    simp [Builtin.zeroCells, Value.cells, hxl]
    omega
  have hRt : ROW.toList.take (i * 3) = xs.take (i * 3) := by
    rw [hROW, Array.toList_append, Array.toList_append, List.append_assoc, List.take_append_of_le_length (by simp [hxl]; omega)]
    rw [List.take_take, Nat.min_self]
  obtain ⟨hc1, hc2, hc3⟩ := ins_new (new := noneCells) hxl (row := ROW.toList) (by rw [Array.length_toList, hRs]; omega) hRt hi rfl
  obtain ⟨C1, hC1⟩ : ∃ C1, C1 = ROW.toList.take (i * 3) ++ noneCells ++ ROW.toList.drop (i * 3 + noneCells.length) := ⟨_, rfl⟩
  simp only [← hC1] at hc1 hc2 hc3
  have hdl : (xs.drop (i * 3)).length = (n - i) * 3 := by rw [List.length_drop, hxl]; omega
  obtain ⟨W1, hW1⟩ : ∃ W1, W1 = w.drew.alloc (.cells ROW 25) := ⟨_, rfl⟩
  have hn1 : W1.heap[w.heap.size]? = some (.cells ROW 25 (0, 0)) := by rw [hW1]; exact heap_alloc_new w.drew _
  have ho1 : ∀ j, j < w.heap.size → W1.heap[j]? = w.heap[j]? := fun j hj => by rw [hW1]; exact Below.heap_alloc w.drew _ _ hj
  have hcpA : ∀ (W : World), (∀ j : Nat, W.heap[j]? = W1.heap[j]?) → ∀ ty dc, (Builtin.copy_ #[23, 23] ty #[.slice (some ⟨w.heap.size, i * 3, none⟩) (n + 1 - i) dc, .slice (some ⟨q, 0, none⟩) 1 1]).run Tryz.prog W = .ok (goInt (Nat.min 1 (n + 1 - i))) (W.setRow w.heap.size C1.toArray) := fun W hW ty dc => by
    have hqW : W.heap[q]? = some (.cells #[.int .i64 0, .string ⟨#[]⟩, .slice none 0 0] 25 (0, 0)) := by rw [hW q, ho1 q hqlt]; exact hq
    rw [hC1]
    refine run_copy3 W ty w.heap.size (i * 3) _ dc ⟨q, 0, none⟩ 1 1 ROW 25 noneCells (by rw [hW]; exact hn1) (by show 3 = _; simp only [Nat.min_def]; split <;> omega) (fun j v hj => ?_) (by rw [hRs]; show i * 3 + 3 ≤ _; omega) (by simp [Value.oneCell'])
    rw [Addr.add_lit, Nat.zero_add, Lib.cell_of_heap hqW]
    simpa using hj
  have hcpB : ∀ (W : World), (∀ j : Nat, W.heap[j]? = (W1.setRow w.heap.size C1.toArray).heap[j]?) → ∀ ty dc sc, (Builtin.copy_ #[23, 23] ty #[.slice (some ⟨w.heap.size, (i + 1) * 3, none⟩) (n - i) dc, .slice (some ⟨g, i * 3, none⟩) (n - i) sc]).run Tryz.prog W =
      .ok (goInt (Nat.min (n - i) (n - i))) (W.setRow w.heap.size (C1.take ((i + 1) * 3) ++ xs.drop (i * 3) ++ C1.drop ((i + 1) * 3 + (xs.drop (i * 3)).length)).toArray) := fun W hW ty dc sc => by
    have hgW : W.heap[g]? = some (.cells cur 25 (0, 0)) := by rw [hW g, setRow_other W1 w.heap.size g _ (by omega), ho1 g hglt]; exact hg
    have hnW : W.heap[w.heap.size]? = some (.cells C1.toArray 25 (0, 0)) := by rw [hW]; exact setRow_heap W1 _ _ _ 25 _ hn1
    refine run_copy3 W ty w.heap.size ((i + 1) * 3) _ dc ⟨g, i * 3, none⟩ _ sc C1.toArray 25 (xs.drop (i * 3)) hnW (by rw [hdl]; simp only [Nat.min_def]; split <;> omega) (fun j v hj => ?_) (by simp only [List.size_toArray, hc1, Array.length_toList, hRs, hdl]; omega) (fun v hv => h1 v (List.mem_of_mem_drop hv))
    rw [Addr.add_lit, Lib.cell_of_heap hgW]
    have := hxcell _ v (by rwa [List.getElem?_drop] at hj)
    rw [Lib.cell_of_heap hg] at this
    exact this
  have HFIN : Hid (∀ (W : World), (∀ j : Nat, W.heap[j]? = (W1.setRow w.heap.size C1.toArray).heap[j]?) → W.os = w.os → W.tape = w.tape → W.output = w.output →
      (W.setRow w.heap.size (C1.take ((i + 1) * 3) ++ xs.drop (i * 3) ++ C1.drop ((i + 1) * 3 + (xs.drop (i * 3)).length)).toArray).ownsRow 0 25 3 (.slice (some ⟨w.heap.size, 0, none⟩) (n + 1) G) (n + 1) (xs.take (i * 3) ++ noneCells ++ xs.drop (i * 3)) ∧
      w.grownBy (W.setRow w.heap.size (C1.take ((i + 1) * 3) ++ xs.drop (i * 3) ++ C1.drop ((i + 1) * 3 + (xs.drop (i * 3)).length)).toArray) (some g)) := by
    intro W hW a1 a2 a3
    have hnW : W.heap[w.heap.size]? = some (.cells C1.toArray 25 (0, 0)) := by rw [hW]; exact setRow_heap W1 _ _ _ 25 _ hn1
    refine ⟨⟨by simp only [List.length_append, List.length_take, List.length_drop, hxl]; show _ + 3 + _ = _; omega, .inr ⟨w.heap.size, G, _, rfl, Nat.zero_le _, setRow_heap W _ _ _ 25 _ hnW, hGn, hG63, by simp only [List.size_toArray, hc2, Array.length_toList, hRs], hc3⟩⟩, a1, a2, a3, ?_, fun j hj _ => ?_⟩
    · have := (Array.getElem?_eq_some_iff.1 hnW).1
      simp [World.setRow]; omega
    · rw [setRow_other W _ j _ (by omega), hW j, setRow_other W1 _ j _ (by omega), ho1 j hj]
  have HW1 : Hid (W1.os = w.os ∧ W1.tape = w.tape ∧ W1.output = w.output) := by rw [hW1]; exact ⟨rfl, rfl, rfl⟩
  have hw1 : IntKind.i64.wrap ((i : Int) + 1) = (i : Int) + 1 := IntWalk.i64_in _ (by omega)
  have hw2 : IntKind.i64.wrap ((n : Int) + 1) = (n : Int) + 1 := IntWalk.i64_in _ (by omega)
  have hw3 : IntKind.i64.wrap ((n : Int) + 1 - (i : Int)) = (n : Int) + 1 - (i : Int) := IntWalk.i64_in _ (by omega)
  have hz2 : ¬ ((i : Int) = (n : Int)) := by omega
  have hz3 : (cap : Int) < (n : Int) + 1 := by omega
  have hG9 : G ≤ 9223372036854775807 := by unfold maxLen at hG63; omega
  have hin : i ≤ n := by omega
  have hGi : ¬ (G = i) := by omega
  have hGim : ¬ (G = i + 1) := by omega
  have hci : ¬ (cap = i) := by omega
  have hb1 : (0 : Int) ≤ (i : Int) + 1 := by omega
  have hb3 : (i : Int) ≤ (n : Int) := by omega
  have mixed : Tryz.prog.follows .mixedOrders = true := by kernel_rfl
  rw [← hW1] at hrz
  obtain ⟨D1, hD1⟩ : ∃ D1, D1 = (C1.take ((i + 1) * 3) ++ xs.drop (i * 3) ++ C1.drop ((i + 1) * 3 + (xs.drop (i * 3)).length)).toArray := ⟨_, rfl⟩
  rw [← hD1] at hcpB HFIN
  obtain ⟨D0, hD0⟩ : ∃ D0, D0 = C1.toArray := ⟨_, rfl⟩
  rw [← hD0] at hcpA hcpB HFIN
  clear hD1 hD0
  clear hc1 hc2 hc3 hC1 hxcell hg htake hxl hdl hcs hq hW1 hROW hRs hRt hG hold hkk hik hn1 ho1
  go_enter Tryz.func227, Tryz.ntmps227
  go_wp2_with (first
    | (at_builtin; refine Lib.wpList_append_run _ rfl _ _ _ _ rfl _ _ rfl rfl _ _ (hrz _) ?_)
    | (at_builtin; refine wpList_copy_runI _ rfl _ _ 23 23 rfl _ _ rfl rfl (hcpA _ (fun _ => rfl) _ _) ?_))
  have hB2 := hcpB (W1.setRow w.heap.size D0).drew (fun _ => rfl)
  go_region_law_o (refine step_copy_runI rfl _ _ 23 23 rfl (.slice (some ⟨w.heap.size, (i + 1) * 3, none⟩) (n - i) (G - (i + 1))) (.slice (some ⟨g, i * 3, none⟩) (n - i) (cap - i)) (by simp [Act.eval, Act.put]) (by simp [Act.eval, Act.put]) (hB2 _ _ _) ?_)
  go_wp2_with fail
  first | go_ret | go_ret2
  obtain ⟨f1, f2⟩ := HFIN.out (W1.setRow w.heap.size D0).drew (fun _ => rfl) HW1.out.1 HW1.out.2.1 HW1.out.2.2
  exact ⟨w.heap.size, G, rfl, f1, f2, Or.inr (Nat.le_refl _)⟩

theorem ins_any (g n cap i q : Nat) (xs : List Value) (w : World) (hi : i < n) (hown : w.ownsRow 0 25 3 (.slice (some ⟨g, 0, none⟩) n cap) n xs) (h1 : ∀ u, u ∈ xs → u.oneCell' = true) (hq : w.heap[q]? = some (.cells #[.int .i64 0, .string ⟨#[]⟩, .slice none 0 0] 25 (0, 0))) (hqg : q ≠ g)
    (hn : n ≤ 1000000) :
    Calls Tryz.prog 227 #[.slice (some ⟨g, 0, none⟩) n cap, .int .i64 i, .slice (some ⟨q, 0, none⟩) 1 1] w fun e w' => ∃ g' cap', e = .returned (.slice (some ⟨g', 0, none⟩) (n + 1) cap') ∧
      w'.ownsRow 0 25 3 (.slice (some ⟨g', 0, none⟩) (n + 1) cap') (n + 1) (xs.take (i * 3) ++ noneCells ++ xs.drop (i * 3)) ∧ w.grownBy w' (some g) ∧ (g' = g ∨ w.heap.size ≤ g') := by
  by_cases h : n + 1 ≤ cap
  · exact ins_shift g n cap i q xs w hi hown h1 hq hqg hn h
  · exact ins_grow g n cap i q xs w hi hown h1 hq hn (by omega)

end Go.Proofs.YtcpojagfnpajeaaGreatDoorR.Ps

namespace Go.Proofs.YtcpojagfnpajeaaGreatDoorR.Ps
open Go.RowKit Go.Shelf Go.Lib

theorem tcells_take (l : List (Tree × Option Addr × Nat)) (i : Nat) (hi : i ≤ l.length) : tcells (l.take i) = (tcells l).take (i * 3) ∧ tcells (l.drop i) = (tcells l).drop (i * 3) := by
  have h := tcells_append (l.take i) (l.drop i)
  rw [List.take_append_drop] at h
  have hl : (tcells (l.take i)).length = i * 3 := by rw [tcells_length, List.length_take, Nat.min_eq_left hi]
  have h1 : (tcells (l.take i) ++ tcells (l.drop i)).take (i * 3) = tcells (l.take i) := by rw [← hl]; simp
  have h2 : (tcells (l.take i) ++ tcells (l.drop i)).drop (i * 3) = tcells (l.drop i) := by rw [← hl]; simp
  exact ⟨by rw [h]; exact h1.symm, by rw [h]; exact h2.symm⟩

theorem tcells_ones (l : List (Tree × Option Addr × Nat)) : ∀ u, u ∈ tcells l → u.oneCell' = true := by
  intro u hu
  obtain ⟨x, _, hx⟩ := List.mem_flatMap.1 hu
  simp at hx
  rcases hx with rfl | rfl | rfl <;> rfl

/-- A mark of nothing stands ahead of the children from i on: behind the store. -/
theorem PSG.inserted {E : Env} {A : Ho} {s : S} {w w0 : World} {k : Nat} {aa : Option Addr} {ac g0 c0 : Nat} {l : List (Tree × Option Addr × Nat)} {m : Nat} (h : PSG E A s w k aa ac (.slice (some ⟨g0, 0, none⟩) l.length c0) l m) (hf : Fr A.h w0 w) {i : Nat} (hi : i < l.length)
    {o : Obj} {w' : World} {g cap : Nat} (hg : (w.alloc o).grownBy w' (some g0)) (hown : w'.ownsRow 0 25 3 (.slice (some ⟨g, 0, none⟩) (l.length + 1) cap) (l.length + 1) ((tcells l).take (i * 3) ++ noneCells ++ (tcells l).drop (i * 3))) (hloc : g = g0 ∨ w.heap.size ≤ g) :
    At E A w0 { s with ch := s.ch.take i ++ leaf 0 :: s.ch.drop i } (w'.setCell ⟨E.b, 3, none⟩ (.slice (some ⟨g, 0, none⟩) (l.length + 1) cap)) := by
  have hob : (Value.slice (some ⟨g, 0, none⟩) (l.length + 1) cap).ownBlock = some g := rfl
  have hgw : w.grownBy w' (some g0) := ⟨hg.os, hg.tape, hg.output, by have := hg.size; simp at this; omega, fun j hj hne => (hg.block j (by simp; omega) hne).trans (Below.heap_alloc _ _ _ hj)⟩
  have h0 : (Value.slice (some ⟨g0, 0, none⟩) l.length c0).ownBlock = some g0 := rfl
  have hgb : g ≠ E.b := by
    rcases hloc with e | e
    · rw [e]; exact (h.row g0 rfl).2
    · have := h.lb; omega
  have hbn : some E.b ≠ some g0 := fun e => (h.row g0 rfl).2 (Option.some.inj e).symm
  have hAg : ∀ j, A.h j → j < w.heap.size ∧ some j ≠ some g0 := fun j hj => ⟨h.lt j hj, fun e => (h.row g0 rfl).1 (Option.some.inj e ▸ hj)⟩
  have hAb : ∀ j, A.h j → j ≠ E.b := fun j hj e => h.nb (e ▸ hj)
  have hsz := hgw.size
  have set1 : ∀ (u : Value) (B : Nat → Prop), (∀ j, B j → j ≠ E.b) → Kept B w' (w'.setCell ⟨E.b, 3, none⟩ u) := fun u B hB b o hb => World.cell?_of_block (heap_setCell_other w' _ b u (fun e => hB b hb e))
  have htc := tcells_take l i (Nat.le_of_lt hi)
  have hcells : tcells (l.take i ++ (leaf 0, none, 0) :: l.drop i) = (tcells l).take (i * 3) ++ noneCells ++ (tcells l).drop (i * 3) := by
    rw [tcells_append, htc.1, List.append_assoc]
    congr 1
    have := tcells_append [(leaf 0, none, 0)] (l.drop i)
    rw [htc.2] at this
    exact this
  have hown' : OwnsT w' 0 (.slice (some ⟨g, 0, none⟩) (l.length + 1) cap) (l.take i ++ (leaf 0, none, 0) :: l.drop i) := by
    show World.ownsRow _ _ _ _ _ _ _
    rw [hcells, show (l.take i ++ (leaf 0, none, 0) :: l.drop i).length = l.length + 1 from by simp; omega]
    exact hown
  refine ⟨⟨k, aa, ac, _, l.take i ++ (leaf 0, none, 0) :: l.drop i, m, ⟨set4_3 ((hgw.block E.b h.lb hbn).trans h.hb), h.hk, h.rest, h.cap, h.acm, ?_, owns_set hown' _ _ (by rw [hob]; intro e; exact hgb (Option.some.inj e)), ?_, ?_, ?_, ?_, h.base, fun j hj => ?_, h.nb, h.rh, h.tl, h.tcm, h.tcl, h.toks⟩⟩, ?_⟩
  · exact (h.ints.kept (kept_grown hgw fun j hj => hAg j (h.base j hj))).kept (set1 _ _ fun _ hj => hj.2)
  · rw [List.map_append, List.map_cons, List.map_take, List.map_drop, h.ch]
  · have s1 : Sub w' (fun j => Pe E w' j ∧ j ≠ E.b ∧ some g ≠ some j ∧ ¬ A.r j) m l := by
      refine (h.sub.kept (kept_grown hgw fun j hj => ⟨hj.1.lt, fun e => hj.2.2.1 (by rw [h0]; exact e.symm)⟩)).up (fun j hj => ⟨hj.1.grown hgw fun e => hj.2.2.1 (by rw [h0]; exact e.symm), hj.2.1, fun e => ?_, hj.2.2.2⟩) (Nat.le_refl _)
      rcases hloc with q | q
      · exact hj.2.2.1 (by rw [h0, ← q]; exact e)
      · have := hj.1.lt; have := Option.some.inj e; omega
    have s2 : Sub w' (fun j => Pe E w' j ∧ j ≠ E.b ∧ some g ≠ some j ∧ ¬ A.r j) m (l.take i ++ (leaf 0, none, 0) :: l.drop i) := by
      intro x hx
      rcases List.mem_append.1 hx with hx | hx
      · exact s1 x (List.mem_of_mem_take hx)
      · rcases List.mem_cons.1 hx with rfl | hx
        · exact ⟨leaf_ok _ (by unfold I64; omega), Kids.nil _ _ _ _⟩
        · exact s1 x (List.mem_of_mem_drop hx)
    exact (s2.kept (set1 _ _ fun _ hj => hj.2.1)).up (fun j hj => ⟨hj.1.set _ _, hj.2⟩) (Nat.le_refl _)
  · intro g' e
    have e2 := Option.some.inj e
    rw [← show g = g' from e2]
    refine ⟨fun hA => ?_, hgb⟩
    rcases hloc with q | q
    · exact (h.row g0 rfl).1 (q ▸ hA)
    · have := h.lt g hA; omega
  · exact (h.tks.kept (kept_grown hgw fun j hj => hAg j (h.base j hj))).kept (set1 _ _ fun _ hj => hj.2)
  · have := h.lt j hj; simp; omega
  · refine hf.trans ⟨hgw.os, hgw.tape, hgw.output, by simp; omega, fun j hj => ?_⟩
    rw [heap_setCell_other w' _ j _ (fun e => hAb j hj e), hgw.block j (hAg j hj).1 (hAg j hj).2]

theorem insNone_some {i : Nat} {s s' : S} (h : insNone i s = some s') : i < s.ch.length ∧ s.ch.length < 1000000 ∧ s' = { s with ch := s.ch.take i ++ leaf 0 :: s.ch.drop i } := by
  unfold insNone at h
  split at h
  · rename_i q; exact ⟨q.1, q.2, (Option.some.inj h).symm⟩
  · cases h

set_option maxRecDepth 100000 in
set_option maxHeartbeats 4000000 in
theorem step59 (E : Env) (n : Nat) (H : ∀ m, m ≤ n → Specs E m) : Does E 160 #[P E] (run (n + 1) .implI) := by
  intro A w0 w s s' h hr
  have hr : ((run n .tparams s).bind fun m => seq [run n .typ, onAcc [102, 111, 114] (run n .typ) (insNone m.ch.length), run n .members] m) = some s' := hr
  obtain ⟨m1, p1, q1⟩ : ∃ m, run n .tparams s = some m ∧ seq [run n .typ, onAcc [102, 111, 114] (run n .typ) (insNone m.ch.length), run n .members] m = some s' := by
    cases hm : run n .tparams s with
    | none => simp [hm] at hr
    | some m => exact ⟨m, rfl, by simpa [hm] using hr⟩
  obtain ⟨m2, p2, q2⟩ := seq_some q1
  obtain ⟨m3, p3, q3⟩ := seq_some q2
  obtain ⟨m4, p4, q4⟩ := seq_some q3
  rw [← seq_nil q4] at p4
  clear hr
  go_enter Tryz.func160, Tryz.ntmps160
  go_wp2_with fail
  refine ((H n (Nat.le_refl n)).v .tparams 220 rfl A w0 _ s m1 h p1).mono ?_
  rintro e v1 ⟨rfl, h1⟩
  obtain ⟨i, hi⟩ : ∃ i, i = m1.ch.length := ⟨_, rfl⟩
  have hlen : ∃ va vc, v1.cell? ⟨E.b, 3, none⟩ = some (.slice va i vc) ∧ E.b < v1.heap.size := by
    obtain ⟨⟨k, aa, ac, v, l, m, hp⟩, hf⟩ := h1
    obtain ⟨va, vc, rfl⟩ := OwnsT.form hp.own
    have := (four_cells hp.hb).2.2.2.1
    rw [hp.len, ← hi] at this
    exact ⟨va, vc, this, hp.lb⟩
  obtain ⟨va, vc, c3, hlb⟩ := hlen
  rw [← hi] at p3
  clear hi
  go_wp2_with fail
  refine ((H n (Nat.le_refl n)).v .typ 226 rfl A w0 _ m1 m2 h1 p2).mono ?_
  rintro e v2 ⟨rfl, h2⟩
  clear c3 hlb
  cases c : atB [102, 111, 114] m2 with
  | true =>
    obtain ⟨t, pt, qt⟩ := onAcc_true c p3
    go_wp2_with fail
    refine (accept_any E _ [102, 111, 114] rfl A w0 _ m2 t true c h2 pt).mono ?_
    rintro e v3 ⟨rfl, h3⟩
    go_wp2_with fail
    refine ((H n (Nat.le_refl n)).v .typ 226 rfl A w0 _ t m3 h3 qt).mono ?_
    rintro e v4 ⟨rfl, h4⟩
    go_wp2_with fail
    refine ((H n (Nat.le_refl n)).v .members 225 rfl A w0 _ m3 s' h4 p4).mono ?_
    rintro e v5 ⟨rfl, h5⟩
    go_wp2_with fail
    first | go_end0 | refine bodyPost_ret (results_none rfl _ _ _) rfl ?_
    exact ⟨rfl, h5⟩
  | false =>
    obtain ⟨hi, hlim, rfl⟩ := insNone_some (onAcc_false c p3)
    go_wp2_with fail
    refine (accept_any E _ [102, 111, 114] rfl A w0 _ m2 m2 false c h2 rfl).mono ?_
    rintro e v3 ⟨rfl, h3⟩
    obtain ⟨⟨k, aa, ac, v, l, m, hp⟩, hf⟩ := h3
    have hll := hp.len
    obtain ⟨g0, c0, rfl, _, hg0⟩ := World.ownsRow.form hp.own (by omega)
    have HP := Lib.hid hp
    have HF := Lib.hid hf
    obtain ⟨_, _, _, f3, _, _, z3⟩ := four_cells hp.hb
    have hlb := hp.lb
    have hg0b := (hp.row g0 rfl).2
    have hil : i < l.length := by omega
    have KI := Lib.hid (ins_any g0 l.length c0 i v3.heap.size (tcells l) (v3.alloc (.cells #[.int .i64 0, .string ⟨#[]⟩, .slice none 0 0] 25)) hil (World.ownsRow.alloc hp.own _) (tcells_ones l) (heap_alloc_new v3 _) (by omega) (by omega))
    clear hp hf hll
    go_wp2_with fail


    refine KI.out.mono ?_
    rintro e w' ⟨g, cap, rfl, ho, hgr, hloc⟩
    have hb3 : E.b < (v3.alloc (.cells #[.int .i64 0, .string ⟨#[]⟩, .slice none 0 0] 25)).heap.size := by simp; omega
    have hne : some E.b ≠ some g0 := fun e => hg0b (Option.some.inj e).symm
    have hba : (v3.alloc (.cells #[.int .i64 0, .string ⟨#[]⟩, .slice none 0 0] 25)).heap[E.b]? = v3.heap[E.b]? := Below.heap_alloc _ _ _ hlb
    have g3 := (hgr.cell_far ⟨E.b, 3, none⟩ hb3 hne).trans ((World.cell?_of_block hba).trans f3)
    have g4 := (hgr.frozen_far ⟨E.b, 3, none⟩ hb3 hne).trans ((World.frozen?_of_block hba).trans z3)
    have hfin := HP.out.inserted HF.out hil hgr ho (hloc.imp id (fun q => by simp at q; omega))
    have HFIN := Lib.hid hfin
    clear KI ho hgr hloc f3 z3 hfin hba
    go_wp2_with fail
    refine ((H n (Nat.le_refl n)).v .members 225 rfl A w0 _ _ s' HFIN.out p4).mono ?_
    rintro e v5 ⟨rfl, h5⟩
    go_wp2_with fail
    first | go_end0 | refine bodyPost_ret (results_none rfl _ _ _) rfl ?_
    exact ⟨rfl, h5⟩
end Go.Proofs.YtcpojagfnpajeaaGreatDoorR.Ps
