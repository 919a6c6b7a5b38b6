/-
  The tests of TexteditTransformDisjoint: both lists hold an edit.
-/
import Derived.Test.YtbkiliiopondaaaBoth
import Derived.Deep.DeepCutAuto
namespace Go.Proofs.Ytbkiliiopondaaa.lawDis
open Go.RowKit

section
variable (s : ByteArray) (b1 o1 c1 m : Nat) (l1 : List Ed) (b2 o2 c2 m2 : Nat) (l2 : List Ed) (ze xs : Int) (w : World)

set_option maxHeartbeats 4000000 in
set_option maxRecDepth 100000 in
theorem walk5 (hm : m ≤ 50) (hge : xs ≤ ze)
    (K1 : Hid (∀ W, Eds W W.heap.size (some ⟨b1, o1, none⟩) l1 → Calls Try.prog 18 #[.string s, .slice (some ⟨b1, o1, none⟩) (m + 1) c1] W fun e w' => e = .returned (.int .i64 0) ∧ Below W.heap.size W w'))
    (K2 : Hid (∀ W, Eds W W.heap.size (some ⟨b2, o2, none⟩) l2 → Calls Try.prog 18 #[.string s, .slice (some ⟨b2, o2, none⟩) (m2 + 1) c2] W fun e w' => e = .returned (.int .i64 0) ∧ Below W.heap.size W w'))
    (CZ : Hid (∀ W, Eds W W.heap.size (some ⟨b1, o1, none⟩) l1 → W.cell? ⟨b1, o1 + m * 3 + 1, none⟩ = some (.int .i64 ze))) (CX : Hid (∀ W, Eds W W.heap.size (some ⟨b2, o2, none⟩) l2 → W.cell? ⟨b2, o2, none⟩ = some (.int .i64 xs)))
    (E0 : Hid (Eds w w.heap.size (some ⟨b1, o1, none⟩) l1)) (F0 : Hid (Eds w w.heap.size (some ⟨b2, o2, none⟩) l2)) :
    Calls Try.prog 7 #[.string s, .slice (some ⟨b1, o1, none⟩) (m + 1) c1, .slice (some ⟨b2, o2, none⟩) (m2 + 1) c2] w fun e w' => e = .returned (.bool true) ∧ Below w.heap.size w w' := by
  have hwm : IntKind.i64.wrap (m : Int) = m := IntWalk.i64_in _ (by omega)
  have hm0 : (0 : Int) ≤ (m : Int) := by omega
  have hm1 : (m : Int) < (m : Int) + 1 := by omega
  have hm2 : (0 : Int) < (m2 : Int) + 1 := by omega
  go_enter Try.func7, Try.ntmps7
  go_wp2_with fail
  refine (examples_keep w).mono ?_
  rintro e w1 ⟨rfl, hb⟩
  have B1 := hb.drew
  have E1 : Hid (Eds w1 w1.heap.size (some ⟨b1, o1, none⟩) l1) := E0.out.to hb
  have E2 : Hid (Eds w1.drew w1.drew.heap.size (some ⟨b1, o1, none⟩) l1) := E1
  have F1 : Hid (Eds w1 w1.heap.size (some ⟨b2, o2, none⟩) l2) := F0.out.to hb
  have F2 : Hid (Eds w1.drew w1.drew.heap.size (some ⟨b2, o2, none⟩) l2) := F1
  clear F0 F1 E0 E1 hb
  go_upto_region 3 with (fail)
  go_cut [52] (fun t W => t = .bool true ∧ Below w.heap.size w W)
  case first =>
    refine wp_region_any (by kernel_rfl) ?_
    try (change wpAny _ _ _ _ _ _ _ (World.drew _))
    refine wpAny_take (i := 0) (v := ?v0) rfl (by kernel_rfl) (by kernel_rfl) (by kernel_rfl) (fun _ _ _ h => h) (Or.inl ⟨by kernel_rfl, ?h0⟩) ?_
    case h0 => (intro w; go_simp; try with_reducible rfl)
    refine wpAny_take (i := 1) (v := ?v1) rfl (by kernel_rfl) (by kernel_rfl) (by kernel_rfl) (fun _ _ _ h => h) (Or.inl ⟨by kernel_rfl, ?h1⟩) ?_
    case h1 => (intro w; go_simp; try with_reducible rfl)
    refine wpAny_ready (rs := [2]) (by kernel_rfl) (by simp) ?_
    refine AllReady.cons rfl (fun K hK => ?_) AllReady.nil
    go_simp
    refine (K1.out _ E2.out).mono ?_
    rintro e w2 ⟨rfl, hb2⟩
    go_simp
    refine hK _ _ ?_
    clear hK K
    refine wpAny_take (i := 3) (v := ?v3) rfl (by kernel_rfl) (by kernel_rfl) (by kernel_rfl) (fun _ _ _ h => h) (Or.inl ⟨by kernel_rfl, ?h3⟩) ?_
    case h3 => (intro w; go_simp; try with_reducible rfl)
    refine wpAny_take (i := 4) (v := ?v4) rfl (by kernel_rfl) (by kernel_rfl) (by kernel_rfl) (fun _ _ _ h => h) (Or.inl ⟨by kernel_rfl, ?h4⟩) ?_
    case h4 => (intro w; go_simp; try with_reducible rfl)
    refine wpAny_take (i := 5) (v := ?v5) rfl (by kernel_rfl) (by kernel_rfl) (by kernel_rfl) (fun _ _ _ h => h) (Or.inl ⟨by kernel_rfl, ?h5⟩) ?_
    case h5 => (intro w; go_simp; try with_reducible rfl)
    refine wpAny_take (i := 6) (v := ?v6) rfl (by kernel_rfl) (by kernel_rfl) (by kernel_rfl) (fun _ _ _ h => h) (Or.inl ⟨by kernel_rfl, ?h6⟩) ?_
    case h6 => (intro w; go_simp; try with_reducible rfl)
    refine wpAny_ready (rs := [7]) (by kernel_rfl) (by simp) ?_
    refine AllReady.cons rfl (fun K hK => ?_) AllReady.nil
    go_simp
    have F3 : Hid (Eds w2 w2.heap.size (some ⟨b2, o2, none⟩) l2) := F2.out.to hb2
    refine (K2.out _ F3.out).mono ?_
    rintro e w3 ⟨rfl, hb3⟩
    have g1 := CZ.out w3 ((E2.out.to hb2).to hb3)
    have g2 := CX.out w3 (F3.out.to hb3)
    go_simp
    refine hK _ _ ?_
    clear hK K
    refine wpAny_take (i := 8) (v := ?v8) rfl (by kernel_rfl) (by kernel_rfl) (by kernel_rfl) (fun _ _ _ h => h) (Or.inl ⟨by kernel_rfl, ?h8⟩) ?_
    case h8 => (intro w; go_simp; try with_reducible rfl)
    refine wpAny_take (i := 9) (v := ?v9) rfl (by kernel_rfl) (by kernel_rfl) (by kernel_rfl) (fun _ _ _ h => h) (Or.inl ⟨by kernel_rfl, ?h9⟩) ?_
    case h9 => (intro w; go_simp; try with_reducible rfl)
    refine wpAny_take (i := 10) (v := ?v10) rfl (by kernel_rfl) (by kernel_rfl) (by kernel_rfl) (fun _ _ _ h => h) (Or.inl ⟨by kernel_rfl, ?h10⟩) ?_
    case h10 => (intro w; go_simp; try with_reducible rfl)
    refine wpAny_take (i := 11) (v := ?v11) rfl (by kernel_rfl) (by kernel_rfl) (by kernel_rfl) (fun _ _ _ h => h) (Or.inl ⟨by kernel_rfl, ?h11⟩) ?_
    case h11 => (intro w; go_simp; try with_reducible rfl)
    refine wpAny_take (i := 12) (v := ?v12) rfl (by kernel_rfl) (by kernel_rfl) (by kernel_rfl) (fun _ _ _ h => h) (Or.inl ⟨by kernel_rfl, ?h12⟩) ?_
    case h12 => (intro w; go_simp; try with_reducible rfl)
    refine wpAny_take (i := 13) (v := ?v13) rfl (by kernel_rfl) (by kernel_rfl) (by kernel_rfl) (fun _ _ _ h => h) (Or.inl ⟨by kernel_rfl, ?h13⟩) ?_
    case h13 => (intro w; go_simp; try with_reducible rfl)
    refine wpAny_take (i := 14) (v := ?v14) rfl (by kernel_rfl) (by kernel_rfl) (by kernel_rfl) (fun _ _ _ h => h) (Or.inl ⟨by kernel_rfl, ?h14⟩) ?_
    case h14 => (intro w; go_simp; try with_reducible rfl)
    refine wpAny_take (i := 15) (v := ?v15) rfl (by kernel_rfl) (by kernel_rfl) (by kernel_rfl) (fun _ _ _ h => h) (Or.inl ⟨by kernel_rfl, ?h15⟩) ?_
    case h15 => (intro w; go_simp; try with_reducible rfl)
    refine wpAny_take (i := 16) (v := ?v16) rfl (by kernel_rfl) (by kernel_rfl) (by kernel_rfl) (fun _ _ _ h => h) (Or.inl ⟨by kernel_rfl, ?h16⟩) ?_
    case h16 => (intro w; go_simp; try with_reducible rfl)
    refine wpAny_take (i := 17) (v := ?v17) rfl (by kernel_rfl) (by kernel_rfl) (by kernel_rfl) (fun _ _ _ h => h) (Or.inl ⟨by kernel_rfl, ?h17⟩) ?_
    case h17 => (intro w; go_simp; try with_reducible rfl)
    refine wpAny_take (i := 18) (v := ?v18) rfl (by kernel_rfl) (by kernel_rfl) (by kernel_rfl) (fun _ _ _ h => h) (Or.inl ⟨by kernel_rfl, ?h18⟩) ?_
    case h18 => (intro w; go_simp; try with_reducible rfl)
    refine wpAny_take (i := 19) (v := ?v19) rfl (by kernel_rfl) (by kernel_rfl) (by kernel_rfl) (fun _ _ _ h => h) (Or.inl ⟨by kernel_rfl, ?h19⟩) ?_
    case h19 => (intro w; go_simp; try with_reducible rfl)
    refine wpAny_take (i := 20) (v := ?v20) rfl (by kernel_rfl) (by kernel_rfl) (by kernel_rfl) (fun _ _ _ h => h) (Or.inl ⟨by kernel_rfl, ?h20⟩) ?_
    case h20 => (intro w; go_simp; try with_reducible rfl)
    refine wpAny_take (i := 21) (v := ?v21) rfl (by kernel_rfl) (by kernel_rfl) (by kernel_rfl) (fun _ _ _ h => h) (Or.inl ⟨by kernel_rfl, ?h21⟩) ?_
    case h21 => (intro w; go_simp; try with_reducible rfl)
    refine wpAny_take (i := 22) (v := ?v22) rfl (by kernel_rfl) (by kernel_rfl) (by kernel_rfl) (fun _ _ _ h => h) (Or.inl ⟨by kernel_rfl, ?h22⟩) ?_
    case h22 => (intro w; go_simp; try with_reducible rfl)
    refine wpAny_take (i := 23) (v := ?v23) rfl (by kernel_rfl) (by kernel_rfl) (by kernel_rfl) (fun _ _ _ h => h) (Or.inl ⟨by kernel_rfl, ?h23⟩) ?_
    case h23 => (intro w; go_simp; try with_reducible rfl)
    refine wpAny_take (i := 24) (v := ?v24) rfl (by kernel_rfl) (by kernel_rfl) (by kernel_rfl) (fun _ _ _ h => h) (Or.inl ⟨by kernel_rfl, ?h24⟩) ?_
    case h24 => (intro w; go_simp; try with_reducible rfl)
    refine wpAny_take (i := 25) (v := ?v25) rfl (by kernel_rfl) (by kernel_rfl) (by kernel_rfl) (fun _ _ _ h => h) (Or.inl ⟨by kernel_rfl, ?h25⟩) ?_
    case h25 => (intro w; go_simp; try with_reducible rfl)
    refine wpAny_take (i := 26) (v := ?v26) rfl (by kernel_rfl) (by kernel_rfl) (by kernel_rfl) (fun _ _ _ h => h) (Or.inl ⟨by kernel_rfl, ?h26⟩) ?_
    case h26 => (intro w; go_simp; try with_reducible rfl)
    refine wpAny_take (i := 28) (v := ?v28) rfl (by kernel_rfl) (by kernel_rfl) (by kernel_rfl) (fun _ _ _ h => h) (Or.inl ⟨by kernel_rfl, ?h28⟩) ?_
    case h28 => (intro w; go_simp; try with_reducible rfl)
    refine wpAny_take (i := 29) (v := ?v29) rfl (by kernel_rfl) (by kernel_rfl) (by kernel_rfl) (fun _ _ _ h => h) (Or.inl ⟨by kernel_rfl, ?h29⟩) ?_
    case h29 => (intro w; go_simp; try with_reducible rfl)
    refine wpAny_take (i := 30) (v := ?v30) rfl (by kernel_rfl) (by kernel_rfl) (by kernel_rfl) (fun _ _ _ h => h) (Or.inl ⟨by kernel_rfl, ?h30⟩) ?_
    case h30 => (intro w; go_simp; try with_reducible rfl)
    refine wpAny_ready (rs := [27, 31]) (by kernel_rfl) (by simp) ?_
    refine AllReady.cons rfl (fun K hK => ?_) (AllReady.cons rfl (fun K hK => ?_) AllReady.nil)
    · go_simp
      refine hK _ _ ?_
      clear hK K
      refine wpAny_ready (rs := [31]) (by kernel_rfl) (by simp) ?_
      refine AllReady.cons rfl (fun K hK => ?_) AllReady.nil
      go_simp
      refine hK _ _ ?_
      clear hK K
      refine wpAny_take (i := 32) (v := ?v32) rfl (by kernel_rfl) (by kernel_rfl) (by kernel_rfl) (fun _ _ _ h => h) (Or.inl ⟨by kernel_rfl, ?h32⟩) ?_
      case h32 => (intro w; go_simp; try with_reducible rfl)
      refine wpAny_take (i := 33) (v := ?v33) rfl (by kernel_rfl) (by kernel_rfl) (by kernel_rfl) (fun _ _ _ h => h) (Or.inl ⟨by kernel_rfl, ?h33⟩) ?_
      case h33 => (intro w; go_simp; try with_reducible rfl)
      refine wpAny_done (by kernel_rfl) ?_ _
      go_simp
      go_wp2
      go_meet
      case rel => exact ⟨rfl, (B1.trans (hb2.mono B1.size)).trans (hb3.mono (B1.trans (hb2.mono B1.size)).size)⟩
    · go_simp
      refine hK _ _ ?_
      clear hK K
      refine wpAny_ready (rs := [27]) (by kernel_rfl) (by simp) ?_
      refine AllReady.cons rfl (fun K hK => ?_) AllReady.nil
      go_simp
      refine hK _ _ ?_
      clear hK K
      refine wpAny_take (i := 32) (v := ?v32) rfl (by kernel_rfl) (by kernel_rfl) (by kernel_rfl) (fun _ _ _ h => h) (Or.inl ⟨by kernel_rfl, ?h32⟩) ?_
      case h32 => (intro w; go_simp; try with_reducible rfl)
      refine wpAny_take (i := 33) (v := ?v33) rfl (by kernel_rfl) (by kernel_rfl) (by kernel_rfl) (fun _ _ _ h => h) (Or.inl ⟨by kernel_rfl, ?h33⟩) ?_
      case h33 => (intro w; go_simp; try with_reducible rfl)
      refine wpAny_done (by kernel_rfl) ?_ _
      go_simp
      go_wp2
      go_meet
      case rel => exact ⟨rfl, (B1.trans (hb2.mono B1.size)).trans (hb3.mono (B1.trans (hb2.mono B1.size)).size)⟩
  case rest =>
    obtain ⟨rfl, B2⟩ := hcut
    go_wp2_with fail
    refine (examples_keep _).mono ?_
    rintro e w3 ⟨rfl, hb⟩
    have B3 := B2.trans (hb.mono B2.size)
    go_wp2_with fail
    go_ret
    exact ⟨rfl, B3⟩

set_option maxHeartbeats 4000000 in
set_option maxRecDepth 100000 in
theorem walk6 (hm : m ≤ 50) (hlt : ze < xs) (hL1 : l1.length = m + 1) (hL2 : l2.length = m2 + 1) (hmm : m2 ≤ 50) (A : List Ed) (hA : Hid (A = l1 ++ l2)) (ok1 : Hid (∀ x, x ∈ A → x.ok)) (ea et : Int) (ra rl : ByteArray) (Y : List Ed)
    (K1 : Hid (∀ W, Eds W W.heap.size (some ⟨b1, o1, none⟩) l1 → Calls Try.prog 18 #[.string s, .slice (some ⟨b1, o1, none⟩) (m + 1) c1] W fun e w' => e = .returned (.int .i64 0) ∧ Below W.heap.size W w'))
    (K2 : Hid (∀ W, Eds W W.heap.size (some ⟨b2, o2, none⟩) l2 → Calls Try.prog 18 #[.string s, .slice (some ⟨b2, o2, none⟩) (m2 + 1) c2] W fun e w' => e = .returned (.int .i64 0) ∧ Below W.heap.size W w'))
    (CZ : Hid (∀ W, Eds W W.heap.size (some ⟨b1, o1, none⟩) l1 → W.cell? ⟨b1, o1 + m * 3 + 1, none⟩ = some (.int .i64 ze))) (CX : Hid (∀ W, Eds W W.heap.size (some ⟨b2, o2, none⟩) l2 → W.cell? ⟨b2, o2, none⟩ = some (.int .i64 xs)))
    (E0 : Hid (Eds w w.heap.size (some ⟨b1, o1, none⟩) l1)) (F0 : Hid (Eds w w.heap.size (some ⟨b2, o2, none⟩) l2))
    (KA : Hid (∀ W b c, Eds W W.heap.size b A → Calls Try.prog 13 #[.string s, .slice b A.length c] W fun e w' => e = .returned (.tuple #[.string ra, .int .i64 ea]) ∧ Below W.heap.size W w'))
    (KT : Hid (∀ W, Eds W W.heap.size (some ⟨b1, o1, none⟩) l1 → Eds W W.heap.size (some ⟨b2, o2, none⟩) l2 → Calls Try.prog 17 #[.string s, .slice (some ⟨b1, o1, none⟩) (m + 1) c1, .slice (some ⟨b2, o2, none⟩) (m2 + 1) c2] W fun e w' => ∃ b n c b' c', e = .returned (.tuple #[.slice b n c, .slice b' Y.length c', .int .i64 et]) ∧ Hid (Eds w' w'.heap.size b' Y) ∧ Below W.heap.size W w'))
    (hcase : Hid ((ea != 0) = true ∨ (ea = 0 ∧ (et != 0) = true) ∨ (ea = 0 ∧ et = 0 ∧
      (∀ W, Eds W W.heap.size (some ⟨b1, o1, none⟩) l1 → Calls Try.prog 13 #[.string s, .slice (some ⟨b1, o1, none⟩) (m + 1) c1] W fun e w' => e = .returned (.tuple #[.string rl, .int .i64 0]) ∧ Below W.heap.size W w') ∧
      (∀ W b c, Eds W W.heap.size b Y → Calls Try.prog 13 #[.string rl, .slice b Y.length c] W fun e w' => e = .returned (.tuple #[.string ra, .int .i64 0]) ∧ Below W.heap.size W w')))) :
    Calls Try.prog 7 #[.string s, .slice (some ⟨b1, o1, none⟩) (m + 1) c1, .slice (some ⟨b2, o2, none⟩) (m2 + 1) c2] w fun e w' => e = .returned (.bool true) ∧ Below w.heap.size w w' := by
  obtain ⟨i0, hi, hz0, hz1, hz2⟩ := info_parts info_ed
  have HL1 := Lib.hid hL1
  have HL2 := Lib.hid hL2
  clear hL1 hL2
  have hwm : IntKind.i64.wrap (m : Int) = m := IntWalk.i64_in _ (by omega)
  have hm0 : (0 : Int) ≤ (m : Int) := by omega
  have hm1 : (m : Int) < (m : Int) + 1 := by omega
  have hm2 : (0 : Int) < (m2 : Int) + 1 := by omega
  have hdd : decide (xs ≤ ze) = false := by simp; omega
  go_enter Try.func7, Try.ntmps7
  go_wp2_with fail
  refine (examples_keep w).mono ?_
  rintro e w1 ⟨rfl, hb⟩
  have B1 := hb.drew
  have E1 : Hid (Eds w1 w1.heap.size (some ⟨b1, o1, none⟩) l1) := E0.out.to hb
  have E2 : Hid (Eds w1.drew w1.drew.heap.size (some ⟨b1, o1, none⟩) l1) := E1
  have F1 : Hid (Eds w1 w1.heap.size (some ⟨b2, o2, none⟩) l2) := F0.out.to hb
  have F2 : Hid (Eds w1.drew w1.drew.heap.size (some ⟨b2, o2, none⟩) l2) := F1
  clear F1 E1 hb
  go_upto_region 3 with (fail)
  go_cut [52] (fun t W => t = .bool false ∧ Below w.heap.size w W ∧ Hid (Eds W W.heap.size (some ⟨b1, o1, none⟩) l1) ∧ Hid (Eds W W.heap.size (some ⟨b2, o2, none⟩) l2))
  case first =>
    refine wp_region_any (by kernel_rfl) ?_
    try (change wpAny _ _ _ _ _ _ _ (World.drew _))
    refine wpAny_take (i := 0) (v := ?v0) rfl (by kernel_rfl) (by kernel_rfl) (by kernel_rfl) (fun _ _ _ h => h) (Or.inl ⟨by kernel_rfl, ?h0⟩) ?_
    case h0 => (intro w; go_simp; try with_reducible rfl)
    refine wpAny_take (i := 1) (v := ?v1) rfl (by kernel_rfl) (by kernel_rfl) (by kernel_rfl) (fun _ _ _ h => h) (Or.inl ⟨by kernel_rfl, ?h1⟩) ?_
    case h1 => (intro w; go_simp; try with_reducible rfl)
    refine wpAny_ready (rs := [2]) (by kernel_rfl) (by simp) ?_
    refine AllReady.cons rfl (fun K hK => ?_) AllReady.nil
    go_simp
    refine (K1.out _ E2.out).mono ?_
    rintro e w2 ⟨rfl, hb2⟩
    go_simp
    refine hK _ _ ?_
    clear hK K
    refine wpAny_take (i := 3) (v := ?v3) rfl (by kernel_rfl) (by kernel_rfl) (by kernel_rfl) (fun _ _ _ h => h) (Or.inl ⟨by kernel_rfl, ?h3⟩) ?_
    case h3 => (intro w; go_simp; try with_reducible rfl)
    refine wpAny_take (i := 4) (v := ?v4) rfl (by kernel_rfl) (by kernel_rfl) (by kernel_rfl) (fun _ _ _ h => h) (Or.inl ⟨by kernel_rfl, ?h4⟩) ?_
    case h4 => (intro w; go_simp; try with_reducible rfl)
    refine wpAny_take (i := 5) (v := ?v5) rfl (by kernel_rfl) (by kernel_rfl) (by kernel_rfl) (fun _ _ _ h => h) (Or.inl ⟨by kernel_rfl, ?h5⟩) ?_
    case h5 => (intro w; go_simp; try with_reducible rfl)
    refine wpAny_take (i := 6) (v := ?v6) rfl (by kernel_rfl) (by kernel_rfl) (by kernel_rfl) (fun _ _ _ h => h) (Or.inl ⟨by kernel_rfl, ?h6⟩) ?_
    case h6 => (intro w; go_simp; try with_reducible rfl)
    refine wpAny_ready (rs := [7]) (by kernel_rfl) (by simp) ?_
    refine AllReady.cons rfl (fun K hK => ?_) AllReady.nil
    go_simp
    have F3 : Hid (Eds w2 w2.heap.size (some ⟨b2, o2, none⟩) l2) := F2.out.to hb2
    refine (K2.out _ F3.out).mono ?_
    rintro e w3 ⟨rfl, hb3⟩
    have g1 := CZ.out w3 ((E2.out.to hb2).to hb3)
    have g2 := CX.out w3 (F3.out.to hb3)
    go_simp
    refine hK _ _ ?_
    clear hK K
    refine wpAny_take (i := 8) (v := ?v8) rfl (by kernel_rfl) (by kernel_rfl) (by kernel_rfl) (fun _ _ _ h => h) (Or.inl ⟨by kernel_rfl, ?h8⟩) ?_
    case h8 => (intro w; go_simp; try with_reducible rfl)
    refine wpAny_take (i := 9) (v := ?v9) rfl (by kernel_rfl) (by kernel_rfl) (by kernel_rfl) (fun _ _ _ h => h) (Or.inl ⟨by kernel_rfl, ?h9⟩) ?_
    case h9 => (intro w; go_simp; try with_reducible rfl)
    refine wpAny_take (i := 10) (v := ?v10) rfl (by kernel_rfl) (by kernel_rfl) (by kernel_rfl) (fun _ _ _ h => h) (Or.inl ⟨by kernel_rfl, ?h10⟩) ?_
    case h10 => (intro w; go_simp; try with_reducible rfl)
    refine wpAny_take (i := 11) (v := ?v11) rfl (by kernel_rfl) (by kernel_rfl) (by kernel_rfl) (fun _ _ _ h => h) (Or.inl ⟨by kernel_rfl, ?h11⟩) ?_
    case h11 => (intro w; go_simp; try with_reducible rfl)
    refine wpAny_take (i := 12) (v := ?v12) rfl (by kernel_rfl) (by kernel_rfl) (by kernel_rfl) (fun _ _ _ h => h) (Or.inl ⟨by kernel_rfl, ?h12⟩) ?_
    case h12 => (intro w; go_simp; try with_reducible rfl)
    refine wpAny_take (i := 13) (v := ?v13) rfl (by kernel_rfl) (by kernel_rfl) (by kernel_rfl) (fun _ _ _ h => h) (Or.inl ⟨by kernel_rfl, ?h13⟩) ?_
    case h13 => (intro w; go_simp; try with_reducible rfl)
    refine wpAny_take (i := 14) (v := ?v14) rfl (by kernel_rfl) (by kernel_rfl) (by kernel_rfl) (fun _ _ _ h => h) (Or.inl ⟨by kernel_rfl, ?h14⟩) ?_
    case h14 => (intro w; go_simp; try with_reducible rfl)
    refine wpAny_take (i := 15) (v := ?v15) rfl (by kernel_rfl) (by kernel_rfl) (by kernel_rfl) (fun _ _ _ h => h) (Or.inl ⟨by kernel_rfl, ?h15⟩) ?_
    case h15 => (intro w; go_simp; try with_reducible rfl)
    refine wpAny_take (i := 16) (v := ?v16) rfl (by kernel_rfl) (by kernel_rfl) (by kernel_rfl) (fun _ _ _ h => h) (Or.inl ⟨by kernel_rfl, ?h16⟩) ?_
    case h16 => (intro w; go_simp; try with_reducible rfl)
    refine wpAny_take (i := 17) (v := ?v17) rfl (by kernel_rfl) (by kernel_rfl) (by kernel_rfl) (fun _ _ _ h => h) (Or.inl ⟨by kernel_rfl, ?h17⟩) ?_
    case h17 => (intro w; go_simp; try with_reducible rfl)
    refine wpAny_take (i := 18) (v := ?v18) rfl (by kernel_rfl) (by kernel_rfl) (by kernel_rfl) (fun _ _ _ h => h) (Or.inl ⟨by kernel_rfl, ?h18⟩) ?_
    case h18 => (intro w; go_simp; try with_reducible rfl)
    refine wpAny_take (i := 19) (v := ?v19) rfl (by kernel_rfl) (by kernel_rfl) (by kernel_rfl) (fun _ _ _ h => h) (Or.inl ⟨by kernel_rfl, ?h19⟩) ?_
    case h19 => (intro w; go_simp; try with_reducible rfl)
    refine wpAny_take (i := 20) (v := ?v20) rfl (by kernel_rfl) (by kernel_rfl) (by kernel_rfl) (fun _ _ _ h => h) (Or.inl ⟨by kernel_rfl, ?h20⟩) ?_
    case h20 => (intro w; go_simp; try with_reducible rfl)
    refine wpAny_take (i := 21) (v := ?v21) rfl (by kernel_rfl) (by kernel_rfl) (by kernel_rfl) (fun _ _ _ h => h) (Or.inl ⟨by kernel_rfl, ?h21⟩) ?_
    case h21 => (intro w; go_simp; try with_reducible rfl)
    refine wpAny_take (i := 22) (v := ?v22) rfl (by kernel_rfl) (by kernel_rfl) (by kernel_rfl) (fun _ _ _ h => h) (Or.inl ⟨by kernel_rfl, ?h22⟩) ?_
    case h22 => (intro w; go_simp; try with_reducible rfl)
    refine wpAny_take (i := 23) (v := ?v23) rfl (by kernel_rfl) (by kernel_rfl) (by kernel_rfl) (fun _ _ _ h => h) (Or.inl ⟨by kernel_rfl, ?h23⟩) ?_
    case h23 => (intro w; go_simp; try with_reducible rfl)
    refine wpAny_take (i := 24) (v := ?v24) rfl (by kernel_rfl) (by kernel_rfl) (by kernel_rfl) (fun _ _ _ h => h) (Or.inl ⟨by kernel_rfl, ?h24⟩) ?_
    case h24 => (intro w; go_simp; try with_reducible rfl)
    refine wpAny_take (i := 25) (v := ?v25) rfl (by kernel_rfl) (by kernel_rfl) (by kernel_rfl) (fun _ _ _ h => h) (Or.inl ⟨by kernel_rfl, ?h25⟩) ?_
    case h25 => (intro w; go_simp; try with_reducible rfl)
    refine wpAny_take (i := 26) (v := ?v26) rfl (by kernel_rfl) (by kernel_rfl) (by kernel_rfl) (fun _ _ _ h => h) (Or.inl ⟨by kernel_rfl, ?h26⟩) ?_
    case h26 => (intro w; go_simp; try with_reducible rfl)
    refine wpAny_take (i := 28) (v := ?v28) rfl (by kernel_rfl) (by kernel_rfl) (by kernel_rfl) (fun _ _ _ h => h) (Or.inl ⟨by kernel_rfl, ?h28⟩) ?_
    case h28 => (intro w; go_simp; try with_reducible rfl)
    refine wpAny_take (i := 29) (v := ?v29) rfl (by kernel_rfl) (by kernel_rfl) (by kernel_rfl) (fun _ _ _ h => h) (Or.inl ⟨by kernel_rfl, ?h29⟩) ?_
    case h29 => (intro w; go_simp; try with_reducible rfl)
    refine wpAny_take (i := 30) (v := ?v30) rfl (by kernel_rfl) (by kernel_rfl) (by kernel_rfl) (fun _ _ _ h => h) (Or.inl ⟨by kernel_rfl, ?h30⟩) ?_
    case h30 => (intro w; go_simp; try with_reducible rfl)
    refine wpAny_ready (rs := [27, 31]) (by kernel_rfl) (by simp) ?_
    refine AllReady.cons rfl (fun K hK => ?_) (AllReady.cons rfl (fun K hK => ?_) AllReady.nil)
    · go_simp
      refine hK _ _ ?_
      clear hK K
      refine wpAny_ready (rs := [31]) (by kernel_rfl) (by simp) ?_
      refine AllReady.cons rfl (fun K hK => ?_) AllReady.nil
      go_simp
      refine hK _ _ ?_
      clear hK K
      refine wpAny_take (i := 32) (v := ?v32) rfl (by kernel_rfl) (by kernel_rfl) (by kernel_rfl) (fun _ _ _ h => h) (Or.inl ⟨by kernel_rfl, ?h32⟩) ?_
      case h32 => (intro w; go_simp; try with_reducible rfl)
      refine wpAny_take (i := 33) (v := ?v33) rfl (by kernel_rfl) (by kernel_rfl) (by kernel_rfl) (fun _ _ _ h => h) (Or.inl ⟨by kernel_rfl, ?h33⟩) ?_
      case h33 => (intro w; go_simp; try with_reducible rfl)
      refine wpAny_done (by kernel_rfl) ?_ _
      go_simp
      go_wp2
      go_meet
      case rel => exact ⟨rfl, (B1.trans (hb2.mono B1.size)).trans (hb3.mono (B1.trans (hb2.mono B1.size)).size), (E2.out.to hb2).to hb3, F3.out.to hb3⟩
    · go_simp
      refine hK _ _ ?_
      clear hK K
      refine wpAny_ready (rs := [27]) (by kernel_rfl) (by simp) ?_
      refine AllReady.cons rfl (fun K hK => ?_) AllReady.nil
      go_simp
      refine hK _ _ ?_
      clear hK K
      refine wpAny_take (i := 32) (v := ?v32) rfl (by kernel_rfl) (by kernel_rfl) (by kernel_rfl) (fun _ _ _ h => h) (Or.inl ⟨by kernel_rfl, ?h32⟩) ?_
      case h32 => (intro w; go_simp; try with_reducible rfl)
      refine wpAny_take (i := 33) (v := ?v33) rfl (by kernel_rfl) (by kernel_rfl) (by kernel_rfl) (fun _ _ _ h => h) (Or.inl ⟨by kernel_rfl, ?h33⟩) ?_
      case h33 => (intro w; go_simp; try with_reducible rfl)
      refine wpAny_done (by kernel_rfl) ?_ _
      go_simp
      go_wp2
      go_meet
      case rel => exact ⟨rfl, (B1.trans (hb2.mono B1.size)).trans (hb3.mono (B1.trans (hb2.mono B1.size)).size), (E2.out.to hb2).to hb3, F3.out.to hb3⟩
  case rest =>
    obtain ⟨rfl, B2, E3, F3⟩ := hcut
    clear K1 K2 CZ CX hwm hm0 hm1 hm2 hdd hlt
    have hzc := B2.size
    have hal : Below wc.heap.size wc (wc.alloc (.cells #[] 38)) := (Below.refl _ _).alloc (Nat.le_refl _) _
    have HAL := Lib.hid hal
    clear hal
    go_wp2_with (at_builtin; refine wpList_append_src rfl (.tmp 54) (.tmp 55) 22 rfl w.heap.size 38 i0 _ 3 32 Try.underlying22 hi hz0 hz1 hz2 rfl (by decide) _ _ _ rfl (World.ownsRow_made wc #[] 0 hzc (Nat.zero_le _) rfl) _ (m + 1) (edCells l1) rfl (eds_src (E3.out.to HAL.out) HL1.out) (by unfold maxLen; omega) (by omega) (by simp; omega) ?_)
    intro v1 w4 hown4 hgrow4
    have hb4 : Below w.heap.size w w4 := (B2.trans (HAL.out.mono hzc)).grown hgrow4 (by have := HAL.out.size; omega) (fun j hj => by simp [Value.ownBlock] at hj; omega)
    have hb34 : Below wc.heap.size wc w4 := HAL.out.grown hgrow4 HAL.out.size (fun j hj => by simp [Value.ownBlock] at hj; omega)
    have E4 : Hid (Eds w4 w4.heap.size (some ⟨b1, o1, none⟩) l1) := E3.out.to hb34
    have F4 : Hid (Eds w4 w4.heap.size (some ⟨b2, o2, none⟩) l2) := F3.out.to hb34
    have hown4' : Hid (w4.ownsRow w.heap.size 38 3 v1 (m + 1) (edCells l1)) := by
      exact hown4
    have hzc4 := hb4.size
    clear hown4 hgrow4 HAL E3 F3 hb34
    go_wp2_with (at_builtin; refine wpList_append_src rfl (.tmp 56) (.tmp 57) 22 rfl w.heap.size 38 i0 _ 3 32 Try.underlying22 hi hz0 hz1 hz2 rfl (by decide) _ _ _ rfl hown4'.out _ (m2 + 1) (edCells l2) rfl (eds_src F4.out HL2.out) (by unfold maxLen; omega) (by omega) (by omega) ?_)
    intro v2 w5 hown5 hgrow5
    have hb5 : Below w.heap.size w w5 := hb4.grown hgrow5 (by omega) (fun j hj => (hown4'.out.lt j hj).1)
    have E5 : Hid (Eds w5 w5.heap.size (some ⟨b1, o1, none⟩) l1) := (E0.out.below hb5).up hb5.size
    have F5 : Hid (Eds w5 w5.heap.size (some ⟨b2, o2, none⟩) l2) := (F0.out.below hb5).up hb5.size
    have ho5 : Hid (Owns w5 w.heap.size v2 A) := by
      show World.ownsRow _ _ _ _ _ _ _
      rw [hA.out, List.length_append, edCells_append, HL1.out, HL2.out]
      exact hown5
    obtain ⟨b5, c5, rfl, G5⟩ := ho5.out.eds ok1.out
    have G5 := Lib.hid G5
    clear hown5 hgrow5 ho5 E4 F4 hown4' E0 F0
    go_wp2_with fail
    refine (KA.out w5 b5 c5 G5.out).mono ?_
    rintro e w6 ⟨rfl, hb⟩
    have B6 := hb5.trans (hb.mono hb5.size)
    have E6 := Lib.hid (E5.out.to hb)
    have F6 := Lib.hid (F5.out.to hb)
    clear E5 F5 G5 hb hb5 hb4
    go_wp2_with fail
    refine (KT.out w6 E6.out F6.out).mono ?_
    rintro e w7 ⟨x1, n1, y1, x2, y2, rfl, G7, hb⟩
    have B7 := B6.trans (hb.mono B6.size)
    have E7 := Lib.hid (E6.out.to hb)
    clear E6 F6 hb B6
    rcases hcase.out with hc | ⟨rfl, hc⟩ | ⟨rfl, rfl, hc1, hc2⟩
    · go_wp2_with fail
      refine (examples_keep _).mono ?_
      rintro e w8 ⟨rfl, hb⟩
      have B8 := B7.trans (hb.mono B7.size)
      go_wp2_with fail
      go_ret
      exact ⟨rfl, B8⟩
    · go_wp2_with fail
      refine (examples_keep _).mono ?_
      rintro e w8 ⟨rfl, hb⟩
      have B8 := B7.trans (hb.mono B7.size)
      go_wp2_with fail
      go_ret
      exact ⟨rfl, B8⟩
    · have HC1 := Lib.hid hc1
      have HC2 := Lib.hid hc2
      clear hc1 hc2
      go_wp2_with fail
      refine (HC1.out w7 E7.out).mono ?_
      rintro e w8 ⟨rfl, hb⟩
      have B8 := B7.trans (hb.mono B7.size)
      have G8 := Lib.hid (G7.out.to hb)
      clear E7 G7 hb B7 HC1
      go_wp2_with fail
      refine (HC2.out w8 x2 y2 G8.out).mono ?_
      rintro e w9 ⟨rfl, hb⟩
      have B9 := B8.trans (hb.mono B8.size)
      clear G8 hb B8 HC2
      go_wp2_with fail
      refine (examples_keep _).mono ?_
      rintro e w10 ⟨rfl, hb⟩
      have B10 := B9.trans (hb.mono B9.size)
      clear hb B9
      go_wp2_with fail
      go_ret
      exact ⟨rfl, B10⟩

end
end Go.Proofs.Ytbkiliiopondaaa.lawDis
