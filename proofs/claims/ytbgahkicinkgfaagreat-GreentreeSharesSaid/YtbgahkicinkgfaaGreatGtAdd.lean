/-
  The builder's add, by its contract.
-/
import Derived.Test.YtbgahkicinkgfaaGreatGtDone
import Derived.Test.YtbgahkicinkgfaaGreatGtWidth
import Derived.Test.YtbgahkicinkgfaaGreatGtHeld
import Derived.Test.YtbgahkicinkgfaaGreatGtSame
import Derived.Deep.DeepCutAuto
import Derived.StillTailTactics
namespace Go.Proofs.YtbgahkicinkgfaaGreat
open Go.RowKit

set_option maxRecDepth 100000 in
set_option maxHeartbeats 8000000 in
theorem add_any : ∀ (n : Nat) (x : Tree) (ta : Option Addr) (tc : Nat) (l : List N) (B bb mb : Nat) (v : Value) (T : Nat → Prop) (w : World), x.ok → Kids w (· < B) n ta x.c → Good (gs l) → l.length + x.size ≤ 8000 →
    (∀ b, T b → b < w.heap.size) → BInv w B bb mb v T l → Calls Tryz.prog 23 #[.pointer (some ⟨bb, 0, none⟩), tv x ta tc] w (AddPost B bb mb v T l x w) := by
  intro n
  induction n using Nat.strongRecOn with
  | ind n ih =>
  intro x ta tc l B bb mb v T w hok hk hgood hsize hT hinv
  obtain ⟨j0, ji, jz0, jz1, jz2⟩ := info_parts info_int
  obtain ⟨i0, ii, iz0, iz1, iz2⟩ := info_parts info_node
  have HX : Hid (I64 x.k ∧ x.t.size ≤ maxLen) := ⟨hok.1, hok.2.1⟩
  have hcl : x.c.length ≤ 8000 := by have := size_eq x; have := length_le_sizes x.c; omega
  have HK := Lib.hid hk
  have HG := Lib.hid hgood
  have HSZ : Hid (l.length + (1 + sizes x.c) ≤ 8000) := by have := size_eq x; show _ ≤ _; omega
  have HT := Lib.hid hT
  have hbw : bb < w.heap.size := hinv.lt
  have hmw : mb < w.heap.size := hinv.mlt
  have HBW := Lib.hid hbw
  have HMW := Lib.hid hmw
  have HLB : Hid (B ≤ bb ∧ B ≤ mb ∧ (∀ g, v.ownBlock = some g → B ≤ g)) := ⟨hinv.lob, hinv.lom, fun g hg => (hinv.vlt hg).1⟩
  obtain ⟨W0, hW0⟩ : ∃ W0, W0 = w.alloc (treeBox x.k x.t (.slice ta x.c.length tc)) := ⟨_, rfl⟩
  have HI0 : Hid (AInv B bb mb v T l x ta tc w 0 l v (.slice none 0 0) W0) := by
    have hb : Below w.heap.size w W0 := by rw [hW0]; exact (Below.refl _ _).alloc (Nat.le_refl _) _
    have hs : W0.heap.size = w.heap.size + 1 := by rw [hW0]; simp
    refine ⟨rfl, (hinv.below hb).sub (fun b h => Or.inl h) ?_, OwnsI.nil _ _, by rw [hW0]; exact heap_alloc_new w _, Apart.below hb, RowTo.refl _ _, ?_, fun g hg => (by cases hg), by omega⟩
    · intro b h
      rcases h with h | h
      · have := hinv.t b h; exact ⟨by omega, this.2⟩
      · omega
    · intro e; have := (hinv.vlt e).2; omega
  clear hk hgood hT hinv hok hsize
  go_enter Tryz.func23, Tryz.ntmps23
  go_wp2_with fail
  go_loopw [5, 15] (fun c p wr => ∃ (k : Nat) (lk : List N) (vk : Value), k ≤ x.c.length ∧ p = .int .i64 k ∧ Hid (AInv B bb mb v T l x ta tc w k lk vk c wr))
    (fun _ p _ => x.c.length - (intOf p).toNat)
  case atStart => exact ⟨0, l, v, Nat.zero_le _, rfl, by have := HI0.out; rw [hW0] at this; exact this⟩
  case round =>
    clear hW0 HI0
    obtain ⟨k, lk, vk, hk, rfl, hinv⟩ := hrel
    by_cases hlt : k < x.c.length
    · have hx : x.c[k]? = some x.c[k] := List.getElem?_eq_getElem hlt
      obtain ⟨y, hY⟩ : ∃ y, y = x.c[k] := ⟨_, rfl⟩
      rw [← hY] at hx
      clear hY
      have hBw : B ≤ w.heap.size := by have := HLB.out.1; have := HBW.out; omega
      obtain ⟨hok', m, b, o, sa, cap', hm, rfl, hbB, p0, p1, p2, hk'⟩ := (HK.out.kept (hinv.out.ap.kept HLB.out.1 HLB.out.2.1 HLB.out.2.2 hBw)).at hx
      have HY := Lib.hid hx
      have hk0 : (0 : Int) ≤ (k : Int) := by omega
      have hk1 : (k : Int) < (x.c.length : Int) := by omega
      have hszr := hinv.out.sz
      have hbr : b < wr.heap.size := by omega
      have HKY := Lib.hid (hk'.kept ((kept_below ((Below.refl wr.heap.size wr).alloc (Nat.le_refl _) (treeBox y.k y.t (.slice sa y.c.length cap')))).sub (fun i (hi : i < B) => by omega)))
      have HOY := Lib.hid hok'
      clear hx hk' hok' hbB
      have hst := sizes_take HY.out
      have hle := sizes_take_le x.c (k + 1)
      have hlk := hinv.out.len
      have hsz := HSZ.out
      have HC := Lib.hid (ih m hm y sa cap' lk B bb mb vk _ (wr.alloc (treeBox y.k y.t (.slice sa y.c.length cap'))) HOY.out HKY.out (hinv.out.good HG.out) (by omega)
        (fun i hi => by have := (hinv.out.inv.t i hi).1; simp; omega) (hinv.out.inv.below ((Below.refl _ _).alloc (Nat.le_refl _) _)))
      have hf0 : w.heap.size < wr.heap.size := by omega
      clear hst hle hlk hsz
      obtain ⟨q0, q1, q2, _⟩ := three_facts hinv.out.t
      go_wp2_with fail
      change Calls _ _ _ (wr.alloc (treeBox y.k y.t (.slice sa y.c.length cap'))) _
      refine HC.out.mono ?_
      rintro e w2 ⟨v2, l2, rfl, hg2, hi2, ha2, hr2⟩
      have HA : Hid (∀ (o3 : Obj) (g cap : Nat) (w3 : World), OwnsI w3 (w.heap.size + 1) (.slice (some ⟨g, 0, none⟩) ((insF (gs l) (x.c.take k)).2.length + 1) cap) ((insF (gs l) (x.c.take k)).2 ++ [((insT (gs lk) y).2 : Int)]) → (w2.alloc o3).grownBy w3 u5.ownBlock → (u5.ownBlock = some g ∨ g = w2.heap.size + 1) →
          AInv B bb mb v T l x (some ⟨b, o, none⟩) tc w (k + 1) l2 v2 (.slice (some ⟨g, 0, none⟩) ((insF (gs l) (x.c.take k)).2.length + 1) cap) w3) := fun o3 g cap w3 h1 h2 h3 => hinv.out.step HT.out HBW.out HMW.out HY.out hg2 hi2 ha2 hr2 h1 h2 h3
      have hs2 := ha2.size
      simp at hs2
      have O2 : Hid (OwnsI w2 (w.heap.size + 1) u5 (insF (gs l) (x.c.take k)).2) := by
        refine owns_of_block hinv.out.own (fun g hg => ?_)
        have h1 := hinv.out.clt hg
        have h2 := HBW.out
        have h3 := HMW.out
        exact (ha2.block g (by simp; omega) (by omega) (by omega) (hinv.out.cv g hg)).trans (Below.heap_alloc _ _ _ (by omega))
      have hil : (insF (gs l) (x.c.take k)).2.length ≤ 8000 := by rw [insF_len, List.length_take]; omega
      clear HC hg2 hi2 ha2 hr2 hinv
      generalize (insF (gs l) (x.c.take k)).2 = ids at *
      generalize (insT (gs lk) y).2 = idx at *
      have HC1 : Hid (∀ j u, [Value.int .i64 (idx : Int)][j]? = some u → (w2.alloc (.cells #[.int .i64 idx] 3)).cell? ((⟨w2.heap.size, 0, none⟩ : Addr).add j) = some u) := cell_one_new _ _ _
      go_upto_region 6 with (at_builtin; refine wpList_append_lies _ rfl _ _ 51 rfl (w.heap.size + 1) 3 j0 (.int .i64 0) 1 8 Tryz.underlying51 ji jz0 jz1 jz2 rfl (by decide) u5 ids.length (iCells ids) rfl (World.ownsRow.alloc O2.out _) ⟨w2.heap.size, 0, none⟩ 1 1 [.int .i64 idx] rfl rfl HC1.out (by simp [Value.oneCell']) (by omega) (by unfold maxLen; omega) (by omega) (by simp; omega) (w2.heap.size + 1) (by simp) ?_; intro gg4 cap4 w4 hown4 hgrow4 hloc4 hlt4)
      have hown5 : OwnsI w4 (w.heap.size + 1) (.slice (some ⟨gg4, 0, none⟩) (ids.length + 1) cap4) (ids ++ [(idx : Int)]) := by
        show World.ownsRow _ _ _ _ _ _ _
        rw [iCells_append, List.length_append]
        exact hown4
      have HFIN := Lib.hid (HA.out _ _ _ _ hown5 hgrow4 hloc4)
      clear hown5 hown4 hgrow4 hloc4 hlt4 HA O2 HC1
      go_wp2_with fail
      go_roundw
      case rel => exact ⟨k + 1, _, _, by omega, by go_num, HFIN⟩
      case measure => simp [intOf]; omega
    · obtain rfl : k = x.c.length := by omega
      have hszr := hinv.out.sz
      have hf0 : w.heap.size < wr.heap.size := by omega
      obtain ⟨q0, q1, q2, _⟩ := three_facts hinv.out.t
      go_wp2_with fail
      change Calls _ _ _ wr _
      obtain ⟨ca, cc, rfl, hI, hcn⟩ := OwnsI.ints hinv.out.own
      rw [List.take_length] at hI hcn hinv
      have hgk := hinv.out.g
      have hlk := hinv.out.len
      have hids := hinv.out.ids
      have hgd := hinv.out.good HG.out
      have hsz := HSZ.out
      rw [List.take_length] at hgk hlk hids
      have hidl : (insF (gs l) x.c).2.length = x.c.length := insF_len _ _
      have hIT : insT (gs l) x = fin (gs lk) x.k x.t (insF (gs l) x.c).2 := by rw [insT_eq, hgk]
      have hcv := hinv.out.cv
      have hlkN : lk.length ≤ 7999 := by omega
      have HKO : Hid (KeyOk x.k x.t (insF (gs l) x.c).2) := ⟨HX.out.1, HX.out.2, by omega, hids.mono (by omega)⟩
      rw [List.take_length]
      have hICA : Ints wr (· < wr.heap.size) ca (insF (gs l) x.c).2 := hI.sub (fun b hb => (hinv.out.clt hb).2)
      refine (content_any x.k x.t (insF (gs l) x.c).2 ca cc wr HKO.out.len HKO.out.c hICA).mono ?_
      rintro e w3 ⟨rfl, hb3⟩
      have HB5 : Hid (Below wr.heap.size wr (w3.alloc (.cells #[.int .i64 x.k, .string x.t, .string (encB (insF (gs l) x.c).2)] 81))) := hb3.alloc hb3.size _
      obtain ⟨k0, k1, k2, _⟩ := three_facts (heap_alloc_new w3 (.cells #[.int .i64 x.k, .string x.t, .string (encB (insF (gs l) x.c).2)] 81))
      have t5 := keeps_below HB5.out (by omega) hinv.out.t
      have b5 := keeps_below HB5.out hinv.out.inv.lt hinv.out.inv.b
      have HI5 : Hid (BInv (w3.alloc (.cells #[.int .i64 x.k, .string x.t, .string (encB (insF (gs l) x.c).2)] 81)) B bb mb vk _ lk) := hinv.out.inv.below HB5.out
      have hz5 := HB5.out.size
      have hkl : w3.heap.size < (w3.alloc (.cells #[.int .i64 x.k, .string x.t, .string (encB (insF (gs l) x.c).2)] 81)).heap.size := by simp
      have hwr3 := hb3.size
      have hbwr : bb < wr.heap.size := by omega
      clear q0 q1 q2 hICA hb3
      have HIL := Lib.hid hI
      have HCN := Lib.hid hcn
      have HIDS := Lib.hid hids
      have HGD := Lib.hid hgd
      have HITE := Lib.hid hIT
      have HCV := Lib.hid hcv
      clear hI hcn hids hgd hIT hcv hgk hsz hlk
      go_upto_region 8 with fail
      generalize w3.alloc (.cells #[.int .i64 x.k, .string x.t, .string (encB (insF (gs l) x.c).2)] 81) = W5 at *
      generalize w3.heap.size = H3 at *
      obtain ⟨q0, q1, q2, _⟩ := three_facts t5
      obtain ⟨d0, d1, _⟩ := two_facts b5
      clear t5 b5
      cases hp : place (gs lk) x.k x.t (insF (gs l) x.c).2 with
      | some j =>
        have hlook : ∀ n, (Instr.lookup 54 (.map (some mb)) (.agg #[.int .i64 x.k, .string x.t, .string (encB (insF (gs l) x.c).2)]) true).run Tryz.prog (W5.drewN n) = .ok (.tuple #[.int .i64 j, .bool true]) (W5.drewN n) := fun n => (HI5.out.idx.to (below_drewN' (Below.refl _ _) n)).found hp
        have hj : Hid (insT (gs l) x = (gs lk, j)) := by show _ = _; rw [HITE.out, fin, hp]
        clear hp
        go_quiet (fail)
        go_wp2_with fail
        go_ret
        exact hinv.out.found HBW.out HMW.out (below_drewN' HB5.out _) hj.out
      | none =>
        obtain ⟨X, hX⟩ : ∃ X : G, X = ⟨x.k, wid (gs lk) x.t (insF (gs l) x.c).2, x.t, (insF (gs l) x.c).2⟩ := ⟨_, rfl⟩
        have hsm : Hid (∀ y, y ∈ gs lk → InR 60000 y.c) := by
          intro y hy
          obtain ⟨i, hi⟩ := List.getElem?_of_mem hy
          have hlt := (List.getElem?_eq_some_iff.1 hi).1
          rw [gs_len] at hlt
          exact (HGD.out i y hi).1.mono (by omega)
        have hlook : ∀ n, (Instr.lookup 54 (.map (some mb)) (.agg #[.int .i64 x.k, .string x.t, .string (encB (insF (gs l) x.c).2)]) true).run Tryz.prog (W5.drewN n) = .ok (.tuple #[.int .i64 0, .bool false]) (W5.drewN n) := fun n => (HI5.out.idx.to (below_drewN' (Below.refl _ _) n)).missing hsm.out hp HKO.out
        have hj : Hid (insT (gs l) x = (gs lk ++ [X], lk.length)) := by show _ = _; rw [HITE.out, fin, hp, hX, gs_len]
        have HST : Hid (∀ W, Below W5.heap.size W5 W → ∃ w', (Instr.mapUpdate 54 (.map (some mb)) (.agg #[.int .i64 x.k, .string x.t, .string (encB (insF (gs l) x.c).2)]) (.int .i64 lk.length)).run Tryz.prog W = .ok () w' ∧ IdxAt w' mb (gs lk ++ [X]) ∧ W.grownBy w' (some mb)) := by
          intro W hW
          have h := (HI5.out.idx.to hW).store hsm.out (by rw [gs_len]; omega) (x := X) (by rw [hX]; exact hp) (by rw [hX]; exact HKO.out)
          rw [hX, gs_len] at h
          rw [hX]
          exact h
        clear hp
        obtain ⟨va, vc, hvk, hvn⟩ := OwnsN.nodes HI5.out.own (HI5.out.chl.sub (fun b hb => (HI5.out.t b hb).1)) (S := (· < W5.heap.size)) (fun g hg => (HI5.out.vlt hg).2)
        subst hvk
        go_quiet (fail)
        go_upto_region 12 with fail
        have HB6 : Hid (Below wr.heap.size wr (W5.drewN nq)) := below_drewN' HB5.out nq
        have HS6 : Hid (∀ W, Below (W5.drewN nq).heap.size (W5.drewN nq) W → ∃ w', (Instr.mapUpdate 54 (.map (some mb)) (.agg #[.int .i64 x.k, .string x.t, .string (encB (insF (gs l) x.c).2)]) (.int .i64 lk.length)).run Tryz.prog W = .ok () w' ∧ IdxAt w' mb (gs lk ++ [X]) ∧ W.grownBy w' (some mb)) :=
          fun W hW => HST.out W ((below_drewN' (Below.refl _ _) nq).trans hW)
        have HI6 : Hid (BInv (W5.drewN nq) B bb mb (.slice va lk.length vc) _ lk) := HI5.out.below (below_drewN' (Below.refl _ _) nq)
        have z6 : (W5.drewN nq).heap.size = W5.heap.size := rfl
        have e0 : (W5.drewN nq).cell? ⟨w.heap.size, 0, none⟩ = _ := q0
        have e1 : (W5.drewN nq).cell? ⟨w.heap.size, 1, none⟩ = _ := q1
        have e2 : (W5.drewN nq).cell? ⟨w.heap.size, 2, none⟩ = _ := q2
        have f0 : (W5.drewN nq).cell? ⟨bb, 0, none⟩ = _ := d0
        have f1 : (W5.drewN nq).cell? ⟨bb, 1, none⟩ = _ := d1
        have g0 : (W5.drewN nq).cell? ⟨H3, 0, none⟩ = _ := k0
        have g1 : (W5.drewN nq).cell? ⟨H3, 1, none⟩ = _ := k1
        have g2 : (W5.drewN nq).cell? ⟨H3, 2, none⟩ = _ := k2
        clear q0 q1 q2 d0 d1 k0 k1 k2 hlook HST HB5 HI5 hvn
        rw [← z6] at hz5 hkl
        clear z6
        generalize W5.drewN nq = W6 at *
        go_still_tail 6, (by kernel_rfl)
        change wpList _ _ _ _ _ W6.drew
        obtain ⟨w7, hst7, hi7, hg7⟩ := HS6.out W6.drew (Below.refl _ _).drew
        have HI7 : Hid (IdxAt w7 mb (gs lk ++ [X])) := hi7
        have HG7 : Hid (W6.grownBy w7 (some mb)) := ⟨hg7.os, hg7.tape, hg7.output, hg7.size, hg7.block⟩
        have hs7 := HG7.out.size
        clear hi7 hg7
        go_upto_region 13 with fail
        have b7 : w7.heap[bb]? = some (.cells #[.slice va lk.length vc, .map (some mb)] 61 (0, 0)) := (HG7.out.block bb (by omega) (by simpa using HI6.out.ne)).trans HI6.out.b
        have O7 : Hid (OwnsN w7 B (.slice va lk.length vc) lk) := World.ownsRow.kept HI6.out.own HG7.out (Or.inr HI6.out.vm)
        have c0 : w7.cell? ⟨w.heap.size, 0, none⟩ = some (.int .i64 x.k) := (HG7.out.cell_far ⟨w.heap.size, 0, none⟩ (by simp; omega) (by simp; omega)).trans e0
        have c1 : w7.cell? ⟨w.heap.size, 1, none⟩ = some (.string x.t) := (HG7.out.cell_far ⟨w.heap.size, 1, none⟩ (by simp; omega) (by simp; omega)).trans e1
        obtain ⟨c2, _, c3, _⟩ := two_facts b7
        have HC0 : Hid (w7.cell? ⟨w.heap.size, 0, none⟩ = some (.int .i64 x.k) ∧ w7.cell? ⟨w.heap.size, 1, none⟩ = some (.string x.t) ∧ w7.cell? ⟨bb, 0, none⟩ = some (.slice va lk.length vc) ∧ w7.frozen? ⟨bb, 0, none⟩ = false) := ⟨c0, c1, c2, c3⟩
        refine wp_region_Tn (S := fun wq => wq.cell? ⟨w.heap.size, 0, none⟩ = some (.int .i64 x.k) ∧ wq.cell? ⟨w.heap.size, 1, none⟩ = some (.string x.t) ∧ wq.cell? ⟨bb, 0, none⟩ = some (.slice va lk.length vc) ∧ wq.frozen? ⟨bb, 0, none⟩ = false) 23 24 (by kernel_rfl) (by rfl) ?_
        have hSd : Hid (w7.drew.cell? ⟨w.heap.size, 0, none⟩ = some (.int .i64 x.k) ∧ w7.drew.cell? ⟨w.heap.size, 1, none⟩ = some (.string x.t) ∧ w7.drew.cell? ⟨bb, 0, none⟩ = some (.slice va lk.length vc) ∧ w7.drew.frozen? ⟨bb, 0, none⟩ = false) := HC0.out
        have hT6 := HI6.out.t
        have HN7 : Hid (Nodes w7.drew (· < w7.drew.heap.size) va lk) := by
          obtain ⟨a', cap', he, hn⟩ := OwnsN.nodes O7.out ((HI6.out.chl.kept (kept_grown HG7.out (fun b hb => ⟨(hT6 b hb).1, by have := (hT6 b hb).2.2.1; simpa using this⟩))).sub (fun b hb => Nat.lt_of_lt_of_le (hT6 b hb).1 hs7)) (S := (· < w7.heap.size)) (fun g hg => (World.ownsRow.lt O7.out g hg).2)
          cases he
          exact hn
        have hclt : ∀ b, (Value.slice ca (insF (gs l) x.c).2.length cc).ownBlock = some b → w.heap.size + 1 ≤ b ∧ b < wr.heap.size := fun b hb => hinv.out.clt hb
        have HI7c : Hid (Ints w7.drew (· < w7.drew.heap.size) ca (insF (gs l) x.c).2) := by
          refine ((HIL.out.kept ((kept_below HB6.out).sub (fun b hb => (hclt b hb).2))).kept (kept_grown HG7.out (fun b hb => ⟨by have := (hclt b hb).2; omega, by have := (hclt b hb).1; simp; omega⟩))).sub (fun b hb => ?_)
          have := (hclt b hb).2
          show b < w7.heap.size
          omega
        have HWA := width_any lk va vc x.t (insF (gs l) x.c).2 ca cc w7.drew (by unfold maxLen; omega) HIDS.out HN7.out HI7c.out
        rw [hidl] at HWA
        clear hT6 hclt
        refine wpAnyT_put (i := 0) (d := 54) (v := .pointer (some ⟨bb, 0, none⟩)) (by kernel_rfl) (by kernel_rfl) (fun _ _ _ h => h) ?_ hSd.out ?_
        · intro oi ho
          simp only [List.getElem?_toArray, List.getElem?_cons_zero, Option.some.injEq] at ho
          subst ho
          rintro wq ⟨c0, c1, c2, c3⟩
          go_simp
        simp only [Act.put, List.setIfInBounds_toArray, List.set_cons_zero, List.set_cons_succ]
        refine wpAnyT_put (i := 1) (d := 55) (v := .pointer (some ⟨bb, 0, none⟩)) (by kernel_rfl) (by kernel_rfl) (fun _ _ _ h => h) ?_ hSd.out ?_
        · intro oi ho
          simp only [List.getElem?_toArray, List.getElem?_cons_succ, List.getElem?_cons_zero, Option.some.injEq] at ho
          subst ho
          rintro wq ⟨c0, c1, c2, c3⟩
          go_simp
        simp only [Act.put, List.setIfInBounds_toArray, List.set_cons_zero, List.set_cons_succ]
        refine wpAnyT_put (i := 2) (d := 56) (v := .pointer (some ⟨bb, 0, none⟩)) (by kernel_rfl) (by kernel_rfl) (fun _ _ _ h => h) ?_ hSd.out ?_
        · intro oi ho
          simp only [List.getElem?_toArray, List.getElem?_cons_succ, List.getElem?_cons_zero, Option.some.injEq] at ho
          subst ho
          rintro wq ⟨c0, c1, c2, c3⟩
          go_simp
        simp only [Act.put, List.setIfInBounds_toArray, List.set_cons_zero, List.set_cons_succ]
        refine wpAnyT_put (i := 3) (d := 57) (v := .pointer (some ⟨bb, 0, none⟩)) (by kernel_rfl) (by kernel_rfl) (fun _ _ _ h => h) ?_ hSd.out ?_
        · intro oi ho
          simp only [List.getElem?_toArray, List.getElem?_cons_succ, List.getElem?_cons_zero, Option.some.injEq] at ho
          subst ho
          rintro wq ⟨c0, c1, c2, c3⟩
          go_simp
        simp only [Act.put, List.setIfInBounds_toArray, List.set_cons_zero, List.set_cons_succ]
        refine wpAnyT_put (i := 4) (d := 58) (v := .slice va lk.length vc) (by kernel_rfl) (by kernel_rfl) (fun _ _ _ h => h) ?_ hSd.out ?_
        · intro oi ho
          simp only [List.getElem?_toArray, List.getElem?_cons_succ, List.getElem?_cons_zero, Option.some.injEq] at ho
          subst ho
          rintro wq ⟨c0, c1, c2, c3⟩
          go_simp
        simp only [Act.put, List.setIfInBounds_toArray, List.set_cons_zero, List.set_cons_succ]
        refine wpAnyT_put (i := 5) (d := 59) (v := .pointer (some ⟨w.heap.size, 0, none⟩)) (by kernel_rfl) (by kernel_rfl) (fun _ _ _ h => h) ?_ hSd.out ?_
        · intro oi ho
          simp only [List.getElem?_toArray, List.getElem?_cons_succ, List.getElem?_cons_zero, Option.some.injEq] at ho
          subst ho
          rintro wq ⟨c0, c1, c2, c3⟩
          go_simp
        simp only [Act.put, List.setIfInBounds_toArray, List.set_cons_zero, List.set_cons_succ]
        refine wpAnyT_put (i := 6) (d := 60) (v := .int .i64 x.k) (by kernel_rfl) (by kernel_rfl) (fun _ _ _ h => h) ?_ hSd.out ?_
        · intro oi ho
          simp only [List.getElem?_toArray, List.getElem?_cons_succ, List.getElem?_cons_zero, Option.some.injEq] at ho
          subst ho
          rintro wq ⟨c0, c1, c2, c3⟩
          go_simp
        simp only [Act.put, List.setIfInBounds_toArray, List.set_cons_zero, List.set_cons_succ]
        refine wpAnyT_put (i := 7) (d := 61) (v := .pointer (some ⟨bb, 0, none⟩)) (by kernel_rfl) (by kernel_rfl) (fun _ _ _ h => h) ?_ hSd.out ?_
        · intro oi ho
          simp only [List.getElem?_toArray, List.getElem?_cons_succ, List.getElem?_cons_zero, Option.some.injEq] at ho
          subst ho
          rintro wq ⟨c0, c1, c2, c3⟩
          go_simp
        simp only [Act.put, List.setIfInBounds_toArray, List.set_cons_zero, List.set_cons_succ]
        refine wpAnyT_put (i := 8) (d := 62) (v := .pointer (some ⟨bb, 0, none⟩)) (by kernel_rfl) (by kernel_rfl) (fun _ _ _ h => h) ?_ hSd.out ?_
        · intro oi ho
          simp only [List.getElem?_toArray, List.getElem?_cons_succ, List.getElem?_cons_zero, Option.some.injEq] at ho
          subst ho
          rintro wq ⟨c0, c1, c2, c3⟩
          go_simp
        simp only [Act.put, List.setIfInBounds_toArray, List.set_cons_zero, List.set_cons_succ]
        refine wpAnyT_put (i := 9) (d := 63) (v := .pointer (some ⟨bb, 0, none⟩)) (by kernel_rfl) (by kernel_rfl) (fun _ _ _ h => h) ?_ hSd.out ?_
        · intro oi ho
          simp only [List.getElem?_toArray, List.getElem?_cons_succ, List.getElem?_cons_zero, Option.some.injEq] at ho
          subst ho
          rintro wq ⟨c0, c1, c2, c3⟩
          go_simp
        simp only [Act.put, List.setIfInBounds_toArray, List.set_cons_zero, List.set_cons_succ]
        refine wpAnyT_put (i := 10) (d := 64) (v := .slice va lk.length vc) (by kernel_rfl) (by kernel_rfl) (fun _ _ _ h => h) ?_ hSd.out ?_
        · intro oi ho
          simp only [List.getElem?_toArray, List.getElem?_cons_succ, List.getElem?_cons_zero, Option.some.injEq] at ho
          subst ho
          rintro wq ⟨c0, c1, c2, c3⟩
          go_simp
        simp only [Act.put, List.setIfInBounds_toArray, List.set_cons_zero, List.set_cons_succ]
        refine wpAnyT_put (i := 11) (d := 65) (v := .pointer (some ⟨w.heap.size, 1, none⟩)) (by kernel_rfl) (by kernel_rfl) (fun _ _ _ h => h) ?_ hSd.out ?_
        · intro oi ho
          simp only [List.getElem?_toArray, List.getElem?_cons_succ, List.getElem?_cons_zero, Option.some.injEq] at ho
          subst ho
          rintro wq ⟨c0, c1, c2, c3⟩
          go_simp
        simp only [Act.put, List.setIfInBounds_toArray, List.set_cons_zero, List.set_cons_succ]
        refine wpAnyT_put (i := 12) (d := 66) (v := .string x.t) (by kernel_rfl) (by kernel_rfl) (fun _ _ _ h => h) ?_ hSd.out ?_
        · intro oi ho
          simp only [List.getElem?_toArray, List.getElem?_cons_succ, List.getElem?_cons_zero, Option.some.injEq] at ho
          subst ho
          rintro wq ⟨c0, c1, c2, c3⟩
          go_simp
        simp only [Act.put, List.setIfInBounds_toArray, List.set_cons_zero, List.set_cons_succ]
        refine wpAnyT_put (i := 13) (d := 67) (v := .slice ca x.c.length cc) (by kernel_rfl) (by kernel_rfl) (fun _ _ _ h => h) ?_ hSd.out ?_
        · intro oi ho
          simp only [List.getElem?_toArray, List.getElem?_cons_succ, List.getElem?_cons_zero, Option.some.injEq] at ho
          subst ho
          rintro wq ⟨c0, c1, c2, c3⟩
          go_simp
        simp only [Act.put, List.setIfInBounds_toArray, List.set_cons_zero, List.set_cons_succ]
        refine wpAnyT_put (i := 15) (d := 69) (v := .pointer (some ⟨w.heap.size, 1, none⟩)) (by kernel_rfl) (by kernel_rfl) (fun _ _ _ h => h) ?_ hSd.out ?_
        · intro oi ho
          simp only [List.getElem?_toArray, List.getElem?_cons_succ, List.getElem?_cons_zero, Option.some.injEq] at ho
          subst ho
          rintro wq ⟨c0, c1, c2, c3⟩
          go_simp
        simp only [Act.put, List.setIfInBounds_toArray, List.set_cons_zero, List.set_cons_succ]
        refine wpAnyT_put (i := 16) (d := 70) (v := .string x.t) (by kernel_rfl) (by kernel_rfl) (fun _ _ _ h => h) ?_ hSd.out ?_
        · intro oi ho
          simp only [List.getElem?_toArray, List.getElem?_cons_succ, List.getElem?_cons_zero, Option.some.injEq] at ho
          subst ho
          rintro wq ⟨c0, c1, c2, c3⟩
          go_simp
        simp only [Act.put, List.setIfInBounds_toArray, List.set_cons_zero, List.set_cons_succ]
        refine wpAnyT_put (i := 17) (d := 71) (v := .slice ca x.c.length cc) (by kernel_rfl) (by kernel_rfl) (fun _ _ _ h => h) ?_ hSd.out ?_
        · intro oi ho
          simp only [List.getElem?_toArray, List.getElem?_cons_succ, List.getElem?_cons_zero, Option.some.injEq] at ho
          subst ho
          rintro wq ⟨c0, c1, c2, c3⟩
          go_simp
        simp only [Act.put, List.setIfInBounds_toArray, List.set_cons_zero, List.set_cons_succ]
        refine wpAnyT_lone (i := 14) (by kernel_rfl) (by kernel_rfl) ?_
        intro oi ho K hK
        simp only [List.getElem?_toArray, List.getElem?_cons_succ, List.getElem?_cons_zero, Option.some.injEq] at ho
        subst ho
        go_simp
        go_at_call 41
        refine HWA.mono ?_
        rintro e w8 ⟨rfl, rfl⟩
        refine hK _ _ (fun _ => hSd.out) ?_
        refine wpAnyT_put (i := 18) (d := 72) (v := .agg #[.int .i64 x.k, .int .i64 (wid (gs lk) x.t (insF (gs l) x.c).2), .string x.t, .slice ca x.c.length cc]) (by kernel_rfl) (by kernel_rfl) (fun _ _ _ h => h) ?_ hSd.out ?_
        · intro oi ho
          simp only [List.getElem?_toArray, List.getElem?_cons_succ, List.getElem?_cons_zero, Option.some.injEq] at ho
          subst ho
          rintro wq ⟨c0, c1, c2, c3⟩
          go_simp
        simp only [Act.put, List.setIfInBounds_toArray, List.set_cons_zero, List.set_cons_succ]
        refine wpAnyT_lone (i := 19) (by kernel_rfl) (by kernel_rfl) ?_
        intro oi ho K hK
        simp only [List.getElem?_toArray, List.getElem?_cons_succ, List.getElem?_cons_zero, Option.some.injEq] at ho
        subst ho
        go_simp
        have HB8 : Hid (Below w7.heap.size w7 (w7.alloc (.cells #[.int .i64 x.k, .int .i64 (wid (gs lk) x.t (insF (gs l) x.c).2), .string x.t, .slice ca x.c.length cc] 78)).drew) := ((Below.refl _ _).alloc (Nat.le_refl _) _).drew
        have b8 : (w7.alloc (.cells #[.int .i64 x.k, .int .i64 (wid (gs lk) x.t (insF (gs l) x.c).2), .string x.t, .slice ca x.c.length cc] 78)).drew.heap[bb]? = some (.cells #[.slice va lk.length vc, .map (some mb)] 61 (0, 0)) := keeps_below HB8.out (by omega) b7
        have hS8 : Hid ((w7.alloc (.cells #[.int .i64 x.k, .int .i64 (wid (gs lk) x.t (insF (gs l) x.c).2), .string x.t, .slice ca x.c.length cc] 78)).drew.cell? ⟨w.heap.size, 0, none⟩ = some (.int .i64 x.k) ∧ (w7.alloc (.cells #[.int .i64 x.k, .int .i64 (wid (gs lk) x.t (insF (gs l) x.c).2), .string x.t, .slice ca x.c.length cc] 78)).drew.cell? ⟨w.heap.size, 1, none⟩ = some (.string x.t) ∧ (w7.alloc (.cells #[.int .i64 x.k, .int .i64 (wid (gs lk) x.t (insF (gs l) x.c).2), .string x.t, .slice ca x.c.length cc] 78)).drew.cell? ⟨bb, 0, none⟩ = some (.slice va lk.length vc) ∧ (w7.alloc (.cells #[.int .i64 x.k, .int .i64 (wid (gs lk) x.t (insF (gs l) x.c).2), .string x.t, .slice ca x.c.length cc] 78)).drew.frozen? ⟨bb, 0, none⟩ = false) :=
          ⟨(HB8.out.cell (p := ⟨w.heap.size, 0, none⟩) (by simp; omega)).trans HC0.out.1, (HB8.out.cell (p := ⟨w.heap.size, 1, none⟩) (by simp; omega)).trans HC0.out.2.1, (two_facts b8).1, (two_facts b8).2.2.1⟩
        have HE8 : Hid ((w7.alloc (.cells #[.int .i64 x.k, .int .i64 (wid (gs lk) x.t (insF (gs l) x.c).2), .string x.t, .slice ca x.c.length cc] 78)).drew.heap[w7.heap.size]? = some (.cells #[.int .i64 x.k, .int .i64 (wid (gs lk) x.t (insF (gs l) x.c).2), .string x.t, .slice ca x.c.length cc] 78 (0, 0))) := heap_alloc_new w7 _
        have O8 : Hid (OwnsN (w7.alloc (.cells #[.int .i64 x.k, .int .i64 (wid (gs lk) x.t (insF (gs l) x.c).2), .string x.t, .slice ca x.c.length cc] 78)).drew B (.slice va lk.length vc) lk) := owns_below O7.out HB8.out
        have z8 : (w7.alloc (.cells #[.int .i64 x.k, .int .i64 (wid (gs lk) x.t (insF (gs l) x.c).2), .string x.t, .slice ca x.c.length cc] 78)).drew.heap.size = w7.heap.size + 1 := by simp
        refine hK _ _ (fun _ => hS8.out) ?_
        refine wpAnyT_lone (i := 20) (by kernel_rfl) (by kernel_rfl) ?_
        intro oi ho K hK
        simp only [List.getElem?_toArray, List.getElem?_cons_succ, List.getElem?_cons_zero, Option.some.injEq] at ho
        subst ho
        have hBs : B ≤ (w7.alloc (.cells #[.int .i64 x.k, .int .i64 (wid (gs lk) x.t (insF (gs l) x.c).2), .string x.t, .slice ca x.c.length cc] 78)).drew.heap.size := by have := HLB.out.1; omega
        refine wp_append_lies _ _ _ 30 rfl B 78 i0 _ 4 56 Tryz.underlying30 ii iz0 iz1 iz2 rfl (by decide) (.slice va lk.length vc) lk.length (ncells lk) rfl O8.out ⟨w7.heap.size, 0, none⟩ 1 1 [.int .i64 x.k, .int .i64 (wid (gs lk) x.t (insF (gs l) x.c).2), .string x.t, .slice ca x.c.length cc] rfl rfl (World.news_of_block HE8.out) (by simp [Value.oneCell']) (by omega) (by unfold maxLen; omega) (by omega) hBs (w7.heap.size + 1) z8 ?_
        intro gg4 cap4 w9 hown9 hgrow9 hloc9 hlt9
        have b9 : w9.heap[bb]? = some (.cells #[.slice va lk.length vc, .map (some mb)] 61 (0, 0)) := (hgrow9.block bb (by omega) (Ne.symm HI6.out.vb)).trans b8
        have hn6 := HI6.out.vlt (g := w.heap.size)
        have hnt := hinv.out.nt
        have hS9 : Hid (w9.cell? ⟨w.heap.size, 0, none⟩ = some (.int .i64 x.k) ∧ w9.cell? ⟨w.heap.size, 1, none⟩ = some (.string x.t) ∧ w9.cell? ⟨bb, 0, none⟩ = some (.slice va lk.length vc) ∧ w9.frozen? ⟨bb, 0, none⟩ = false) :=
          ⟨(hgrow9.cell_far ⟨w.heap.size, 0, none⟩ (by show w.heap.size < _; omega) (fun e => hnt e.symm)).trans hS8.out.1, (hgrow9.cell_far ⟨w.heap.size, 1, none⟩ (by show w.heap.size < _; omega) (fun e => hnt e.symm)).trans hS8.out.2.1, (two_facts b9).1, (two_facts b9).2.2.1⟩
        have hown9' : Hid (OwnsN w9 B (.slice (some ⟨gg4, 0, none⟩) (lk.length + 1) cap4) (lk ++ [⟨X, ca, cc⟩])) := by
          show World.ownsRow _ _ _ _ _ _ _
          rw [ncells_append, List.length_append, hX]
          have e : ncells [⟨⟨x.k, wid (gs lk) x.t (insF (gs l) x.c).2, x.t, (insF (gs l) x.c).2⟩, ca, cc⟩] = [.int .i64 x.k, .int .i64 (wid (gs lk) x.t (insF (gs l) x.c).2), .string x.t, .slice ca x.c.length cc] := by simp [ncells, N.cells, hidl]
          rw [e]
          exact hown9
        have HG9 := Lib.hid hgrow9
        refine hK _ _ (fun _ => hS9.out) ?_
        simp only [Act.put, List.setIfInBounds_toArray, List.set_cons_zero, List.set_cons_succ]
        refine wpAnyT_put (i := 21) (d := 75) (v := .pointer (some ⟨bb, 0, none⟩)) (by kernel_rfl) (by kernel_rfl) (fun _ _ _ h => h) ?_ hS9.out ?_
        · intro oi ho
          simp only [List.getElem?_toArray, List.getElem?_cons_succ, List.getElem?_cons_zero, Option.some.injEq] at ho
          subst ho
          rintro wq ⟨c0, c1, c2, c3⟩
          go_simp
        simp only [Act.put, List.setIfInBounds_toArray, List.set_cons_zero, List.set_cons_succ]
        refine wpAnyT_put (i := 22) (d := 76) (v := .pointer (some ⟨bb, 0, none⟩)) (by kernel_rfl) (by kernel_rfl) (fun _ _ _ h => h) ?_ hS9.out ?_
        · intro oi ho
          simp only [List.getElem?_toArray, List.getElem?_cons_succ, List.getElem?_cons_zero, Option.some.injEq] at ho
          subst ho
          rintro wq ⟨c0, c1, c2, c3⟩
          go_simp
        simp only [Act.put, List.setIfInBounds_toArray, List.set_cons_zero, List.set_cons_succ]
        refine wpAnyT_lone (i := 23) (by kernel_rfl) (by kernel_rfl) ?_
        intro oi ho K hK
        simp only [List.getElem?_toArray, List.getElem?_cons_succ, List.getElem?_cons_zero, Option.some.injEq] at ho
        subst ho
        obtain ⟨_, _, c2, c3⟩ := hS9.out
        clear hgrow9 hown9 b8 b9 b7
        go_simp
        refine hK _ _ (fun h => absurd h (by decide)) ?_
        refine wpAnyT_done (by kernel_rfl) ?_ _
        go_wp2_with fail
        go_ret
        have hok9 : N.ok ⟨X, ca, cc⟩ := by
          rw [hX]
          refine ⟨HX.out.1, ?_, HX.out.2, by simp only; omega, fun z hz => ?_, fun e => HCN.out e⟩
          · have := wid_range (gs lk) (t := x.t) (by have := HX.out.2; unfold maxLen at this; omega) (insF (gs l) x.c).2
            exact this
          · have := HIDS.out z hz
            unfold I64
            omega
        have hI9 : Ints wr (fun b => (Value.slice ca (insF (gs l) x.c).2.length cc).ownBlock = some b) ca X.c := by rw [hX]; exact HIL.out
        have hg9' : (w7.drew.alloc (.cells #[.int .i64 x.k, .int .i64 (wid (gs lk) x.t (insF (gs l) x.c).2), .string x.t, .slice ca x.c.length cc] 78)).grownBy w9 (Value.slice va lk.length vc).ownBlock := ⟨HG9.out.os, HG9.out.tape, HG9.out.output, HG9.out.size, HG9.out.block⟩
        exact hinv.out.pushed HBW.out HMW.out HB6.out HG7.out HI7.out (Below.refl _ _).drew hg9' hown9'.out hloc9 hok9 hI9 hj.out
end Go.Proofs.YtbgahkicinkgfaaGreat
