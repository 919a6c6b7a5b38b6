/-
  glossatorref4.MergeEdits by its contract.
-/
import Derived.Test.YtbkiliiopondaaaRefComp
import Derived.Test.YtbkiliiopondaaaTrWrap
namespace Go.Proofs.Ytbkiliiopondaaa
open Go.RowKit

theorem insAt_insF {n : Int} {l : List Ed} : ∀ {q : Int}, -1 ≤ q → sepFrom n q l = true → ∀ j : Nat, insAt l j = insF l j := by
  induction l with
  | nil => intro q _ _ j; rfl
  | cons x r ih =>
    intro q h0 h j
    rw [sepFrom] at h
    split at h
    · cases h
    · rename_i hc
      by_cases hj : x.s = (j : Int)
      · obtain rfl : j = x.s.toNat := by omega
        rw [ins_yes hj, insF_here (fun y hy => by have := sep_gt h y hy; omega)]
      · rw [ins_no hj, insF_else (by omega), ih (by omega) h j]

theorem delAt_delF (l : List Ed) (j : Nat) : delAt l j = delF l j := by
  induction l with
  | nil => rfl
  | cons x r ih =>
    rw [delF_cons, delAt, ih]
    split
    · rename_i h; rw [decide_eq_true h]; rfl
    · rename_i h; rw [decide_eq_false h]; rfl

theorem trace_take {t : ByteArray} {i : Int} {m : Nat} (h : m < t.size) : (traceFrom i t.data.toList).take (m + 1) = (traceFrom i t.data.toList).take m ++ [⟨t[m], i + m⟩] := by
  have hlt : m < (traceFrom i t.data.toList).length := by rw [trace_length, Array.length_toList]; exact h
  have hx := List.getElem?_eq_getElem hlt
  obtain ⟨h1, h2⟩ := trace_at hx
  rw [str_at t m h] at h2
  rw [List.take_add_one, hx]
  have : (traceFrom i t.data.toList)[m] = ⟨t[m], i + m⟩ := by
    generalize (traceFrom i t.data.toList)[m] = y at *
    obtain ⟨yv, yo⟩ := y
    simp at h1 h2
    rw [h1, h2]
  rw [this]; rfl

/-- The state when j of the two insertions at k have been made. -/
def sideSt (src : List UInt8) (L R : List Ed) (k : Nat) : Nat → MS
  | 0 => mrg src L R k
  | 1 => MS.insL (insF L k) (mrg src L R k)
  | _ + 2 => MS.insR (insF R k) (MS.insL (insF L k) (mrg src L R k))

theorem side_bd (src : List UInt8) (L R : List Ed) (hL : tsum L ≤ 200000) (hR : tsum R ≤ 200000) {k N : Nat} (hN : k * (2 * 200000 + 1) + 400000 ≤ N) (j : Nat) : (sideSt src L R k j).Bd N := by
  have h0 := mrg_bd src L R 200000 hL hR k
  have h1 := Nat.le_trans (insF_le L k) hL
  have h2 := Nat.le_trans (insF_le R k) hR
  obtain ⟨n, hn⟩ : ∃ n, n = k * (2 * 200000 + 1) := ⟨_, rfl⟩
  rw [← hn] at h0 hN
  have h4 := h0.insL (insF L k)
  have h5 := h4.insR (insF R k)
  match j with
  | 0 => exact h0.mono (by omega)
  | 1 => exact h4.mono (by omega)
  | _ + 2 => exact h5.mono (by omega)

theorem mrg_next (src : List UInt8) (L R : List Ed) (k : Nat) : mrg src L R (k + 1) = MS.visAt src L R k (sideSt src L R k 2) := rfl

set_option maxHeartbeats 4000000 in
set_option maxRecDepth 100000 in
theorem refmerge_T (s : ByteArray) (a1 : Option Addr) (c1 : Nat) (L : List Ed) (a2 : Option Addr) (c2 : Nat) (R : List Ed) (w : World) (hn : s.size ≤ 2000) (hL5 : L.length ≤ 50) (hR5 : R.length ≤ 50) (htL : tsum L ≤ 200000) (htR : tsum R ≤ 200000) (hsL : sepFrom s.size (-1) L = true) (hsR : sepFrom s.size (-1) R = true) (h1 : Eds w w.heap.size a1 L) (h2 : Eds w w.heap.size a2 R) :
    Calls Try.prog 24 #[.string s, .slice a1 L.length c1, .slice a2 R.length c2, .bool true] w fun e w' => ∃ v, e = .returned v ∧ Hid (OwnsT 65 w' w.heap.size v (mrgS s L R).fl) ∧ Below w.heap.size w w' := by
  obtain ⟨i0, hi, hz0, hz1, hz2⟩ := info_parts info_tr
  have IL : Hid (∀ (k : Nat) W, Eds W W.heap.size a1 L → Calls Try.prog 36 #[.slice a1 L.length c1, .int .i64 k] W fun e w' => e = .returned (.string (insF L k)) ∧ w' = W) := fun k W hE => by
    rw [← insAt_insF (by omega) hsL k]; exact insat_any a1 c1 L k W (by omega) hE
  have IR : Hid (∀ (k : Nat) W, Eds W W.heap.size a2 R → Calls Try.prog 36 #[.slice a2 R.length c2, .int .i64 k] W fun e w' => e = .returned (.string (insF R k)) ∧ w' = W) := fun k W hE => by
    rw [← insAt_insF (by omega) hsR k]; exact insat_any a2 c2 R k W (by omega) hE
  have DL : Hid (∀ (k : Nat) W, Eds W W.heap.size a1 L → Calls Try.prog 37 #[.slice a1 L.length c1, .int .i64 k] W fun e w' => e = .returned (.bool (delF L k)) ∧ w' = W) := fun k W hE => by
    rw [← delAt_delF]; exact delat_any a1 c1 L k W (by omega) hE
  have DR : Hid (∀ (k : Nat) W, Eds W W.heap.size a2 R → Calls Try.prog 37 #[.slice a2 R.length c2, .int .i64 k] W fun e w' => e = .returned (.bool (delF R k)) ∧ w' = W) := fun k W hE => by
    rw [← delAt_delF]; exact delat_any a2 c2 R k W (by omega) hE
  have BD : Hid (∀ k j : Nat, k ≤ 2000 → (sideSt s.data.toList L R k j).Bd 900000000) := fun k j hk => side_bd s.data.toList L R htL htR (by omega) j
  have ZL : Hid (∀ k, (insF L k).size ≤ 200000) := fun k => Nat.le_trans (insF_le L k) htL
  have ZR : Hid (∀ k, (insF R k).size ≤ 200000) := fun k => Nat.le_trans (insF_le R k) htR
  have HE := Lib.hid h1
  have HF := Lib.hid h2
  clear h1 h2 htL htR hsL hsR
  go_enter Try.func24, Try.ntmps24
  go_wp2_with fail
  go_loopw [10, 11, 12] (fun v c i wr => ∃ (k : Nat) (st : MS), k ≤ s.size ∧ i = .int .i64 k ∧ c = .int .i64 st.ll ∧ Hid (st = mrg s.data.toList L R k) ∧ Hid (OwnsT 65 wr w.heap.size v st.fl) ∧ Below w.heap.size w wr)
    (fun _ _ i _ => s.size + 1 - (intOf i).toNat)
  case atStart => exact ⟨0, ⟨[], [], 0, 0⟩, Nat.zero_le _, rfl, rfl, rfl, World.ownsRow_nil _ _ _ _, Below.refl _ _⟩
  case round =>
    obtain ⟨k, st, hk, rfl, rfl, hst, hown, hb⟩ := hrel
    go_wp2_with fail
    go_loopw [10, 11, 13] (fun v c sd wr => ∃ (j : Nat) (st : MS), j ≤ 2 ∧ sd = .int .i64 j ∧ c = .int .i64 st.ll ∧ Hid (st = sideSt s.data.toList L R k j) ∧ Hid (OwnsT 65 wr w.heap.size v st.fl) ∧ Below w.heap.size w wr)
      (fun _ _ sd _ => 2 - (intOf sd).toNat)
    case atStart => exact ⟨0, st, by omega, rfl, rfl, hst, hown, hb⟩
    case round =>
      clear hst hown hb
      obtain ⟨j, st, hj, rfl, rfl, hst, hown, hb⟩ := hrel
      have hbd : st.Bd 900000000 := by rw [hst.out]; exact BD.out k j (by omega)
      obtain ⟨p1, p2, p3, p4, p5, p6⟩ := hbd
      have hzw := hb.size
      have hj3 : j = 0 ∨ j = 1 ∨ j = 2 := by omega
      rcases hj3 with rfl | rfl | rfl
      · obtain ⟨t, hT⟩ : ∃ t, t = insF L k := ⟨_, rfl⟩
        have hts : t.size ≤ 200000 := by rw [hT]; exact ZL.out k
        have hC := IL.out k wr ((HE.out.below hb).up hzw)
        rw [← hT] at hC
        have HC := Lib.hid hC
        have hst2 : Hid (MS.insL t st = sideSt s.data.toList L R k 1) := by show _ = _; rw [hst.out, hT]; rfl
        clear hT hst hC
        go_wp2_with fail
        refine HC.out.mono ?_
        rintro e w1 ⟨rfl, rfl⟩
        clear HC
        go_wp2_with fail
        obtain ⟨acc, hacc0⟩ : ∃ acc, acc = st.fl := ⟨_, rfl⟩
        have hal0 : acc.length ≤ 900000000 := by rw [hacc0]; omega
        have hown0 : Hid (OwnsT 65 w1 w.heap.size u10 acc) := by rw [hacc0]; exact hown
        go_loopw [10, 11, 17] (fun v c i wr2 => ∃ (m : Nat) (acc2 : List Tb), m ≤ t.size ∧ i = .int .i64 m ∧ c = .int .i64 (st.ll + m) ∧ acc2.length ≤ acc.length + m ∧ Hid (acc2 = acc ++ (traceFrom st.ll t.data.toList).take m) ∧ Hid (OwnsT 65 wr2 w.heap.size v acc2) ∧ Below w.heap.size w wr2)
          (fun _ _ i _ => t.size - (intOf i).toNat)
        case atStart => exact ⟨0, acc, Nat.zero_le _, rfl, by simp, Nat.le_refl _, by show _ = _; simp, hown0, hb⟩
        case round =>
          clear hown hb hzw hown0
          obtain ⟨m, acc2, hm, rfl, rfl, hal, ha2, hown, hb⟩ := hrel
          have hzw := hb.size
          by_cases hmt : m < t.size
          · have ha3 : Hid (acc2 ++ [⟨t[m], (st.ll + m)⟩] = acc ++ (traceFrom st.ll t.data.toList).take (m + 1)) := by show _ = _; rw [ha2.out, trace_take hmt, List.append_assoc]
            clear ha2
            go_wp2_with (at_builtin; refine wpList_append_own _ rfl (.tmp 48) (.tmp 54) 43 rfl w.heap.size 65 i0 _ 2 16 Try.underlying43 hi hz0 hz1 hz2 rfl (by decide) _ _ _ rfl (hown.out.alloc _) ⟨wr.heap.size, 0, none⟩ 1 1 [.int .u8 t[m].toNat, .int .i64 (st.ll + m)] rfl rfl (World.news_of_block (heap_alloc_new wr _)) (by simp [Value.oneCell']) (by unfold maxLen; omega) (by omega) (by simp; omega) ?_)
            intro v' w3 hown' hgrow _
            have hown3 : Hid (OwnsT 65 w3 w.heap.size v' (acc2 ++ [⟨t[m], st.ll + m⟩])) := by
              show World.ownsRow _ _ _ _ _ _ _
              rw [List.length_append, tbCells_append]
              exact hown'
            have hb3 : Below w.heap.size w w3 := (hb.alloc hzw _).grown hgrow (by simp; omega) (fun j hj => (hown.out.lt j hj).1)
            clear hown' hgrow hown
            go_wp2_with fail
            go_roundw
            case rel => exact ⟨m + 1, _, by omega, by go_num, by go_num, by simp; omega, ha3, hown3, hb3⟩
            case measure => simp [intOf]; omega
          · obtain rfl : m = t.size := by omega
            have ha3 : Hid (OwnsT 65 wr w.heap.size u10 (MS.insL t st).fl) := by
              have := ha2.out
              rw [List.take_of_length_le (by rw [trace_length, Array.length_toList]; show t.size ≤ t.size; omega), hacc0] at this
              rw [this] at hown
              exact hown
            have hcn : Hid ((st.ll + t.size) = (MS.insL t st).ll) := rfl
            clear ha2 hown hacc0 hmt
            go_wp2_with fail
            go_roundw
            case rel => exact ⟨1, MS.insL t st, by omega, by go_num, by rw [← hcn.out], hst2, ha3, hb⟩
            case measure => simp [intOf]
      · obtain ⟨t, hT⟩ : ∃ t, t = insF R k := ⟨_, rfl⟩
        have hts : t.size ≤ 200000 := by rw [hT]; exact ZR.out k
        have hC := IR.out k wr ((HF.out.below hb).up hzw)
        rw [← hT] at hC
        have HC := Lib.hid hC
        have hst2 : Hid (MS.insR t st = sideSt s.data.toList L R k 2) := by show _ = _; rw [hst.out, hT]; rfl
        clear hT hst hC
        go_wp2_with fail
        refine HC.out.mono ?_
        rintro e w1 ⟨rfl, rfl⟩
        clear HC
        go_wp2_with fail
        obtain ⟨acc, hacc0⟩ : ∃ acc, acc = st.fl := ⟨_, rfl⟩
        have hal0 : acc.length ≤ 900000000 := by rw [hacc0]; omega
        have hown0 : Hid (OwnsT 65 w1 w.heap.size u10 acc) := by rw [hacc0]; exact hown
        go_loopw [10, 11, 17] (fun v c i wr2 => ∃ (m : Nat) (acc2 : List Tb), m ≤ t.size ∧ i = .int .i64 m ∧ c = .int .i64 st.ll ∧ acc2.length ≤ acc.length + m ∧ Hid (acc2 = acc ++ (insT t).take m) ∧ Hid (OwnsT 65 wr2 w.heap.size v acc2) ∧ Below w.heap.size w wr2)
          (fun _ _ i _ => t.size - (intOf i).toNat)
        case atStart => exact ⟨0, acc, Nat.zero_le _, rfl, rfl, Nat.le_refl _, by show _ = _; simp, hown0, hb⟩
        case round =>
          clear hown hb hzw hown0
          obtain ⟨m, acc2, hm, rfl, rfl, hal, ha2, hown, hb⟩ := hrel
          have hzw := hb.size
          by_cases hmt : m < t.size
          · have ha3 : Hid (acc2 ++ [⟨t[m], -1⟩] = acc ++ (insT t).take (m + 1)) := by show _ = _; rw [ha2.out, ins_step hmt, List.append_assoc]
            clear ha2
            go_wp2_with (at_builtin; refine wpList_append_own _ rfl (.tmp 58) (.tmp 63) 43 rfl w.heap.size 65 i0 _ 2 16 Try.underlying43 hi hz0 hz1 hz2 rfl (by decide) _ _ _ rfl (hown.out.alloc _) ⟨wr.heap.size, 0, none⟩ 1 1 [.int .u8 t[m].toNat, .int .i64 (-1)] rfl rfl (World.news_of_block (heap_alloc_new wr _)) (by simp [Value.oneCell']) (by unfold maxLen; omega) (by omega) (by simp; omega) ?_)
            intro v' w3 hown' hgrow _
            have hown3 : Hid (OwnsT 65 w3 w.heap.size v' (acc2 ++ [⟨t[m], -1⟩])) := by
              show World.ownsRow _ _ _ _ _ _ _
              rw [List.length_append, tbCells_append]
              exact hown'
            have hb3 : Below w.heap.size w w3 := (hb.alloc hzw _).grown hgrow (by simp; omega) (fun j hj => (hown.out.lt j hj).1)
            clear hown' hgrow hown
            go_wp2_with fail
            go_roundw
            case rel => exact ⟨m + 1, _, by omega, by go_num, rfl, by simp; omega, ha3, hown3, hb3⟩
            case measure => simp [intOf]; omega
          · obtain rfl : m = t.size := by omega
            have ha3 : Hid (OwnsT 65 wr w.heap.size u10 (MS.insR t st).fl) := by
              have := ha2.out
              rw [List.take_of_length_le (by rw [insT_length]; omega), hacc0] at this
              rw [this] at hown
              exact hown
            have hcn : Hid (st.ll = (MS.insR t st).ll) := rfl
            clear ha2 hown hacc0 hmt
            go_wp2_with fail
            go_roundw
            case rel => exact ⟨2, MS.insR t st, by omega, by go_num, by rw [← hcn.out], hst2, ha3, hb⟩
            case measure => simp [intOf]
      · have hstk := hst
        by_cases hlt : k < s.size
        · have hnx : Hid (mrg s.data.toList L R (k + 1) = MS.vis s[k] (delF L k) (delF R k) st) := by
            show _ = _
            rw [mrg_next, ← hst.out, MS.visAt, str_at s k hlt]
          have CL := Lib.hid (DL.out k wr ((HE.out.below hb).up hzw))
          have CR := Lib.hid (DR.out k wr ((HF.out.below hb).up hzw))
          clear hst hstk
          cases hld : delF L k <;> cases hrd : delF R k <;> (rw [hld, hrd] at hnx; rw [hld] at CL; rw [hrd] at CR; have HLD := Lib.hid hld; have HRD := Lib.hid hrd; clear hld hrd)
          · go_wp2_with fail
            refine CL.out.mono ?_
            rintro e w3 ⟨rfl, rfl⟩
            go_wp2_with fail
            refine CR.out.mono ?_
            rintro e w4 ⟨rfl, rfl⟩
            go_wp2_with (at_builtin; refine wpList_append_own _ rfl (.tmp 79) (.tmp 85) 43 rfl w.heap.size 65 i0 _ 2 16 Try.underlying43 hi hz0 hz1 hz2 rfl (by decide) _ _ _ rfl (hown.out.alloc _) ⟨w4.heap.size, 0, none⟩ 1 1 [.int .u8 s[k].toNat, .int .i64 (st.ll)] rfl rfl (World.news_of_block (heap_alloc_new w4 _)) (by simp [Value.oneCell']) (by unfold maxLen; omega) (by omega) (by simp; omega) ?_)
            intro v' w5 hown' hgrow _
            have hown3 : Hid (OwnsT 65 w5 w.heap.size v' (st.fl ++ [⟨s[k], st.ll⟩])) := by
              show World.ownsRow _ _ _ _ _ _ _
              rw [List.length_append, tbCells_append]
              exact hown'
            have hb3 : Below w.heap.size w w5 := (hb.alloc hzw _).grown hgrow (by simp; omega) (fun j hj => (hown.out.lt j hj).1)
            clear hown' hgrow hown
            have HE5 := Lib.hid ((HE.out.below hb3).up hb3.size)
            have HF5 := Lib.hid ((HF.out.below hb3).up hb3.size)
            go_wp2_with fail
            refine (DL.out k w5 HE5.out).mono ?_
            rintro e w6 ⟨he, rfl⟩
            rw [HLD.out] at he
            subst he
            go_wp2_with fail
            go_roundw
            case rel => exact ⟨k + 1, MS.vis s[k] false false st, by omega, by go_num, rfl, hnx.out.symm, hown3, hb3⟩
            case measure => simp [intOf]; omega
          · go_wp2_with fail
            refine CL.out.mono ?_
            rintro e w3 ⟨rfl, rfl⟩
            go_wp2_with fail
            refine CR.out.mono ?_
            rintro e w4 ⟨rfl, rfl⟩
            go_wp2_with fail
            refine CL.out.mono ?_
            rintro e w6 ⟨rfl, rfl⟩
            go_wp2_with fail
            go_roundw
            case rel => exact ⟨k + 1, MS.vis s[k] false true st, by omega, by go_num, rfl, hnx.out.symm, hown, hb⟩
            case measure => simp [intOf]; omega
          · go_wp2_with fail
            refine CL.out.mono ?_
            rintro e w3 ⟨rfl, rfl⟩
            go_wp2_with fail
            refine CL.out.mono ?_
            rintro e w6 ⟨rfl, rfl⟩
            go_wp2_with fail
            go_roundw
            case rel => exact ⟨k + 1, MS.vis s[k] true false st, by omega, by go_num, rfl, hnx.out.symm, hown, hb⟩
            case measure => simp [intOf]; omega
          · go_wp2_with fail
            refine CL.out.mono ?_
            rintro e w3 ⟨rfl, rfl⟩
            go_wp2_with fail
            refine CL.out.mono ?_
            rintro e w6 ⟨rfl, rfl⟩
            go_wp2_with fail
            go_roundw
            case rel => exact ⟨k + 1, MS.vis s[k] true true st, by omega, by go_num, rfl, hnx.out.symm, hown, hb⟩
            case measure => simp [intOf]; omega
        · have hfin : Hid (OwnsT 65 wr w.heap.size u10 (mrgS s L R).fl) := by
            have e1 : k = s.size := by omega
            rw [mrgS, mrg_next, ← e1, ← hst.out, MS.visAt, List.getElem?_eq_none (by rw [Array.length_toList]; show s.size ≤ k; omega)]
            exact hown
          obtain rfl : k = s.size := by omega
          clear hst hstk hown
          go_wp2_with fail
          go_ret
          exact ⟨_, rfl, hfin, hb⟩

set_option maxHeartbeats 4000000 in
set_option maxRecDepth 100000 in
theorem refmerge_F (s : ByteArray) (a1 : Option Addr) (c1 : Nat) (L : List Ed) (a2 : Option Addr) (c2 : Nat) (R : List Ed) (w : World) (hn : s.size ≤ 2000) (hL5 : L.length ≤ 50) (hR5 : R.length ≤ 50) (htL : tsum L ≤ 200000) (htR : tsum R ≤ 200000) (hsL : sepFrom s.size (-1) L = true) (hsR : sepFrom s.size (-1) R = true) (h1 : Eds w w.heap.size a1 L) (h2 : Eds w w.heap.size a2 R) :
    Calls Try.prog 24 #[.string s, .slice a1 L.length c1, .slice a2 R.length c2, .bool false] w fun e w' => ∃ v, e = .returned v ∧ Hid (OwnsT 65 w' w.heap.size v (mrgS s L R).fr) ∧ Below w.heap.size w w' := by
  obtain ⟨i0, hi, hz0, hz1, hz2⟩ := info_parts info_tr
  have IL : Hid (∀ (k : Nat) W, Eds W W.heap.size a1 L → Calls Try.prog 36 #[.slice a1 L.length c1, .int .i64 k] W fun e w' => e = .returned (.string (insF L k)) ∧ w' = W) := fun k W hE => by
    rw [← insAt_insF (by omega) hsL k]; exact insat_any a1 c1 L k W (by omega) hE
  have IR : Hid (∀ (k : Nat) W, Eds W W.heap.size a2 R → Calls Try.prog 36 #[.slice a2 R.length c2, .int .i64 k] W fun e w' => e = .returned (.string (insF R k)) ∧ w' = W) := fun k W hE => by
    rw [← insAt_insF (by omega) hsR k]; exact insat_any a2 c2 R k W (by omega) hE
  have DL : Hid (∀ (k : Nat) W, Eds W W.heap.size a1 L → Calls Try.prog 37 #[.slice a1 L.length c1, .int .i64 k] W fun e w' => e = .returned (.bool (delF L k)) ∧ w' = W) := fun k W hE => by
    rw [← delAt_delF]; exact delat_any a1 c1 L k W (by omega) hE
  have DR : Hid (∀ (k : Nat) W, Eds W W.heap.size a2 R → Calls Try.prog 37 #[.slice a2 R.length c2, .int .i64 k] W fun e w' => e = .returned (.bool (delF R k)) ∧ w' = W) := fun k W hE => by
    rw [← delAt_delF]; exact delat_any a2 c2 R k W (by omega) hE
  have BD : Hid (∀ k j : Nat, k ≤ 2000 → (sideSt s.data.toList L R k j).Bd 900000000) := fun k j hk => side_bd s.data.toList L R htL htR (by omega) j
  have ZL : Hid (∀ k, (insF L k).size ≤ 200000) := fun k => Nat.le_trans (insF_le L k) htL
  have ZR : Hid (∀ k, (insF R k).size ≤ 200000) := fun k => Nat.le_trans (insF_le R k) htR
  have HE := Lib.hid h1
  have HF := Lib.hid h2
  clear h1 h2 htL htR hsL hsR
  go_enter Try.func24, Try.ntmps24
  go_wp2_with fail
  go_loopw [10, 11, 12] (fun v c i wr => ∃ (k : Nat) (st : MS), k ≤ s.size ∧ i = .int .i64 k ∧ c = .int .i64 st.rl ∧ Hid (st = mrg s.data.toList L R k) ∧ Hid (OwnsT 65 wr w.heap.size v st.fr) ∧ Below w.heap.size w wr)
    (fun _ _ i _ => s.size + 1 - (intOf i).toNat)
  case atStart => exact ⟨0, ⟨[], [], 0, 0⟩, Nat.zero_le _, rfl, rfl, rfl, World.ownsRow_nil _ _ _ _, Below.refl _ _⟩
  case round =>
    obtain ⟨k, st, hk, rfl, rfl, hst, hown, hb⟩ := hrel
    go_wp2_with fail
    go_loopw [10, 11, 13] (fun v c sd wr => ∃ (j : Nat) (st : MS), j ≤ 2 ∧ sd = .int .i64 j ∧ c = .int .i64 st.rl ∧ Hid (st = sideSt s.data.toList L R k j) ∧ Hid (OwnsT 65 wr w.heap.size v st.fr) ∧ Below w.heap.size w wr)
      (fun _ _ sd _ => 2 - (intOf sd).toNat)
    case atStart => exact ⟨0, st, by omega, rfl, rfl, hst, hown, hb⟩
    case round =>
      clear hst hown hb
      obtain ⟨j, st, hj, rfl, rfl, hst, hown, hb⟩ := hrel
      have hbd : st.Bd 900000000 := by rw [hst.out]; exact BD.out k j (by omega)
      obtain ⟨p1, p2, p3, p4, p5, p6⟩ := hbd
      have hzw := hb.size
      have hj3 : j = 0 ∨ j = 1 ∨ j = 2 := by omega
      rcases hj3 with rfl | rfl | rfl
      · obtain ⟨t, hT⟩ : ∃ t, t = insF L k := ⟨_, rfl⟩
        have hts : t.size ≤ 200000 := by rw [hT]; exact ZL.out k
        have hC := IL.out k wr ((HE.out.below hb).up hzw)
        rw [← hT] at hC
        have HC := Lib.hid hC
        have hst2 : Hid (MS.insL t st = sideSt s.data.toList L R k 1) := by show _ = _; rw [hst.out, hT]; rfl
        clear hT hst hC
        go_wp2_with fail
        refine HC.out.mono ?_
        rintro e w1 ⟨rfl, rfl⟩
        clear HC
        go_wp2_with fail
        obtain ⟨acc, hacc0⟩ : ∃ acc, acc = st.fr := ⟨_, rfl⟩
        have hal0 : acc.length ≤ 900000000 := by rw [hacc0]; omega
        have hown0 : Hid (OwnsT 65 w1 w.heap.size u10 acc) := by rw [hacc0]; exact hown
        go_loopw [10, 11, 17] (fun v c i wr2 => ∃ (m : Nat) (acc2 : List Tb), m ≤ t.size ∧ i = .int .i64 m ∧ c = .int .i64 st.rl ∧ acc2.length ≤ acc.length + m ∧ Hid (acc2 = acc ++ (insT t).take m) ∧ Hid (OwnsT 65 wr2 w.heap.size v acc2) ∧ Below w.heap.size w wr2)
          (fun _ _ i _ => t.size - (intOf i).toNat)
        case atStart => exact ⟨0, acc, Nat.zero_le _, rfl, rfl, Nat.le_refl _, by show _ = _; simp, hown0, hb⟩
        case round =>
          clear hown hb hzw hown0
          obtain ⟨m, acc2, hm, rfl, rfl, hal, ha2, hown, hb⟩ := hrel
          have hzw := hb.size
          by_cases hmt : m < t.size
          · have ha3 : Hid (acc2 ++ [⟨t[m], -1⟩] = acc ++ (insT t).take (m + 1)) := by show _ = _; rw [ha2.out, ins_step hmt, List.append_assoc]
            clear ha2
            go_wp2_with (at_builtin; refine wpList_append_own _ rfl (.tmp 58) (.tmp 63) 43 rfl w.heap.size 65 i0 _ 2 16 Try.underlying43 hi hz0 hz1 hz2 rfl (by decide) _ _ _ rfl (hown.out.alloc _) ⟨wr.heap.size, 0, none⟩ 1 1 [.int .u8 t[m].toNat, .int .i64 (-1)] rfl rfl (World.news_of_block (heap_alloc_new wr _)) (by simp [Value.oneCell']) (by unfold maxLen; omega) (by omega) (by simp; omega) ?_)
            intro v' w3 hown' hgrow _
            have hown3 : Hid (OwnsT 65 w3 w.heap.size v' (acc2 ++ [⟨t[m], -1⟩])) := by
              show World.ownsRow _ _ _ _ _ _ _
              rw [List.length_append, tbCells_append]
              exact hown'
            have hb3 : Below w.heap.size w w3 := (hb.alloc hzw _).grown hgrow (by simp; omega) (fun j hj => (hown.out.lt j hj).1)
            clear hown' hgrow hown
            go_wp2_with fail
            go_roundw
            case rel => exact ⟨m + 1, _, by omega, by go_num, rfl, by simp; omega, ha3, hown3, hb3⟩
            case measure => simp [intOf]; omega
          · obtain rfl : m = t.size := by omega
            have ha3 : Hid (OwnsT 65 wr w.heap.size u10 (MS.insL t st).fr) := by
              have := ha2.out
              rw [List.take_of_length_le (by rw [insT_length]; omega), hacc0] at this
              rw [this] at hown
              exact hown
            have hcn : Hid (st.rl = (MS.insL t st).rl) := rfl
            clear ha2 hown hacc0 hmt
            go_wp2_with fail
            go_roundw
            case rel => exact ⟨1, MS.insL t st, by omega, by go_num, by rw [← hcn.out], hst2, ha3, hb⟩
            case measure => simp [intOf]
      · obtain ⟨t, hT⟩ : ∃ t, t = insF R k := ⟨_, rfl⟩
        have hts : t.size ≤ 200000 := by rw [hT]; exact ZR.out k
        have hC := IR.out k wr ((HF.out.below hb).up hzw)
        rw [← hT] at hC
        have HC := Lib.hid hC
        have hst2 : Hid (MS.insR t st = sideSt s.data.toList L R k 2) := by show _ = _; rw [hst.out, hT]; rfl
        clear hT hst hC
        go_wp2_with fail
        refine HC.out.mono ?_
        rintro e w1 ⟨rfl, rfl⟩
        clear HC
        go_wp2_with fail
        obtain ⟨acc, hacc0⟩ : ∃ acc, acc = st.fr := ⟨_, rfl⟩
        have hal0 : acc.length ≤ 900000000 := by rw [hacc0]; omega
        have hown0 : Hid (OwnsT 65 w1 w.heap.size u10 acc) := by rw [hacc0]; exact hown
        go_loopw [10, 11, 17] (fun v c i wr2 => ∃ (m : Nat) (acc2 : List Tb), m ≤ t.size ∧ i = .int .i64 m ∧ c = .int .i64 (st.rl + m) ∧ acc2.length ≤ acc.length + m ∧ Hid (acc2 = acc ++ (traceFrom st.rl t.data.toList).take m) ∧ Hid (OwnsT 65 wr2 w.heap.size v acc2) ∧ Below w.heap.size w wr2)
          (fun _ _ i _ => t.size - (intOf i).toNat)
        case atStart => exact ⟨0, acc, Nat.zero_le _, rfl, by simp, Nat.le_refl _, by show _ = _; simp, hown0, hb⟩
        case round =>
          clear hown hb hzw hown0
          obtain ⟨m, acc2, hm, rfl, rfl, hal, ha2, hown, hb⟩ := hrel
          have hzw := hb.size
          by_cases hmt : m < t.size
          · have ha3 : Hid (acc2 ++ [⟨t[m], (st.rl + m)⟩] = acc ++ (traceFrom st.rl t.data.toList).take (m + 1)) := by show _ = _; rw [ha2.out, trace_take hmt, List.append_assoc]
            clear ha2
            go_wp2_with (at_builtin; refine wpList_append_own _ rfl (.tmp 48) (.tmp 54) 43 rfl w.heap.size 65 i0 _ 2 16 Try.underlying43 hi hz0 hz1 hz2 rfl (by decide) _ _ _ rfl (hown.out.alloc _) ⟨wr.heap.size, 0, none⟩ 1 1 [.int .u8 t[m].toNat, .int .i64 (st.rl + m)] rfl rfl (World.news_of_block (heap_alloc_new wr _)) (by simp [Value.oneCell']) (by unfold maxLen; omega) (by omega) (by simp; omega) ?_)
            intro v' w3 hown' hgrow _
            have hown3 : Hid (OwnsT 65 w3 w.heap.size v' (acc2 ++ [⟨t[m], st.rl + m⟩])) := by
              show World.ownsRow _ _ _ _ _ _ _
              rw [List.length_append, tbCells_append]
              exact hown'
            have hb3 : Below w.heap.size w w3 := (hb.alloc hzw _).grown hgrow (by simp; omega) (fun j hj => (hown.out.lt j hj).1)
            clear hown' hgrow hown
            go_wp2_with fail
            go_roundw
            case rel => exact ⟨m + 1, _, by omega, by go_num, by go_num, by simp; omega, ha3, hown3, hb3⟩
            case measure => simp [intOf]; omega
          · obtain rfl : m = t.size := by omega
            have ha3 : Hid (OwnsT 65 wr w.heap.size u10 (MS.insR t st).fr) := by
              have := ha2.out
              rw [List.take_of_length_le (by rw [trace_length, Array.length_toList]; show t.size ≤ t.size; omega), hacc0] at this
              rw [this] at hown
              exact hown
            have hcn : Hid ((st.rl + t.size) = (MS.insR t st).rl) := rfl
            clear ha2 hown hacc0 hmt
            go_wp2_with fail
            go_roundw
            case rel => exact ⟨2, MS.insR t st, by omega, by go_num, by rw [← hcn.out], hst2, ha3, hb⟩
            case measure => simp [intOf]
      · have hstk := hst
        by_cases hlt : k < s.size
        · have hnx : Hid (mrg s.data.toList L R (k + 1) = MS.vis s[k] (delF L k) (delF R k) st) := by
            show _ = _
            rw [mrg_next, ← hst.out, MS.visAt, str_at s k hlt]
          have CL := Lib.hid (DL.out k wr ((HE.out.below hb).up hzw))
          have CR := Lib.hid (DR.out k wr ((HF.out.below hb).up hzw))
          clear hst hstk
          cases hld : delF L k <;> cases hrd : delF R k <;> (rw [hld, hrd] at hnx; rw [hld] at CL; rw [hrd] at CR; have HLD := Lib.hid hld; have HRD := Lib.hid hrd; clear hld hrd)
          · go_wp2_with fail
            refine CL.out.mono ?_
            rintro e w3 ⟨rfl, rfl⟩
            go_wp2_with fail
            refine CR.out.mono ?_
            rintro e w4 ⟨rfl, rfl⟩
            go_wp2_with (at_builtin; refine wpList_append_own _ rfl (.tmp 79) (.tmp 85) 43 rfl w.heap.size 65 i0 _ 2 16 Try.underlying43 hi hz0 hz1 hz2 rfl (by decide) _ _ _ rfl (hown.out.alloc _) ⟨w4.heap.size, 0, none⟩ 1 1 [.int .u8 s[k].toNat, .int .i64 (st.rl)] rfl rfl (World.news_of_block (heap_alloc_new w4 _)) (by simp [Value.oneCell']) (by unfold maxLen; omega) (by omega) (by simp; omega) ?_)
            intro v' w5 hown' hgrow _
            have hown3 : Hid (OwnsT 65 w5 w.heap.size v' (st.fr ++ [⟨s[k], st.rl⟩])) := by
              show World.ownsRow _ _ _ _ _ _ _
              rw [List.length_append, tbCells_append]
              exact hown'
            have hb3 : Below w.heap.size w w5 := (hb.alloc hzw _).grown hgrow (by simp; omega) (fun j hj => (hown.out.lt j hj).1)
            clear hown' hgrow hown
            have HE5 := Lib.hid ((HE.out.below hb3).up hb3.size)
            have HF5 := Lib.hid ((HF.out.below hb3).up hb3.size)
            go_wp2_with fail
            refine (DR.out k w5 HF5.out).mono ?_
            rintro e w6 ⟨he, rfl⟩
            rw [HRD.out] at he
            subst he
            go_wp2_with fail
            go_roundw
            case rel => exact ⟨k + 1, MS.vis s[k] false false st, by omega, by go_num, rfl, hnx.out.symm, hown3, hb3⟩
            case measure => simp [intOf]; omega
          · go_wp2_with fail
            refine CL.out.mono ?_
            rintro e w3 ⟨rfl, rfl⟩
            go_wp2_with fail
            refine CR.out.mono ?_
            rintro e w4 ⟨rfl, rfl⟩
            go_wp2_with fail
            refine CR.out.mono ?_
            rintro e w6 ⟨rfl, rfl⟩
            go_wp2_with fail
            go_roundw
            case rel => exact ⟨k + 1, MS.vis s[k] false true st, by omega, by go_num, rfl, hnx.out.symm, hown, hb⟩
            case measure => simp [intOf]; omega
          · go_wp2_with fail
            refine CL.out.mono ?_
            rintro e w3 ⟨rfl, rfl⟩
            go_wp2_with fail
            refine CR.out.mono ?_
            rintro e w6 ⟨rfl, rfl⟩
            go_wp2_with fail
            go_roundw
            case rel => exact ⟨k + 1, MS.vis s[k] true false st, by omega, by go_num, rfl, hnx.out.symm, hown, hb⟩
            case measure => simp [intOf]; omega
          · go_wp2_with fail
            refine CL.out.mono ?_
            rintro e w3 ⟨rfl, rfl⟩
            go_wp2_with fail
            refine CR.out.mono ?_
            rintro e w6 ⟨rfl, rfl⟩
            go_wp2_with fail
            go_roundw
            case rel => exact ⟨k + 1, MS.vis s[k] true true st, by omega, by go_num, rfl, hnx.out.symm, hown, hb⟩
            case measure => simp [intOf]; omega
        · have hfin : Hid (OwnsT 65 wr w.heap.size u10 (mrgS s L R).fr) := by
            have e1 : k = s.size := by omega
            rw [mrgS, mrg_next, ← e1, ← hst.out, MS.visAt, List.getElem?_eq_none (by rw [Array.length_toList]; show s.size ≤ k; omega)]
            exact hown
          obtain rfl : k = s.size := by omega
          clear hst hstk hown
          go_wp2_with fail
          go_ret
          exact ⟨_, rfl, hfin, hb⟩
end Go.Proofs.Ytbkiliiopondaaa
