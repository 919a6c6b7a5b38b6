/-
  glossatorref4.applyToTrace by its contract.
-/
import Derived.Test.YtbkiliiopondaaaAttPure
namespace Go.Proofs.Ytbkiliiopondaaa
open Go.RowKit

theorem info_tr : (Try.prog.info? 65).map (fun i => (i.zero, i.size, i.bytes)) = some (some (.agg #[.int .u8 0, .int .i64 0]), 2, 16) := by kernel_rfl

/-- What is still to be written from the k-th offset on. -/
def attR (l : List Ed) (text : List Tb) (k : Nat) : List Tb := if k ≤ text.length then att l k (text.drop k) else []

theorem attR_last {l : List Ed} {text : List Tb} {k : Nat} (h : ¬ k < text.length) (h1 : k ≤ text.length) : attR l text k = insT (insAt l k) ++ attR l text (k + 1) := by
  have e : k = text.length := by omega
  rw [attR, if_pos h1, attR, if_neg (by omega), List.drop_eq_nil_of_le (by omega), att, List.append_nil]

theorem attR_del {l : List Ed} {text : List Tb} {k : Nat} (h : k < text.length) (hd : delAt l k = true) : attR l text k = insT (insAt l k) ++ attR l text (k + 1) := by
  rw [attR, if_pos (by omega), attR, if_pos (by omega), List.drop_eq_getElem_cons h, att, if_pos hd]
  simp

theorem attR_keep {l : List Ed} {text : List Tb} {k : Nat} {x : Tb} (h : text[k]? = some x) (hd : delAt l k = false) : attR l text k = insT (insAt l k) ++ ([x] ++ attR l text (k + 1)) := by
  obtain ⟨h1, rfl⟩ := List.getElem?_eq_some_iff.1 h
  rw [attR, if_pos (by omega), attR, if_pos (by omega), List.drop_eq_getElem_cons h1, att, if_neg (by simp [hd])]
  simp

set_option maxHeartbeats 2000000 in
set_option maxRecDepth 100000 in
theorem att_any (a0 : Option Addr) (c0 : Nat) (text : List Tb) (a : Option Addr) (cap : Nat) (l : List Ed) (w : World) (ht : Tbs w w.heap.size a0 text) (h : Eds w w.heap.size a l) (hl5 : l.length ≤ 50) (htl : text.length ≤ 100000) (hlen : (attR l text 0).length ≤ 100000) :
    Calls Try.prog 35 #[.slice a0 text.length c0, .slice a l.length cap] w fun e w' => ∃ v, e = .returned v ∧ Hid (OwnsT 65 w' w.heap.size v (attR l text 0)) ∧ Below w.heap.size w w' := by
  obtain ⟨i0, hi, hz0, hz1, hz2⟩ := info_parts info_tr
  have HE := Lib.hid h
  have HT := Lib.hid ht
  have hins := fun (k : Nat) W (hE : Eds W W.heap.size a l) => insat_any a cap l k W (by omega) hE
  have hdel := fun (k : Nat) W (hE : Eds W W.heap.size a l) => delat_any a cap l k W (by omega) hE
  have HI := Lib.hid hins
  have HD := Lib.hid hdel
  have HLEN := Lib.hid hlen
  clear h ht hins hdel hlen
  go_enter Try.func35, Try.ntmps35
  go_wp2_with fail
  go_loopw [5, 6] (fun v i wr => ∃ (k : Nat) (acc : List Tb), k ≤ text.length + 1 ∧ i = .int .i64 k ∧ Hid (attR l text 0 = acc ++ attR l text k) ∧ Hid (OwnsT 65 wr w.heap.size v acc) ∧ Below w.heap.size w wr)
    (fun _ i _ => text.length + 1 - (intOf i).toNat)
  case atStart => exact ⟨0, [], Nat.zero_le _, rfl, rfl, World.ownsRow_nil _ _ _ _, Below.refl _ _⟩
  case round =>
    obtain ⟨k, acc, hk, rfl, hacc, hown, hb⟩ := hrel
    have hzw := hb.size
    by_cases hlt : k ≤ text.length
    · obtain ⟨t, hT⟩ : ∃ t, t = insAt l k := ⟨_, rfl⟩
      have hstep : ∃ mid, Hid (attR l text 0 = (acc ++ insT t) ++ (mid ++ attR l text (k + 1))) ∧ ((¬ k < text.length ∧ mid = []) ∨ (k < text.length ∧ delAt l k = true ∧ mid = []) ∨ (∃ x, text[k]? = some x ∧ delAt l k = false ∧ mid = [x])) := by
        by_cases h1 : k < text.length
        · cases hd : delAt l k with
          | true => exact ⟨[], by show _ = _; rw [hacc.out, attR_del h1 hd, hT]; simp, .inr (.inl ⟨h1, rfl, rfl⟩)⟩
          | false => exact ⟨[text[k]], by show _ = _; rw [hacc.out, attR_keep (List.getElem?_eq_getElem h1) hd, hT]; simp, .inr (.inr ⟨_, List.getElem?_eq_getElem h1, rfl, rfl⟩)⟩
        · exact ⟨[], by show _ = _; rw [hacc.out, attR_last h1 hlt, hT]; simp, .inl ⟨h1, rfl⟩⟩
      obtain ⟨mid, hst, hcase⟩ := hstep
      have hbd : acc.length + t.size + mid.length ≤ 100000 := by
        have := HLEN.out
        rw [hst.out, List.length_append, List.length_append, List.length_append, insT_length] at this
        omega
      have hcall := HI.out k wr ((HE.out.below hb).up hzw)
      rw [← hT] at hcall
      clear hT hacc
      have HC := Lib.hid hcall
      clear hcall
      go_wp2_with fail
      refine HC.out.mono ?_
      rintro e w1 ⟨rfl, rfl⟩
      clear HC
      go_wp2_with fail
      go_loopw [5, 8] (fun v j wr2 => ∃ (m : Nat) (acc2 : List Tb), m ≤ t.size ∧ j = .int .i64 m ∧ acc2.length ≤ acc.length + m ∧ Hid (acc2 = acc ++ (insT t).take m) ∧ Hid (OwnsT 65 wr2 w.heap.size v acc2) ∧ Below w.heap.size w wr2)
        (fun _ j _ => t.size - (intOf j).toNat)
      case atStart => exact ⟨0, acc, Nat.zero_le _, rfl, Nat.le_refl _, by show _ = _; simp, hown, hb⟩
      case round =>
        clear hown hb hzw
        obtain ⟨m, acc2, hm, rfl, hal, ha2, hown, hb⟩ := hrel
        have hzw := hb.size
        by_cases hmt : m < t.size
        · have ha3 : Hid (acc2 ++ [⟨t[m], -1⟩] = acc ++ (insT t).take (m + 1)) := by show _ = _; rw [ha2.out, ins_step hmt, List.append_assoc]
          clear ha2
          go_wp2_with (at_builtin; refine wpList_append_own _ rfl (.tmp 24) (.tmp 29) 43 rfl w.heap.size 65 i0 _ 2 16 Try.underlying43 hi hz0 hz1 hz2 rfl (by decide) _ _ _ rfl (hown.out.alloc _) ⟨wr.heap.size, 0, none⟩ 1 1 [.int .u8 t[m].toNat, .int .i64 (-1)] rfl rfl (World.news_of_block (heap_alloc_new wr _)) (by simp [Value.oneCell']) (by unfold maxLen; omega) (by omega) (by simp; omega) ?_)
          intro v' w3 hown' hgrow _
          have hown3 : Hid (OwnsT 65 w3 w.heap.size v' (acc2 ++ [⟨t[m], -1⟩])) := by
            show World.ownsRow _ _ _ _ _ _ _
            rw [List.length_append, tbCells_append]
            exact hown'
          have hb3 : Below w.heap.size w w3 := (hb.alloc hzw _).grown hgrow (by simp; omega) (fun j hj => (hown.out.lt j hj).1)
          clear hown' hgrow hown
          go_wp2_with fail
          go_roundw
          case rel => exact ⟨m + 1, _, by omega, by go_num, by simp; omega, ha3, hown3, hb3⟩
          case measure => simp [intOf]; omega
        · have ha3 : Hid (attR l text 0 = acc2 ++ (mid ++ attR l text (k + 1))) := by
            show _ = _
            rw [hst.out, ha2.out, List.take_of_length_le (by rw [insT_length]; omega)]
          have hal2 : acc2.length ≤ acc.length + t.size := by omega
          clear ha2 hst
          have HD1 := Lib.hid (HD.out k wr ((HE.out.below hb).up hzw))
          rcases hcase with ⟨h1, rfl⟩ | ⟨h1, hd, rfl⟩ | ⟨x, hx, hd, rfl⟩
          · go_wp2_with fail
            go_roundw
            case rel => exact ⟨k + 1, acc2, by omega, by go_num, ha3, hown, hb⟩
            case measure => simp [intOf]; omega
          · rw [hd] at HD1
            go_wp2_with fail
            refine HD1.out.mono ?_
            rintro e w3 ⟨rfl, rfl⟩
            go_wp2_with fail
            go_roundw
            case rel => exact ⟨k + 1, acc2, by omega, by go_num, ha3, hown, hb⟩
            case measure => simp [intOf]; omega
          · rw [hd] at HD1
            have h1 : k < text.length := (List.getElem?_eq_some_iff.1 hx).1
            obtain ⟨b0, o0, rfl, hbl0, g0, g1⟩ := (HT.out.below hb) k x hx
            have Hx := Lib.hid hx
            clear hx
            go_wp2_with fail
            refine HD1.out.mono ?_
            rintro e w3 ⟨rfl, rfl⟩
            clear HD1 hd
            simp only [List.length_cons, List.length_nil] at hbd
            go_wp2_with (at_builtin; refine wpList_append_own _ rfl (.tmp 41) (.tmp 46) 43 rfl w.heap.size 65 i0 _ 2 16 Try.underlying43 hi hz0 hz1 hz2 rfl (by decide) _ _ _ rfl (hown.out.alloc _) ⟨w3.heap.size, 0, none⟩ 1 1 [.int .u8 x.v.toNat, .int .i64 x.o] rfl rfl (World.news_of_block (heap_alloc_new w3 _)) (by simp [Value.oneCell']) (by unfold maxLen; omega) (by omega) (by simp; omega) ?_)
            intro v' w4 hown' hgrow _
            have hown3 : Hid (OwnsT 65 w4 w.heap.size v' (acc2 ++ [x])) := by
              show World.ownsRow _ _ _ _ _ _ _
              rw [List.length_append, tbCells_append]
              exact hown'
            have hb3 : Below w.heap.size w w4 := (hb.alloc hzw _).grown hgrow (by simp; omega) (fun j hj => (hown.out.lt j hj).1)
            have ha4 : Hid (attR l text 0 = (acc2 ++ [x]) ++ attR l text (k + 1)) := by show _ = _; rw [ha3.out, List.append_assoc]
            clear hown' hgrow hown ha3
            go_wp2_with fail
            go_roundw
            case rel => exact ⟨k + 1, _, by omega, by go_num, ha4, hown3, hb3⟩
            case measure => simp [intOf]; omega
    · have hfin : Hid (OwnsT 65 wr w.heap.size u5 (attR l text 0)) := by
        have := hacc.out
        have e : attR l text k = [] := by rw [attR, if_neg hlt]
        rw [e, List.append_nil] at this
        rw [this]
        exact hown
      go_wp2_with fail
      go_ret
      exact ⟨_, rfl, hfin, hb⟩
end Go.Proofs.Ytbkiliiopondaaa
