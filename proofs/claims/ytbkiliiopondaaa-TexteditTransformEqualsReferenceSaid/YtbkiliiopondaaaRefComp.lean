/-
  glossatorref4.ComposeEdits by its contract.
-/
import Derived.Test.YtbkiliiopondaaaRefCanon
import Derived.Test.YtbkiliiopondaaaWrap
namespace Go.Proofs.Ytbkiliiopondaaa
open Go.RowKit

theorem att0 {n : Int} {text : List Tb} (hn : n = text.length) {l : List Ed} (h : sepFrom n (-1) l = true) : attR l text 0 = rewL text l := by
  rw [attR, if_pos (Nat.zero_le _), ← att_all hn h]; rfl

theorem good_rising0 {s : ByteArray} {l : List Tb} (h : Good s.data.toList l) : Rising s.size 0 l := by
  have := good_rising (p := 0) (by omega) h (fun x hx ho => (h.2 x hx ho).1)
  rw [← Lib.size_eq] at this
  exact this

set_option maxHeartbeats 1000000 in
set_option maxRecDepth 100000 in
theorem refcomp_any (s : ByteArray) (a1 : Option Addr) (c1 : Nat) (l1 : List Ed) (a2 : Option Addr) (c2 : Nat) (l2 : List Ed) (w : World) (he1 : errV s.size l1 = 0) (he2 : errV (applyS s l1).size l2 = 0) (h1 : Eds w w.heap.size a1 l1) (h2 : Eds w w.heap.size a2 l2) :
    Calls Try.prog 23 #[.string s, .slice a1 l1.length c1, .slice a2 l2.length c2] w fun e w' => ∃ v, e = .returned (.tuple #[v, .bool (canonB s.size (finalT s l1 l2))]) ∧ Hid (Owns w' w.heap.size v (canonV s.size (finalT s l1 l2))) ∧ Below w.heap.size w w' := by
  obtain ⟨i0, hi, hz0, hz1, hz2⟩ := info_parts info_tr
  obtain ⟨hn1, hl15, hsep1, _⟩ := errV_zero he1
  obtain ⟨hn2, hl25, hsep2, _⟩ := errV_zero he2
  have hm1 := mid_length s l1
  have hf1 := final_le he2
  have htl : (traceL s.data.toList).length = s.size := by rw [traceL, trace_length, ← Lib.size_eq]
  have q1 : attR l1 (traceL s.data.toList) 0 = rewL (traceL s.data.toList) l1 := att0 (n := s.size) (by rw [htl]) hsep1
  have q2 : attR l2 (rewL (traceL s.data.toList) l1) 0 = finalT s l1 l2 := att0 (n := (applyS s l1).size) (by rw [hm1]) hsep2
  have hor : Orig s.size (finalT s l1 l2) := orig_rew (orig_rew (by rw [Lib.size_eq]; exact orig_trace _) (by omega)) (by omega)
  have K1 : Hid (∀ W a0 c0, Tbs W W.heap.size a0 (traceL s.data.toList) → Eds W W.heap.size a1 l1 → Calls Try.prog 35 #[.slice a0 s.size c0, .slice a1 l1.length c1] W fun e w' => ∃ v, e = .returned v ∧ Hid (OwnsT 65 w' W.heap.size v (rewL (traceL s.data.toList) l1)) ∧ Below W.heap.size W w') := fun W a0 c0 hT hE => by
    have := att_any a0 c0 (traceL s.data.toList) a1 c1 l1 W hT hE hl15 (by omega) (by rw [q1]; omega)
    rw [q1, htl] at this
    exact this
  have K2 : Hid (∀ W a0 c0, Tbs W W.heap.size a0 (rewL (traceL s.data.toList) l1) → Eds W W.heap.size a2 l2 → Calls Try.prog 35 #[.slice a0 (rewL (traceL s.data.toList) l1).length c0, .slice a2 l2.length c2] W fun e w' => ∃ v, e = .returned v ∧ Hid (OwnsT 65 w' W.heap.size v (finalT s l1 l2)) ∧ Below W.heap.size W w') := fun W a0 c0 hT hE => by
    have := att_any a0 c0 (rewL (traceL s.data.toList) l1) a2 c2 l2 W hT hE hl25 (by omega) (by rw [q2]; omega)
    rw [q2] at this
    exact this
  have K3 : Hid (∀ W a0 c0, Tbs W W.heap.size a0 (finalT s l1 l2) → Calls Try.prog 25 #[.int .i64 s.size, .slice a0 (finalT s l1 l2).length c0] W fun e w' => ∃ v, e = .returned (.tuple #[v, .bool (canonB s.size (finalT s l1 l2))]) ∧ Hid (Owns w' W.heap.size v (canonV s.size (finalT s l1 l2))) ∧ Below W.heap.size W w') := fun W a0 c0 hT =>
    refcanon_any s.size a0 c0 (finalT s l1 l2) W (by omega) (by omega) (by omega) (fun x hx => (hor x hx).1) (good_rising0 (final_good he1 he2)) hT
  have E0 := Lib.hid h1
  have F0 := Lib.hid h2
  clear hor q1 q2 hsep1 hsep2 he1 he2 h1 h2 htl hm1 hf1
  generalize rewL (traceL s.data.toList) l1 = mid at *
  generalize finalT s l1 l2 = fin at *
  go_enter Try.func23, Try.ntmps23
  go_wp2_with fail
  go_loopw [8, 9] (fun v i wr => ∃ (k : Nat) (acc : List Tb), k ≤ s.size ∧ i = .int .i64 k ∧ acc.length ≤ k ∧ Hid (traceL s.data.toList = acc ++ traceFrom k (s.data.toList.drop k)) ∧ Hid (OwnsT 65 wr w.heap.size v acc) ∧ Below w.heap.size w wr)
    (fun _ i _ => s.size - (intOf i).toNat)
  case atStart => exact ⟨0, [], Nat.zero_le _, rfl, Nat.le_refl _, rfl, World.ownsRow_nil _ _ _ _, Below.refl _ _⟩
  case round =>
    obtain ⟨k, acc, hk, rfl, hak, hacc, hown, hb⟩ := hrel
    have hzw := hb.size
    by_cases hlt : k < s.size
    · have hacc2 := Lib.hid (trace_step (str_at s k hlt) hacc.out)
      clear hacc
      go_wp2_with (at_builtin; refine wpList_append_own _ rfl (.tmp 16) (.tmp 22) 43 rfl w.heap.size 65 i0 _ 2 16 Try.underlying43 hi hz0 hz1 hz2 rfl (by decide) _ _ _ rfl (hown.out.alloc _) ⟨wr.heap.size, 0, none⟩ 1 1 [.int .u8 s[k].toNat, .int .i64 k] rfl rfl (World.news_of_block (heap_alloc_new wr _)) (by simp [Value.oneCell']) (by unfold maxLen; omega) (by omega) (by simp; omega) ?_)
      intro v' w1 hown' hgrow _
      have hown2 : Hid (OwnsT 65 w1 w.heap.size v' (acc ++ [⟨s[k], k⟩])) := by
        show World.ownsRow _ _ _ _ _ _ _
        rw [List.length_append, tbCells_append]
        exact hown'
      have hb2 : Below w.heap.size w w1 := (hb.alloc hzw _).grown hgrow (by simp; omega) (fun j hj => (hown.out.lt j hj).1)
      clear hown' hgrow hown
      go_wp2_with fail
      go_roundw
      case rel => exact ⟨k + 1, _, by omega, by go_num, by simp; omega, hacc2, hown2, hb2⟩
      case measure => simp [intOf]; omega
    · have hfin : Hid (OwnsT 65 wr w.heap.size u8 (traceL s.data.toList)) := by
        have := hacc.out
        rw [List.drop_eq_nil_of_le (by rw [Array.length_toList]; show s.size ≤ k; omega), traceFrom, List.append_nil] at this
        rw [this]
        exact hown
      have htl : (traceL s.data.toList).length = s.size := by rw [traceL, trace_length, ← Lib.size_eq]
      obtain ⟨a3, c3, hv, _, _, hts⟩ := hfin.out.tbs
      rw [htl] at hv
      subst hv
      have T1 := Lib.hid hts
      have B1 := hb
      have E1 := Lib.hid (E0.out.to hb)
      have F1 := Lib.hid (F0.out.to hb)
      clear hacc hown hfin hts htl hb E0 F0
      go_wp2_with fail
      refine (K1.out wr a3 c3 T1.out E1.out).mono ?_
      rintro e w2 ⟨v2, rfl, O2, hb⟩
      obtain ⟨a4, c4, rfl, _, _, hts⟩ := O2.out.tbs
      have T2 := Lib.hid hts
      have B2 := B1.trans (hb.mono B1.size)
      have F2 := Lib.hid (F1.out.to hb)
      clear hts O2 hb B1 F1 E1 T1 K1
      go_wp2_with fail
      refine (K2.out w2 a4 c4 T2.out F2.out).mono ?_
      rintro e w3 ⟨v3, rfl, O3, hb⟩
      obtain ⟨a5, c5, rfl, _, _, hts⟩ := O3.out.tbs
      have T3 := Lib.hid hts
      have B3 := B2.trans (hb.mono B2.size)
      clear hts O3 hb B2 F2 T2 K2
      go_wp2_with fail
      refine (K3.out w3 a5 c5 T3.out).mono ?_
      rintro e w4 ⟨v4, rfl, O4, hb⟩
      have O5 : Hid (Owns w4 w.heap.size v4 (canonV s.size fin)) := owns_base O4.out B3.size
      have B4 := B3.trans (hb.mono B3.size)
      clear O4 hb B3 T3 K3
      go_wp2_with fail
      go_ret2
      exact ⟨_, rfl, O5, B4⟩
end Go.Proofs.Ytbkiliiopondaaa
