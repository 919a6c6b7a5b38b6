/-
  textedit.Invert by its contract.
-/
import Derived.Test.YtdmmoknddkfnmaaApply
import Derived.Test.YtdmmoknddkfnmaaOwn
import Derived.Deep.RegionHeld3
import Derived.Deep.DeepCutAuto
namespace Go.Proofs.Ytdmmoknddkfnmaa
open Go.RowKit

set_option maxHeartbeats 400000 in
theorem invert_bad (s : ByteArray) (a : Option Addr) (cap : Nat) (l : List Ed) (w : World) (hs : s.size ≤ maxLen) (hl : l.length ≤ maxLen) (h : Eds w w.heap.size a l) (he : errV s.size l ≠ 0) :
    Calls Try.prog 12 #[.string s, .slice a l.length cap] w fun e w' => e = .returned (.tuple #[.slice none 0 0, .int .i64 (errV s.size l)]) ∧ Below w.heap.size w w' := by
  have hv := valid_any s a cap l w hs hl h
  generalize errV s.size l = v at *
  have hv1 : (v != 0) = true := by simpa using he
  have HV := Lib.hid hv
  clear hv he
  go_enter Try.func12, Try.ntmps12
  go_wp2_with fail
  refine HV.out.mono ?_
  rintro e w' ⟨rfl, hb⟩
  go_wp2_with fail
  go_ret2
  exact ⟨rfl, hb⟩

theorem inv_bd {n : Int} {l : List Ed} (h : errV n l = 0) (h0 : 0 ≤ n) (k : Nat) : -200000 ≤ (tsum (l.take k) : Int) - dsum (l.take k) ∧ (tsum (l.take k) : Int) - dsum (l.take k) ≤ 200000 := by
  obtain ⟨h1, h2, h3, h4⟩ := errV_zero h
  have hin := sep_inside (by omega) h3
  have h5 := hin.dsum_le h1 h2 k
  have h6 := hin.dsum_le h1 h2 l.length
  rw [List.take_length] at h6
  have h7 := tsum_take_le l k
  have h8 := of_decide_eq_true h4
  omega

set_option maxHeartbeats 1000000 in
set_option maxRecDepth 100000 in
theorem invert_ok (s : ByteArray) (a : Option Addr) (cap : Nat) (l : List Ed) (w : World) (hs : s.size ≤ maxLen) (hl : l.length ≤ maxLen) (h : Eds w w.heap.size a l) (he : errV s.size l = 0) :
    Calls Try.prog 12 #[.string s, .slice a l.length cap] w fun e w' => ∃ v, e = .returned (.tuple #[v, .int .i64 0]) ∧ Hid (Owns w' w.heap.size v (invL s l)) ∧ Below w.heap.size w w' := by
  obtain ⟨i0, hi, hz0, hz1, hz2⟩ := info_parts info_ed
  have hv := valid_any s a cap l w hs hl h
  obtain ⟨hn, hl5, hsep, hfit⟩ := errV_zero he
  have hord : Ord s.size 0 l := sep_ord (p := 0) (by omega) (by omega) hsep
  have hbd := inv_bd he (by omega)
  have hmk := fun W => run_make (P := Try.prog) W 22 35 i0 _ Try.underlying22 hi hz0 .i64 .i64 0 l.length (by omega) (by omega) (by rw [hz2]; omega) (by omega)
  have HV := Lib.hid (he ▸ hv)
  have HO := Lib.hid hord
  have HB := Lib.hid hbd
  clear hv he hsep hfit hord hs hl hbd
  go_enter Try.func12, Try.ntmps12
  go_wp2_with fail
  refine HV.out.mono ?_
  rintro e w1 ⟨rfl, hb1⟩
  clear HV
  have hz1' := hb1.size
  go_wp2_with fail
  go_loopw [7, 8, 23] (fun v p i wr => ∃ (k : Nat) (d : Int) (acc : List Ed), k ≤ l.length ∧ i = .int .i64 k ∧ p = .int .i64 d ∧ acc.length ≤ k ∧ Hid (d = tsum (l.take k) - dsum (l.take k)) ∧ (∃ q : Int, 0 ≤ q ∧ Hid (Ord s.size q (l.drop k))) ∧
      Hid (invL s l = acc ++ invFrom s d (l.drop k)) ∧ Hid (Owns wr w1.heap.size v acc) ∧ Below w1.heap.size w1 wr)
    (fun _ _ i _ => l.length - (intOf i).toNat)
  case atStart => exact ⟨0, 0, [], Nat.zero_le _, rfl, rfl, Nat.le_refl _, rfl, ⟨0, by omega, HO⟩, rfl, World.ownsRow_made w1 _ _ (Nat.le_refl _) (by unfold maxLen; omega) (size_madeCells _ _), (Below.refl _ _).alloc (Nat.le_refl _) _⟩
  case round =>
    obtain ⟨k, d, acc, hk, rfl, rfl, hak, hd, ⟨q, hq0, hord⟩, hacc, hown, hb⟩ := hrel
    by_cases hlt : k < l.length
    · have hx : l[k]? = some l[k] := List.getElem?_eq_getElem hlt
      obtain ⟨x, hX⟩ : ∃ x, x = l[k] := ⟨_, rfl⟩
      rw [← hX] at hx
      clear hX
      obtain ⟨hok, b, o, rfl, hbl, h0, h1, h2⟩ := (((h.below hb1).up hz1').below hb) k x hx
      obtain ⟨o1, o2, o3, o4⟩ := ord_step hx hord.out
      have o5 : 0 ≤ x.s := by omega
      have o6 : 0 ≤ x.e := by omega
      have hacc2 := Lib.hid (inv_step hx hacc.out)
      have HORD := Lib.hid o4
      have hzw := hb.size
      have hd0 : -200000 ≤ d ∧ d ≤ 200000 := by rw [hd.out]; exact HB.out k
      obtain ⟨hd1, hd2⟩ := hd0
      have hd3 : Hid (d + (x.t.size - (x.e - x.s)) = tsum (l.take (k + 1)) - dsum (l.take (k + 1))) := by
        show _ = _
        rw [tsum_take hx, dsum_take hx, hd.out]; omega
      have hd4 : -200000 ≤ d + (x.t.size - (x.e - x.s)) ∧ d + (x.t.size - (x.e - x.s)) ≤ 200000 := by rw [hd3.out]; exact HB.out (k + 1)
      obtain ⟨hd5, hd6⟩ := hd4
      have hwr : IntKind.i64.wrap (x.s + d + (x.t.size : Int)) = x.s + d + x.t.size := IntWalk.i64_in _ (by omega)
      have Hx := Lib.hid hx
      have ag : Hid (u7.ownBlock ≠ some wr.heap.size) := fun e => by have := (hown.out.lt _ e).2; omega
      clear hx o4 hord hacc hd
      go_wp2_with fail
      go_region_held3 (fun w' => w'.cell? ⟨wr.heap.size, 0, none⟩ = some (.int .i64 x.s) ∧ w'.cell? ⟨wr.heap.size, 1, none⟩ = some (.int .i64 x.e) ∧ w'.cell? ⟨wr.heap.size, 2, none⟩ = some (.string x.t))
        (first | go_keep | (refine ⟨?_, ?_, ?_⟩ <;> (rw [hbc.cell (by simp)]; go_keep)) | (go_split_ands; have hsz := hbc.size; simp at hsz; refine ⟨?_, ?_, ?_⟩ <;> (rw [hgrow3.cell_far _ (by simp; omega) (Ne.symm ag.out)]; assumption)))
        (first | (go_at_call 25; refine (clone_any _ _ (by rw [ByteArray.size_extract]; omega)).mono ?_; rintro e w2 ⟨rfl, hbc⟩) | (refine step_append_lies _ (by rfl) _ _ _ (by rfl) w1.heap.size 35 i0 _ 3 32 Try.underlying22 hi hz0 hz1 hz2 rfl (by omega) _ _ _ (by rfl) ((owns_below ((hown.out.alloc _).drew) hbc).alloc _) ⟨w2.heap.size, 0, none⟩ 1 1 _ (by rfl) (by rfl) (World.news_of_block (heap_alloc_new w2 _)) (by simp [Value.oneCell']) (by omega) (by unfold maxLen; omega) (by omega) (by have hsz := hbc.size; simp at hsz ⊢; omega) (w2.heap.size + 1) (by simp) ?_; intro gg cap w3 hown3 hgrow3 hat hlt3))
      have hS : w3.cell? ⟨wr.heap.size, 0, none⟩ = some (.int .i64 x.s) ∧ w3.cell? ⟨wr.heap.size, 1, none⟩ = some (.int .i64 x.e) ∧ w3.cell? ⟨wr.heap.size, 2, none⟩ = some (.string x.t) := by assumption
      obtain ⟨e0, e1, e2⟩ := hS
      have hown4 : Hid (Owns w3 w1.heap.size (.slice (some ⟨gg, 0, none⟩) (acc.length + 1) cap) (acc ++ [⟨x.s + d, x.s + d + x.t.size, s.extract x.s.toNat x.e.toNat⟩])) := by
        show World.ownsRow _ _ _ _ _ _ _
        rw [edCells_append, List.length_append]
        exact hown3
      have hb3 : Below w1.heap.size w1 w3 := by
        have q1 := (hb.alloc hzw (.cells #[.int .i64 x.s, .int .i64 x.e, .string x.t] 35)).drew
        have hsz := hbc.size
        simp at hsz
        have q2 := q1.trans (hbc.mono (by simp; omega))
        exact (q2.alloc (by omega) _).grown hgrow3 (by simp; omega) (fun j hj => (hown.out.lt j hj).1)
      clear hown3 hgrow3 hat hbc hown
      go_wp2_with fail
      go_roundw
      case rel => exact ⟨k + 1, _, _, by omega, by go_num, rfl, by simp; omega, hd3, ⟨x.e, by omega, HORD⟩, hacc2, hown4, hb3⟩
      case measure => simp [intOf]; omega
    · have hfin : Hid (Owns wr w1.heap.size u7 (invL s l)) := by
        have := hacc.out
        rw [List.drop_eq_nil_of_le (by omega), invFrom, List.append_nil] at this
        rw [this]
        exact hown
      go_wp2_with fail
      go_ret2
      exact ⟨_, rfl, ⟨hfin.out.1, hfin.out.2.imp id (fun ⟨g, c, u, q1, q2, q3⟩ => ⟨g, c, u, q1, by omega, q3⟩)⟩, hb1.trans (hb.mono hz1')⟩
end Go.Proofs.Ytdmmoknddkfnmaa
