/-
  textedit.Apply by its contract.
-/
import Derived.Test.YtbomilleckgalaaGreatTeValid
import Derived.Test.YtbomilleckgalaaGreatTeBuf
import Derived.Test.YtbomilleckgalaaGreatTePure
import Derived.WalkSpells
import Derived.Lib.IndexBytes
namespace Go.Proofs.YtbomilleckgalaaGreat.Te
open Go.RowKit

theorem Eds.up {w : World} {B B' : Nat} {a : Option Addr} {l : List Ed} (h : Eds w B a l) (hB : B ≤ B') : Eds w B' a l := by
  intro i x hx
  obtain ⟨p, b, o, q1, q2, q3⟩ := h i x hx
  exact ⟨p, b, o, q1, Nat.lt_of_lt_of_le q2 hB, q3⟩

set_option maxHeartbeats 400000 in
theorem apply_bad (s : ByteArray) (a : Option Addr) (cap : Nat) (l : List Ed) (w : World) (hs : s.size ≤ maxLen) (hl : l.length ≤ maxLen) (h : Eds w w.heap.size a l) (he : errV s.size l ≠ 0) :
    Calls Tryz.prog 24 #[.string s, .slice a l.length cap] w fun e w' => e = .returned (.tuple #[.string ⟨#[]⟩, .int .i64 (errV s.size l)]) ∧ Below w.heap.size w w' := by
  have hv := valid_any s a cap l w hs hl h
  generalize errV s.size l = v at *
  have hv1 : (v != 0) = true := by simpa using he
  have HV := Lib.hid hv
  clear hv he
  go_enter Tryz.func24, Tryz.ntmps24
  go_wp2_with fail
  refine HV.out.mono ?_
  rintro e w' ⟨rfl, hb⟩
  go_wp2_with fail
  go_ret2
  exact ⟨rfl, hb⟩

set_option maxHeartbeats 1000000 in
theorem apply_ok (s : ByteArray) (a : Option Addr) (cap : Nat) (l : List Ed) (w : World) (hs : s.size ≤ maxLen) (hl : l.length ≤ maxLen) (h : Eds w w.heap.size a l) (he : errV s.size l = 0) :
    Calls Tryz.prog 24 #[.string s, .slice a l.length cap] w fun e w' => e = .returned (.tuple #[.string ⟨(applyL s.data.toList l).toArray⟩, .int .i64 0]) ∧ Below w.heap.size w w' := by
  have hv := valid_any s a cap l w hs hl h
  obtain ⟨hn, hl5, hsep, hfit⟩ := errV_zero he
  have hlen : (applyL s.data.toList l).length ≤ 2000 := apply_le (by rw [← Lib.size_eq]; exact he)
  have hord : Ord s.size 0 l := sep_ord (p := 0) (by omega) (by omega) hsep
  have HV := Lib.hid (he ▸ hv)
  have HO := Lib.hid hord
  clear hv he hsep hfit hord hs hl
  go_enter Tryz.func24, Tryz.ntmps24
  go_wp2_with fail
  refine HV.out.mono ?_
  rintro e w1 ⟨rfl, hb1⟩
  clear HV
  have hz1 := hb1.size
  go_wp2_with fail
  go_loopw [8, 19] (fun p i wr => ∃ (k : Nat) (q : Int) (acc : List UInt8), k ≤ l.length ∧ i = .int .i64 k ∧ p = .int .i64 q ∧ 0 ≤ q ∧ q ≤ s.size ∧ Hid (Ord s.size q (l.drop k)) ∧
      Hid (applyL s.data.toList l = acc ++ applyFrom s.data.toList q (l.drop k)) ∧ Hid (Lib.IsBuilder 76 5 w1.heap.size w1.heap.size (Lib.byteCells acc) wr) ∧ Below w1.heap.size w1 wr ∧ w1.heap.size < wr.heap.size)
    (fun _ i _ => l.length - (intOf i).toNat)
  case atStart => exact ⟨0, 0, [], Nat.zero_le _, rfl, rfl, by omega, by omega, HO, rfl, Lib.fresh_isBuilder 76 5 w1, (Below.refl _ _).alloc (Nat.le_refl _) _, by simp⟩
  case round =>
    obtain ⟨k, q, acc, hk, rfl, rfl, hq0, hq1, hord, hacc, hbd, hb, hz⟩ := hrel
    by_cases hlt : k < l.length
    · have hx : l[k]? = some l[k] := List.getElem?_eq_getElem hlt
      obtain ⟨x, hX⟩ : ∃ x, x = l[k] := ⟨_, rfl⟩
      rw [← hX] at hx
      clear hX
      obtain ⟨hok, b, o, rfl, hbl, h0, h1, h2⟩ := (((h.below hb1).up hz1).below hb) k x hx
      obtain ⟨o1, o2, o3, o4⟩ := ord_step hx hord.out
      have hacc2 := Lib.hid (acc_step hx hacc.out)
      have HORD := Lib.hid o4
      have hbd1 := Nat.le_trans (acc_bd hx hacc.out) hlen
      have hz2 := hb.size
      have Hx := Lib.hid hx
      clear hx o4 hord hacc
      go_wp2_with fail
      refine (write_bytes w1.heap.size w1.heap.size acc _ _ (builder_alloc hbd.out _) (by rw [Lib.size_eq, Lib.extract_data]; omega) (by simp; omega)).mono ?_
      rintro e w2 ⟨rfl, hbd2, hb2, hk2⟩
      have hE := hk2 wr.heap.size _ (heap_alloc_new wr _) (by simp; omega) (by simp)
      have e2 : w2.cell? ⟨wr.heap.size, 2, none⟩ = some (.string x.t) := by rw [Lib.cell_of_heap hE]; rfl
      have e1 : w2.cell? ⟨wr.heap.size, 1, none⟩ = some (.int .i64 x.e) := by rw [Lib.cell_of_heap hE]; rfl
      have HE := Lib.hid hE
      clear hE
      go_wp2_with fail
      refine (write_bytes w1.heap.size w1.heap.size _ _ _ hbd2 (by rw [Lib.extract_data, List.length_append]; omega) (by have := hb2.size; simp at this; omega)).mono ?_
      rintro e w3 ⟨rfl, hbd3, hb3, hk3⟩
      have hE := hk3 wr.heap.size _ HE.out (by simp; omega) (by simp)
      have e1 : w3.cell? ⟨wr.heap.size, 1, none⟩ = some (.int .i64 x.e) := by rw [Lib.cell_of_heap hE]; rfl
      have hz3 : w1.heap.size < w3.heap.size := by have s2 := hb2.size; have s3 := hb3.size; simp at s2; omega
      clear hE HE hk2 hk3 e2
      go_wp2_with fail
      go_roundw
      case rel => exact ⟨k + 1, x.e, _, by omega, by go_num, rfl, by omega, by omega, HORD, by rw [Lib.extract_data] ; exact hacc2.out, hbd3, ((hb.alloc (by omega) _).trans hb2).trans hb3, hz3⟩
      case measure => simp [intOf]; omega
    · have hl1 := acc_last (by omega) hacc.out
      have hl2 : acc.length ≤ 2000 := by rw [hl1] at hlen; simp at hlen; omega
      have HL := Lib.hid hl1
      clear hl1 hacc
      go_wp2_with fail
      refine (write_bytes w1.heap.size w1.heap.size acc _ _ hbd (by rw [Lib.size_eq, Lib.extract_to_end]; have := List.length_drop (i := q.toNat) (l := s.data.toList); have := Lib.size_eq s; omega) (by omega)).mono ?_
      rintro e w2 ⟨rfl, hbd2, hb2, hk2⟩
      have hbd4 : Hid (Lib.IsBuilder 76 5 w1.heap.size w1.heap.size (Lib.byteCells (applyL s.data.toList l)) w2) := by rw [HL.out, ← Lib.extract_to_end]; exact hbd2
      clear hbd2
      go_wp2_with fail
      refine (Tryz.Builder_String_any w1.heap.size w1.heap.size _ _ hbd4.out (by have := hb2.size; omega)).mono ?_
      rintro e w3 ⟨rfl, hb3⟩
      go_wp2_with fail
      go_ret2
      exact ⟨rfl, hb1.trans (((hb.trans hb2).trans hb3).mono hz1)⟩
end Go.Proofs.YtbomilleckgalaaGreat.Te
