/-
  glossatorref4.InvertEdits by its contract.
-/
import Derived.Test.YtbkiliiopondaaaRefApp
import Derived.Test.YtbkiliiopondaaaInvert
import Derived.Test.YtbkiliiopondaaaExPure
namespace Go.Proofs.Ytbkiliiopondaaa
open Go.RowKit

theorem ord_take {n : Int} {l : List Ed} : ∀ {p : Int} {k : Nat} {x : Ed}, Ord n p l → l[k]? = some x → Ord x.s p (l.take k) := by
  induction l with
  | nil => intro p k x _ hx; simp at hx
  | cons y r ih =>
    intro p k x h hx
    cases k with
    | zero => simp at hx; subst hx; exact h.1
    | succ k => exact ⟨h.1, h.2.1, ih h.2.2 (by simpa using hx)⟩

theorem Eds.take {w : World} {B : Nat} {a : Option Addr} {l : List Ed} (h : Eds w B a l) (k : Nat) : Eds w B a (l.take k) := by
  intro i x hx
  rw [List.getElem?_take] at hx
  split at hx
  · exact h i x hx
  · cases hx

/-- How long the prefix of the source is once the edits before the k-th are applied. -/
theorem prefix_len {s : ByteArray} {l : List Ed} {k : Nat} {x : Ed} (h : Ord s.size 0 l) (hx : l[k]? = some x) (hs : x.s ≤ s.size) (h0 : 0 ≤ x.s) :
    ((⟨(applyL (s.extract 0 x.s.toNat).data.toList (l.take k)).toArray⟩ : ByteArray).size : Int) = x.s + ((tsum (l.take k) : Int) - dsum (l.take k)) := by
  have hlen : (s.extract 0 x.s.toNat).data.toList.length = x.s.toNat := by
    rw [← Lib.size_eq, ByteArray.size_extract]; omega
  have hl : ((s.extract 0 x.s.toNat).data.toList.length : Int) = x.s := by omega
  have := apply_len (src := (s.extract 0 x.s.toNat).data.toList) (l := l.take k) (p := 0) (Int.le_refl _) (by rw [hl]; exact ord_take h hx)
  rw [Lib.size_eq]
  show ((applyFrom _ _ _).length : Int) = _
  omega

theorem owns_drewN {w : World} {base : Nat} {e : TypeId} {size : Nat} {v : Value} {n m : Nat} {xs : List Value} (h : w.ownsRow base e size v n xs) : (w.drewN m).ownsRow base e size v n xs := h

set_option maxHeartbeats 1000000 in
set_option maxRecDepth 100000 in
theorem refinv_any (s : ByteArray) (a : Option Addr) (cap : Nat) (l : List Ed) (w : World) (hc : l.length ≤ cap) (h : Eds w w.heap.size a l) (he : errV s.size l = 0) :
    Calls Try.prog 22 #[.string s, .slice a l.length cap] w fun e w' => ∃ v, e = .returned v ∧ Hid (Owns w' w.heap.size v (invL s l)) ∧ Below w.heap.size w w' := by
  obtain ⟨i0, hi, hz0, hz1, hz2⟩ := info_parts info_ed
  obtain ⟨hn, hl5, hsep, hfit⟩ := errV_zero he
  have hord : Ord s.size 0 l := sep_ord (p := 0) (by omega) (by omega) hsep
  have hbd := inv_bd he (by omega)
  have hts : tsum l ≤ 200000 := by
    have h6 := (sep_inside (by omega) hsep).dsum_le hn hl5 l.length
    rw [List.take_length] at h6
    have h8 := of_decide_eq_true hfit
    omega
  have hsub : ∀ (k : Nat) (t : ByteArray) (W : World), k < l.length → t.size ≤ 2000 → Eds W W.heap.size a l → Ord t.size 0 (l.take k) → Calls Try.prog 21 #[.string t, .slice a k cap] W fun e w' => e = .returned (.string ⟨(applyL t.data.toList (l.take k)).toArray⟩) ∧ ∃ n, w' = W.drewN n := by
    intro k t W hk ht hE hO
    have hkl : (l.take k).length = k := by rw [List.length_take]; omega
    have := refapp_any t a cap (l.take k) W hO (by omega) ht (show _ ≤ _ from Nat.le_trans (tsum_take_le l k) hts) (hE.take k)
    rw [hkl] at this
    exact this
  have HO := Lib.hid hord
  have HB := Lib.hid hbd
  have HS := Lib.hid hsub
  clear he hsep hfit hord hbd hsub hts
  go_enter Try.func22, Try.ntmps22
  go_wp2_with fail
  go_loopw [5, 6] (fun v i wr => ∃ (k : Nat) (d : Int) (acc : List Ed), k ≤ l.length ∧ i = .int .i64 k ∧ acc.length ≤ k ∧ Hid (d = tsum (l.take k) - dsum (l.take k)) ∧ (∃ q : Int, 0 ≤ q ∧ Hid (Ord s.size q (l.drop k))) ∧
      Hid (invL s l = acc ++ invFrom s d (l.drop k)) ∧ Hid (Owns wr w.heap.size v acc) ∧ Below w.heap.size w wr)
    (fun _ i _ => l.length - (intOf i).toNat)
  case atStart => exact ⟨0, 0, [], Nat.zero_le _, rfl, Nat.le_refl _, rfl, ⟨0, by omega, HO⟩, rfl, ⟨by simp [edCells], Or.inl ⟨rfl, rfl⟩⟩, Below.refl _ _⟩
  case round =>
    obtain ⟨k, d, acc, hk, rfl, hak, hd, ⟨q, hq0, hord⟩, hacc, hown, hb⟩ := hrel
    by_cases hlt : k < l.length
    · have hx : l[k]? = some l[k] := List.getElem?_eq_getElem hlt
      obtain ⟨x, hX⟩ : ∃ x, x = l[k] := ⟨_, rfl⟩
      rw [← hX] at hx
      clear hX
      have hEw : Eds wr w.heap.size a l := h.below hb
      obtain ⟨hok, b, o, rfl, hbl, h0, h1, h2⟩ := hEw k x hx
      obtain ⟨o1, o2, o3, o4⟩ := ord_step hx hord.out
      have o5 : 0 ≤ x.s := by omega
      have o6 : 0 ≤ x.e := by omega
      have o7 : x.s ≤ (s.size : Int) := by omega
      have hacc2 := Lib.hid (inv_step hx hacc.out)
      have HORD := Lib.hid o4
      have hzw := hb.size
      have hd0 : -200000 ≤ d ∧ d ≤ 200000 := by rw [hd.out]; exact HB.out k
      obtain ⟨hd1, hd2⟩ := hd0
      have hd3 : Hid (d + (x.t.size - (x.e - x.s)) = tsum (l.take (k + 1)) - dsum (l.take (k + 1))) := by
        show _ = _
        rw [tsum_take hx, dsum_take hx, hd.out]; omega
      have hd4 : -200000 ≤ d + (x.t.size - (x.e - x.s)) ∧ d + (x.t.size - (x.e - x.s)) ≤ 200000 := by rw [hd3.out]; exact HB.out (k + 1)
      obtain ⟨hd5, hd6⟩ := hd4
      have hpl := prefix_len HO.out hx o7 o5
      rw [← hd.out] at hpl
      have hes : (s.extract 0 x.s.toNat).size = x.s.toNat := by rw [ByteArray.size_extract]; omega
      have hcall := fun (W : World) (hE : Eds W W.heap.size (some ⟨b, o, none⟩) l) => HS.out k (s.extract 0 x.s.toNat) W hlt (by rw [hes]; omega) hE (by rw [hes, show ((x.s.toNat : Nat) : Int) = x.s from by omega]; exact ord_take HO.out hx)
      obtain ⟨T, hT⟩ : ∃ T : ByteArray, T = ⟨(applyL (s.extract 0 x.s.toNat).data.toList (l.take k)).toArray⟩ := ⟨_, rfl⟩
      rw [← hT] at hpl hcall
      clear hT
      have hwr : IntKind.i64.wrap (x.s + d + (x.t.size : Int)) = x.s + d + x.t.size := IntWalk.i64_in _ (by omega)
      have ag : Hid (u5.ownBlock ≠ some wr.heap.size) := fun e => by have := (hown.out.lt _ e).2; omega
      have HC := Lib.hid hcall
      have HE := Lib.hid (hEw.up hzw)
      have Hx := Lib.hid hx
      clear hx o4 hord hacc hd hcall hEw
      go_wp2_with fail
      go_quiet (first | (refine Calls.quiet_of (HC.out _ ?_); exact (HE.out.alloc _)))
      go_wp2_with fail
      obtain ⟨wq, hwq⟩ : ∃ wq, wq = ((wr.alloc (.cells #[.int .i64 x.s, .int .i64 x.e, .string x.t] 38)).drewN nq) := ⟨_, rfl⟩
      have hownq : Hid (Owns wq w.heap.size u5 acc) := by rw [hwq]; exact hown.out.alloc _
      have hbq : Hid (Below w.heap.size w wq) := by
        show Below _ _ _
        have q1 := hb.alloc hzw (.cells #[.int .i64 x.s, .int .i64 x.e, .string x.t] 38)
        rw [hwq]; exact ⟨q1.os, q1.tape, q1.output, q1.size, q1.block⟩
      have g0 : wq.cell? ⟨wr.heap.size, 0, none⟩ = some (.int .i64 x.s) := by rw [hwq]; go_keep
      have g1 : wq.cell? ⟨wr.heap.size, 1, none⟩ = some (.int .i64 x.e) := by rw [hwq]; go_keep
      have g2 : wq.cell? ⟨wr.heap.size, 2, none⟩ = some (.string x.t) := by rw [hwq]; go_keep
      have hzq : Hid (w.heap.size ≤ wq.heap.size ∧ wr.heap.size < wq.heap.size) := by
        show _ ∧ _
        rw [hwq]; simp; omega
      rw [← hwq]
      clear hwq hb hown
      go_region_held3 (fun w' => w'.cell? ⟨wr.heap.size, 0, none⟩ = some (.int .i64 x.s) ∧ w'.cell? ⟨wr.heap.size, 1, none⟩ = some (.int .i64 x.e) ∧ w'.cell? ⟨wr.heap.size, 2, none⟩ = some (.string x.t))
        (first | go_keep | (go_split_ands; have hsz := hzq.out; refine ⟨?_, ?_, ?_⟩ <;> (rw [hgrow3.cell_far _ (by simp; omega) (Ne.symm ag.out)]; go_keep)))
        (first | (refine step_append_lies _ (by rfl) _ _ _ (by rfl) w.heap.size 38 i0 _ 3 32 Try.underlying22 hi hz0 hz1 hz2 rfl (by omega) _ _ _ (by rfl) ((hownq.out.drew).alloc _) ⟨wq.heap.size, 0, none⟩ 1 1 _ (by rfl) (by rfl) (World.news_of_block (heap_alloc_new _ _)) (by simp [Value.oneCell']) (by omega) (by unfold maxLen; omega) (by omega) (by have hsz := hzq.out; simp; omega) (wq.heap.size + 1) (by simp) ?_; intro gg cap w3 hown3 hgrow3 hat hlt3))
      have hown4 : Hid (Owns w3 w.heap.size (.slice (some ⟨gg, 0, none⟩) (acc.length + 1) cap) (acc ++ [⟨x.s + d, x.s + d + x.t.size, s.extract x.s.toNat x.e.toNat⟩])) := by
        show World.ownsRow _ _ _ _ _ _ _
        rw [edCells_append, List.length_append]
        exact hown3
      have hb3 : Below w.heap.size w w3 := by
        have hsz := hzq.out
        exact ((hbq.out.alloc (by omega) _).drew).grown hgrow3 (by simp; omega) (fun j hj => (hownq.out.lt j hj).1)
      clear hown3 hgrow3 hat hownq
      go_wp2_with fail
      go_roundw
      case rel => exact ⟨k + 1, _, _, by omega, by go_num, by simp; omega, hd3, ⟨x.e, by omega, HORD⟩, hacc2, hown4, hb3⟩
      case measure => simp [intOf]; omega
    · have hfin : Hid (Owns wr w.heap.size u5 (invL s l)) := by
        have := hacc.out
        rw [List.drop_eq_nil_of_le (by omega), invFrom, List.append_nil] at this
        rw [this]
        exact hown
      go_wp2_with fail
      go_ret
      exact ⟨_, rfl, hfin, hb⟩
end Go.Proofs.Ytbkiliiopondaaa
