/-
  Starts of the reference: where each token starts; its contract.
-/
import Derived.Test.YtbomilleckgalaaGreatRpErr
import Derived.Test.YtbomilleckgalaaGreatLxRefs
namespace Go.Proofs.YtbomilleckgalaaGreat.Ps
open Go.RowKit

/-- Where the tokens start. -/
def tokAt (toks : List Tk) (k : Nat) : List Int := (List.range k).map fun i => ((wt (toks.take i) : Nat) : Int)
theorem tokAt_at (toks : List Tk) {n k : Nat} (h : k < n) : (tokAt toks n)[k]? = some ((wt (toks.take k) : Nat) : Int) := by simp [tokAt, h]

set_option maxRecDepth 100000 in
set_option maxHeartbeats 4000000 in
theorem rstarts_any (toks : List Tk) (ta : Option Addr) (tc : Nat) (w : World) (ht : Lx.Tks w w.heap.size ta toks) (hl : toks.length ≤ 2000) (hw : wt toks ≤ 2000) :
    Calls Tryz.prog 19 #[.slice ta toks.length tc] w fun e w' => ∃ v, e = .returned v ∧ OwnsI w' w.heap.size v (tokAt toks toks.length) ∧ Below w.heap.size w w' := by
  obtain ⟨j0, ji, jz0, jz1, jz2⟩ := info_parts info_int
  have HT := Lib.hid ht
  clear ht
  go_enter Tryz.func19, Tryz.ntmps19
  go_wp2_with fail
  go_loopw [3, 4, 9] (fun v en i wr => ∃ k : Nat, k ≤ toks.length ∧ i = .int .i64 k ∧ en = .int .i64 (wt (toks.take k) : Nat) ∧ Hid (OwnsI wr w.heap.size v (tokAt toks k)) ∧ Below w.heap.size w wr)
    (fun _ _ i _ => toks.length - (intOf i).toNat)
  case atStart => exact ⟨0, Nat.zero_le _, rfl, rfl, OwnsI.nil _ _, Below.refl _ _⟩
  case round =>
    obtain ⟨k, hk, rfl, rfl, hown, hb⟩ := hrel
    have hzw := hb.size
    by_cases hlt : k < toks.length
    · obtain ⟨t, htt⟩ : ∃ t, toks[k]? = some t := ⟨_, List.getElem?_eq_getElem hlt⟩
      obtain ⟨tb, tof, e0, e1, e2, e3⟩ := HT.out k t htt
      subst e0
      have d0 : wr.cell? ⟨tb, tof + k * 2, none⟩ = some (.int .i64 t.1) := (hb.cell (p := ⟨tb, _, none⟩) e1).trans e2
      have d1 : wr.cell? ⟨tb, tof + k * 2 + 1, none⟩ = some (.string (Lx.bs t.2)) := (hb.cell (p := ⟨tb, _, none⟩) e1).trans e3
      have hws := wt_take htt
      have hwl := wt_take_le toks (k + 1)
      have q0 : (k : Int) < (toks.length : Int) := by omega
      have q1 : (0 : Int) ≤ (k : Int) := by omega
      have htl : (Lx.bs t.2).size = t.2.length := by rw [← Lx.L_len, Lx.L_bs]
      have hsl : (tokAt toks k).length = k := by simp [tokAt]
      have hg : (wt (toks.take k) : Int) + ((Lx.bs t.2).size : Int) ≤ 2000 := by omega
      have HWS : Hid ((wt (toks.take k) : Int) + ((Lx.bs t.2).size : Int) = ((wt (toks.take (k + 1)) : Nat) : Int)) := by show _ = _; omega
      have HST : Hid (tokAt toks (k + 1) = tokAt toks k ++ [((wt (toks.take k) : Nat) : Int)]) := by show _ = _; unfold tokAt; rw [List.range_succ, List.map_append]; rfl
      have hb1 : Below wr.heap.size wr (wr.alloc (.cells #[.int .i64 t.1, .string (Lx.bs t.2)] 32)) := (Below.refl _ _).alloc (Nat.le_refl _) _
      have HB1 := Lib.hid (hb.trans (hb1.mono hzw))
      have HO1 : Hid (OwnsI (wr.alloc (.cells #[.int .i64 t.1, .string (Lx.bs t.2)] 32)) w.heap.size _ (tokAt toks k)) := World.ownsRow.alloc hown.out _
      have HTB : Hid ((wr.alloc (.cells #[.int .i64 t.1, .string (Lx.bs t.2)] 32)).heap[wr.heap.size]? = some (.cells #[.int .i64 t.1, .string (Lx.bs t.2)] 32 (0, 0))) := heap_alloc_new wr _
      have hvlt := Lib.hid (fun j hj => (World.ownsRow.lt hown.out j hj).2)
      clear e2 e3 htt hb hb1 hown
      have hltk : (tokAt toks k).length ≤ 2000 := by omega
      clear hsl htl hws
      go_upto_region 6 with fail
      generalize hW2 : wr.alloc (.cells #[.int .i64 t.1, .string (Lx.bs t.2)] 32) = W2 at *
      have hz2 := HB1.out.size
      have hlt2 : wr.heap.size < W2.heap.size := (Array.getElem?_eq_some_iff.1 HTB.out).1
      generalize wr.heap.size = tbx at *
      clear hW2 d0 d1
      go_wp2_with (at_builtin; refine wpList_append_own _ rfl _ _ 48 rfl w.heap.size 3 j0 _ 1 8 Tryz.underlying48 ji jz0 jz1 jz2 rfl (by decide) _ _ _ rfl (World.ownsRow.alloc HO1.out _) ⟨W2.heap.size, 0, none⟩ 1 1 [.int .i64 ((wt (toks.take k) : Nat) : Int)] rfl rfl (World.news_of_block (heap_alloc_new W2 _)) (by simp [Value.oneCell']) (by unfold maxLen; omega) (by omega) (by simp; omega) ?_)
      intro v' w3 hown' hgrow _
      have HO3 : Hid (OwnsI w3 w.heap.size v' (tokAt toks (k + 1))) := by
        show World.ownsRow _ _ _ _ _ _ _
        rw [HST.out, List.length_append, iCells_append]
        exact hown'
      have hb4 : Hid (Below w.heap.size w w3) := (HB1.out.alloc hz2 _).grown hgrow (by simp; omega) (fun j hj => (World.ownsRow.lt HO1.out j hj).1)
      have HTB3 : Hid (w3.heap[tbx]? = some (.cells #[.int .i64 t.1, .string (Lx.bs t.2)] 32 (0, 0))) := by
        show _ = _
        rw [hgrow.block tbx (by simp; omega) (fun e => by have := hvlt.out tbx e.symm; omega), Below.heap_alloc _ _ _ hlt2]
        exact HTB.out
      obtain ⟨c0, c1, _⟩ := two_facts HTB3.out
      clear hown' hgrow hvlt HO1 HB1
      go_wp2_with fail
      go_roundw
      case rel => exact ⟨k + 1, by omega, by go_num, by first | rw [HWS.out] | (rw [← HWS.out]; simp), HO3, hb4.out⟩
      case measure => simp [intOf]; omega
    · obtain rfl : k = toks.length := by omega
      go_wp2_with fail
      go_ret
      exact ⟨_, rfl, hown.out, hb⟩
end Go.Proofs.YtbomilleckgalaaGreat.Ps
