/-
  textedit.rewrite by its contract.
-/
import Derived.Test.YtdmmoknddkfnmaaSrc
import Derived.Test.YtdmmoknddkfnmaaPure
namespace Go.Proofs.Ytdmmoknddkfnmaa
open Go.RowKit

def insT (t : ByteArray) : List Tb := t.data.toList.map (⟨·, -1⟩)

def rewFrom (text : List Tb) : Int → List Ed → List Tb
  | p, [] => text.drop p.toNat
  | p, x :: r => (text.drop p.toNat).take (x.s.toNat - p.toNat) ++ (insT x.t ++ rewFrom text x.e r)

def rewL (text : List Tb) (l : List Ed) : List Tb := rewFrom text 0 l

theorem insT_length (t : ByteArray) : (insT t).length = t.size := by rw [insT, List.length_map, Array.length_toList]; rfl

theorem rew_step {text acc out : List Tb} {q : Int} {l : List Ed} {k : Nat} {x : Ed} (hx : l[k]? = some x) (h : out = acc ++ rewFrom text q (l.drop k)) :
    out = ((acc ++ (text.drop q.toNat).take (x.s.toNat - q.toNat)) ++ insT x.t) ++ rewFrom text x.e (l.drop (k + 1)) := by
  rw [h, drop_at hx, rewFrom]
  simp

theorem rew_bd {text acc out : List Tb} {q : Int} {l : List Ed} {k : Nat} {x : Ed} (hx : l[k]? = some x) (h : out = acc ++ rewFrom text q (l.drop k)) :
    acc.length + ((text.drop q.toNat).take (x.s.toNat - q.toNat)).length + x.t.size ≤ out.length := by
  rw [rew_step hx h, List.length_append, List.length_append, List.length_append, insT_length]
  omega

theorem ins_step {t : ByteArray} {m : Nat} (h : m < t.size) : (insT t).take (m + 1) = (insT t).take m ++ [⟨t[m], -1⟩] := by
  have h1 : (insT t)[m]? = some ⟨t[m], -1⟩ := by
    rw [insT, List.getElem?_map, str_at t m h]; rfl
  rw [List.take_add_one, h1]; rfl

set_option maxHeartbeats 2000000 in
set_option maxRecDepth 100000 in
theorem rewrite_any (B : Nat) (tv : Value) (text : List Tb) (a : Option Addr) (cap : Nat) (l : List Ed) (w : World) (ht : Hid (OwnsT 67 w B tv text)) (h : Eds w w.heap.size a l) (hord : Hid (Ord text.length 0 l)) (hl5 : l.length ≤ 50) (hlen : (rewL text l).length ≤ 100000) :
    Calls Try.prog 26 #[tv, .slice a l.length cap] w fun e w' => ∃ v, e = .returned v ∧ Hid (OwnsT 67 w' w.heap.size v (rewL text l)) ∧ Below w.heap.size w w' := by
  obtain ⟨i0, hi, hz0, hz1, hz2⟩ := info_parts info_tb
  go_enter Try.func26, Try.ntmps26
  go_wp2_with fail
  go_loopw [5, 6, 12] (fun v p i wr => ∃ (k : Nat) (q : Int) (acc : List Tb), k ≤ l.length ∧ i = .int .i64 k ∧ p = .int .i64 q ∧ 0 ≤ q ∧ Hid (Ord text.length q (l.drop k)) ∧ Hid (rewL text l = acc ++ rewFrom text q (l.drop k)) ∧ Hid (OwnsT 67 wr w.heap.size v acc) ∧ Below w.heap.size w wr)
    (fun _ _ i _ => l.length - (intOf i).toNat)
  case atStart => exact ⟨0, 0, [], Nat.zero_le _, rfl, rfl, by omega, hord, rfl, World.ownsRow_nil _ _ _ _, Below.refl _ _⟩
  case round =>
    obtain ⟨k, q, acc, hk, rfl, rfl, hq0, hor, hacc, hown, hb⟩ := hrel
    have hzw := hb.size
    obtain ⟨wo, rfl⟩ : ∃ wo : World, wo = wr := ⟨_, rfl⟩
    by_cases hlt : k < l.length
    · have hx : l[k]? = some l[k] := List.getElem?_eq_getElem hlt
      obtain ⟨x, hX⟩ : ∃ x, x = l[k] := ⟨_, rfl⟩
      rw [← hX] at hx
      clear hX
      obtain ⟨hok, b, o, rfl, hbl, h0, h1, h2⟩ := (h.below hb) k x hx
      obtain ⟨o1, o2, o3, o4⟩ := ord_step hx hor.out
      have hbd := Nat.le_trans (rew_bd hx hacc.out) hlen
      have hacc2 := Lib.hid (rew_step hx hacc.out)
      have HORD := Lib.hid o4
      have hpl : ((text.drop q.toNat).take (x.s.toNat - q.toNat)).length = x.s.toNat - q.toNat := by rw [List.length_take, List.length_drop, Nat.min_eq_left (by omega)]
      rw [hpl] at hbd
      have HPL := Lib.hid hpl
      obtain ⟨xv, hsl, hsrc⟩ := part_src (t := 59) Try.underlying59 rfl Try.sizeOf67 ht.out q x.s hq0 o1 (by omega)
      have HS := Lib.hid (hsrc (wo.alloc (.cells x.cells.toArray 35)) (owns_below (owns_below ht.out hb) ((Below.refl _ _).alloc (Nat.le_refl _) _)))
      have Hx := Lib.hid hx
      clear hx o4 hor hacc hsrc hpl
      go_wp2_with (at_builtin; refine wpList_append_src rfl (.tmp 16) (.tmp 21) 59 rfl w.heap.size 67 i0 _ 2 16 Try.underlying59 hi hz0 hz1 hz2 rfl (by decide) _ _ _ rfl (hown.out.alloc _) xv _ _ rfl HS.out (by unfold maxLen; omega) (by omega) (by simp; omega) ?_)
      intro v1 w1 hown' hgrow
      have hown1 : Hid (OwnsT 67 w1 w.heap.size v1 (acc ++ (text.drop q.toNat).take (x.s.toNat - q.toNat))) := by
        show World.ownsRow _ _ _ _ _ _ _
        rw [List.length_append, tbCells_append, HPL.out]
        exact hown'
      have hb1 : Below w.heap.size w w1 := (hb.alloc hzw _).grown hgrow (by simp; omega) (fun j hj => (hown.out.lt j hj).1)
      have e1 : w1.cell? ⟨wo.heap.size, 1, none⟩ = some (.int .i64 x.e) := by
        rw [hgrow.cell_far _ (by simp) (fun e => by have := (hown.out.lt _ e.symm).2; simp at this)]; simp
      have e2 : w1.cell? ⟨wo.heap.size, 2, none⟩ = some (.string x.t) := by
        rw [hgrow.cell_far _ (by simp) (fun e => by have := (hown.out.lt _ e.symm).2; simp at this)]; simp
      have hE : Hid (∃ cs, w1.heap[wo.heap.size]? = some (.cells cs 35 (0, 0))) := ⟨_, by
        rw [hgrow.block _ (by simp) (fun e => by have := (hown.out.lt _ e.symm).2; simp at this)]; exact heap_alloc_new _ _⟩
      have hlen1 : (acc ++ (text.drop q.toNat).take (x.s.toNat - q.toNat)).length + x.t.size ≤ 100000 := by rw [List.length_append, HPL.out]; omega
      generalize acc ++ (text.drop q.toNat).take (x.s.toNat - q.toNat) = acc1 at *
      have hz1 := hgrow.size
      simp at hz1
      clear hown' hgrow hown HS hsl HPL h0 h1 h2
      go_wp2_with fail
      go_loopw [5, 26] (fun v j wr => ∃ (m : Nat) (acc2 : List Tb), m ≤ x.t.size ∧ j = .int .i64 m ∧ acc2.length ≤ acc1.length + m ∧ Hid (acc2 = acc1 ++ (insT x.t).take m) ∧ Hid (OwnsT 67 wr w.heap.size v acc2) ∧ Below w.heap.size w wr ∧ wr.cell? ⟨wo.heap.size, 1, none⟩ = some (.int .i64 x.e) ∧ wr.cell? ⟨wo.heap.size, 2, none⟩ = some (.string x.t) ∧ Hid (∃ cs, wr.heap[wo.heap.size]? = some (.cells cs 35 (0, 0))))
        (fun _ j _ => x.t.size - (intOf j).toNat)
      case atStart => exact ⟨0, acc1, Nat.zero_le _, rfl, Nat.le_refl _, by show _ = _; simp, hown1, hb1, e1, e2, hE⟩
      case round =>
        clear hown1 hb1 e1 e2 hE hz1 hb hzw
        obtain ⟨m, acc2, hm, rfl, hal, ha2, hown, hb, e1, e2, hE⟩ := hrel
        have hzw := hb.size
        by_cases hmt : m < x.t.size
        · have ha3 : Hid (acc2 ++ [⟨x.t[m], -1⟩] = acc1 ++ (insT x.t).take (m + 1)) := by show _ = _; rw [ha2.out, ins_step hmt, List.append_assoc]
          clear ha2
          go_wp2_with (at_builtin; refine wpList_append_own _ rfl (.tmp 29) (.tmp 35) 59 rfl w.heap.size 67 i0 _ 2 16 Try.underlying59 hi hz0 hz1 hz2 rfl (by decide) _ _ _ rfl (hown.out.alloc _) ⟨wr.heap.size, 0, none⟩ 1 1 [.int .u8 x.t[m].toNat, .int .i64 (-1)] rfl rfl (World.news_of_block (heap_alloc_new wr _)) (by simp [Value.oneCell']) (by unfold maxLen; omega) (by omega) (by simp; omega) ?_)
          intro v' w3 hown' hgrow _
          have hown3 : Hid (OwnsT 67 w3 w.heap.size v' (acc2 ++ [⟨x.t[m], -1⟩])) := by
            show World.ownsRow _ _ _ _ _ _ _
            rw [List.length_append, tbCells_append]
            exact hown'
          have hb3 : Below w.heap.size w w3 := (hb.alloc hzw _).grown hgrow (by simp; omega) (fun j hj => (hown.out.lt j hj).1)
          have hne : u5.ownBlock ≠ some wo.heap.size := by
            obtain ⟨cs, hcs⟩ := hE.out
            exact own_ne hown.out hcs (by decide)
          have hlt3 : wo.heap.size < (wr.alloc (.cells #[.int .u8 x.t[m].toNat, .int .i64 (-1)] 67)).heap.size := by
            obtain ⟨cs, hcs⟩ := hE.out
            have := (Array.getElem?_eq_some_iff.1 hcs).1
            simp; omega
          have hlt4 : wo.heap.size < wr.heap.size := by
            obtain ⟨cs, hcs⟩ := hE.out
            exact (Array.getElem?_eq_some_iff.1 hcs).1
          have e3 : w3.cell? ⟨wo.heap.size, 1, none⟩ = some (.int .i64 x.e) := by
            rw [hgrow.cell_far _ hlt3 (Ne.symm hne)]; rw [World.cell?_of_block (w := wr) (Below.heap_alloc _ _ _ (by simpa using hlt4))]; exact e1
          have e4 : w3.cell? ⟨wo.heap.size, 2, none⟩ = some (.string x.t) := by
            rw [hgrow.cell_far _ hlt3 (Ne.symm hne)]; rw [World.cell?_of_block (w := wr) (Below.heap_alloc _ _ _ (by simpa using hlt4))]; exact e2
          have hE3 : Hid (∃ cs, w3.heap[wo.heap.size]? = some (.cells cs 35 (0, 0))) := by
            obtain ⟨cs, hcs⟩ := hE.out
            refine ⟨cs, ?_⟩
            rw [hgrow.block _ hlt3 (Ne.symm hne), Below.heap_alloc _ _ _ (Array.getElem?_eq_some_iff.1 hcs).1]
            exact hcs
          clear hown' hgrow hown e1 e2 hE hne hlt3 hlt4
          go_wp2_with fail
          go_roundw
          case rel => exact ⟨m + 1, _, by omega, by go_num, by simp; omega, ha3, hown3, hb3, e3, e4, hE3⟩
          case measure => simp [intOf]; omega
        · have ha3 : Hid (rewL text l = acc2 ++ rewFrom text x.e (l.drop (k + 1))) := by
            show _ = _
            rw [hacc2.out, ha2.out, List.take_of_length_le (by rw [insT_length]; omega)]
          clear ha2 hacc2
          go_wp2_with fail
          go_roundw
          case rel => exact ⟨k + 1, x.e, acc2, by omega, by go_num, rfl, by omega, HORD, ha3, hown, hb⟩
          case measure => simp [intOf]; omega
    · have hq1 : q ≤ text.length := hor.out.le
      have hfin : Hid (rewL text l = acc ++ text.drop q.toNat) := by
        have := hacc.out
        rw [List.drop_eq_nil_of_le (by omega), rewFrom] at this
        exact this
      have hbd : acc.length + (text.length - q.toNat) ≤ 100000 := by
        have := hfin.out
        rw [this, List.length_append, List.length_drop] at hlen
        exact hlen
      obtain ⟨xv, hsl, hsrc⟩ := part_src_l (t := 59) Try.underlying59 rfl Try.sizeOf67 ht.out q hq0 hq1
      have HS := Lib.hid (hsrc wo (owns_below ht.out hb))
      clear hsrc hacc hor
      go_wp2_with (at_builtin; refine wpList_append_src rfl (.tmp 41) (.tmp 44) 59 rfl w.heap.size 67 i0 _ 2 16 Try.underlying59 hi hz0 hz1 hz2 rfl (by decide) _ _ _ rfl hown.out xv _ _ rfl HS.out (by unfold maxLen; omega) (by omega) (by omega) ?_)
      intro v1 w1 hown' hgrow
      have hown1 : Hid (OwnsT 67 w1 w.heap.size v1 (rewL text l)) := by
        show World.ownsRow _ _ _ _ _ _ _
        rw [hfin.out, List.length_append, tbCells_append, List.length_drop]
        exact hown'
      have hb1 : Below w.heap.size w w1 := hb.grown hgrow (by omega) (fun j hj => (hown.out.lt j hj).1)
      clear hown' hgrow hown HS hsl
      go_wp2_with fail
      go_ret
      exact ⟨_, rfl, hown1, hb1⟩
end Go.Proofs.Ytdmmoknddkfnmaa
