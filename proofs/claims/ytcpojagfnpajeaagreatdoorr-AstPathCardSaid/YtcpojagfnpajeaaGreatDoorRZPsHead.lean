/-
  newParser, by its contract: the parser before the first token.
  The next item, by its contract.
  A source, by the contract of parseFile.
-/
import Derived.Test.YtcpojagfnpajeaaGreatDoorRZPsCase
import Derived.Deep.DeepCutAuto
import Derived.StillTailTactics
namespace Go.Proofs.YtcpojagfnpajeaaGreatDoorR.Ps
open Go.RowKit

theorem idxs_append (k : Nat) (a c : List Tk) : idxs k (a ++ c) = idxs k a ++ idxs (k + a.length) c := by
  induction a generalizing k with
  | nil => simp [idxs]
  | cons t r ih =>
    simp only [List.cons_append, idxs, ih, List.length_cons]
    rw [show k + 1 + r.length = k + (r.length + 1) from by omega]
    split <;> simp

theorem idxs_take {l : List Tk} {k : Nat} {t : Tk} (h : l[k]? = some t) : idxs 0 (l.take (k + 1)) = idxs 0 (l.take k) ++ (if sigB t then [(k : Int)] else []) := by
  have hk := (List.getElem?_eq_some_iff.1 h).1
  rw [List.take_add_one, h, idxs_append]
  congr 1
  simp only [Option.toList, idxs, List.length_take, Nat.min_eq_left (Nat.le_of_lt hk), Nat.zero_add]

theorem idxs_le (k : Nat) (l : List Tk) : (idxs k l).length ≤ l.length := by rw [idxs_len]; exact List.length_filter_le _ _

abbrev newEnv (w w' : World) (ta : Option Addr) (tc : Nat) (l : List Tk) : Env := ⟨w.heap.size, w'.heap.size, l, ta, tc⟩
abbrev allBut (w w' : World) : Ho := ⟨fun j => j < w'.heap.size ∧ j ≠ w.heap.size, fun j => j < w.heap.size⟩

/-- The parser before the first token. -/
theorem new_at {w w' : World} {ta : Option Addr} {tc : Nat} {l : List Tk} {v : Value} (hb : w'.heap[w.heap.size]? = some (.cells #[.slice ta l.length tc, .int .i64 0, v, .slice none 0 0] 92 (0, 0))) (ho : OwnsI w' (w.heap.size + 1) v (idxs 0 l))
    (ht : TkS w' (· < w.heap.size) ta l) (hl : l.length ≤ 1000000) (hc : l.length ≤ tc) (hcm : tc ≤ maxLen) (htk : ∀ t, t ∈ l → I64 t.1 ∧ t.2.length ≤ maxLen) :
    At (newEnv w w' ta tc l) (allBut w w') w' ⟨[], l, false⟩ w' := by
  have hlt := (Array.getElem?_eq_some_iff.1 hb).1
  obtain ⟨a, cap, hv, hi, hn⟩ := ho.ints
  have hlen : (idxs 0 l).length = (sigs l).length := idxs_len 0 l
  have hcap : (idxs 0 l).length ≤ cap ∧ cap ≤ maxLen := by
    rcases ho.2 with ⟨e, h0⟩ | ⟨g, c, cur, e, _, _, h1, h2, _⟩
    · rw [hv] at e
      obtain ⟨_, _, e3⟩ := Value.slice.inj e
      exact ⟨by omega, by unfold maxLen; omega⟩
    · rw [hv] at e
      obtain ⟨_, _, e3⟩ := Value.slice.inj e
      exact ⟨by omega, by omega⟩
  rw [hv, hlen] at hb
  refine ⟨⟨0, a, cap, .slice none 0 0, [], 0, ⟨hb, Nat.zero_le _, by simp, by rw [← hlen]; exact hcap.1, hcap.2, ?_, World.ownsRow_nil _ _ _ _, rfl, Sub.nil _ _ _, fun g hg => (by cases hg), ?_, fun j hj => hj, fun j hj => hj.1, fun h => h.2 rfl, fun j hj => ⟨by have : j < w.heap.size := hj; omega, by have : j < w.heap.size := hj; omega⟩, hl, hc, hcm, htk⟩⟩, Fr.refl _ _⟩
  · refine hi.sub fun j hj => ?_
    have := World.ownsRow.lt ho j hj
    exact ⟨this.2, by show j ≠ w.heap.size; omega⟩
  · intro i x hx
    obtain ⟨b, o, h1, h2, h3⟩ := ht i x hx
    exact ⟨b, o, h1, ⟨by show b < w'.heap.size; omega, by show b ≠ w.heap.size; omega⟩, h3⟩

structure NInv (w : World) (ta : Option Addr) (tc : Nat) (l : List Tk) (k : Nat) (v : Value) (wr : World) : Prop where
  b : wr.heap[w.heap.size]? = some (.cells #[.slice ta l.length tc, .int .i64 0, v, .slice none 0 0] 92 (0, 0))
  own : OwnsI wr (w.heap.size + 1) v (idxs 0 (l.take k))
  low : Below w.heap.size w wr
  size : w.heap.size + 1 ≤ wr.heap.size

theorem NInv.grow {w : World} {ta : Option Addr} {tc : Nat} {l : List Tk} {k : Nat} {v : Value} {wr w2 : World} (h : NInv w ta tc l k v wr) (hb : Below wr.heap.size wr w2) : NInv w ta tc l k v w2 :=
  ⟨(hb.block _ (by have := h.size; omega)).trans h.b, owns_below h.own hb, h.low.trans (hb.mono h.low.size), Nat.le_trans h.size hb.size⟩

set_option maxRecDepth 100000 in
set_option maxHeartbeats 4000000 in
theorem new_any (w : World) (ta : Option Addr) (tc : Nat) (l : List Tk) (ht : TkS w (· < w.heap.size) ta l) (hl : l.length ≤ 1000000) (hc : l.length ≤ tc) (hcm : tc ≤ maxLen) (htk : ∀ t, t ∈ l → I64 t.1 ∧ t.2.length ≤ maxLen) :
    Calls Tryz.prog 49 #[.slice ta l.length tc] w fun e w' => e = .returned (.pointer (some ⟨w.heap.size, 0, none⟩)) ∧ At (newEnv w w' ta tc l) (allBut w w') w' ⟨[], l, false⟩ w' ∧ Below w.heap.size w w' := by
  obtain ⟨j0, ji, jz0, jz1, jz2⟩ := info_parts info_int
  obtain ⟨W0, hW0⟩ : ∃ W0, W0 = w.alloc (.cells #[.slice ta l.length tc, .int .i64 0, .slice none 0 0, .slice none 0 0] 92) := ⟨_, rfl⟩
  have HI0 : Hid (NInv w ta tc l 0 (.slice none 0 0) W0) := by
    rw [hW0]
    exact ⟨heap_alloc_new w _, OwnsI.nil _ _, (Below.refl _ _).alloc (Nat.le_refl _) _, by simp⟩
  have HT := Lib.hid ht
  have HK := Lib.hid htk
  have hl1 : (l.length : Int) ≤ 1000000 := by omega
  clear ht htk
  go_enter Tryz.func49, Tryz.ntmps49
  go_upto_region 2 with fail
  rw [← hW0]
  clear hW0
  go_wp2_with fail
  go_loopw [11] (fun i wr => ∃ (k : Nat) (v : Value), k ≤ l.length ∧ i = .int .i64 k ∧ Hid (NInv w ta tc l k v wr)) (fun i _ => l.length - (intOf i).toNat)
  case atStart => exact ⟨0, _, Nat.zero_le _, rfl, HI0⟩
  case round =>
    clear HI0
    obtain ⟨k, v, hk, rfl, HI⟩ := hrel
    by_cases hlt : k < l.length
    · obtain ⟨t, htt⟩ : ∃ t, l[k]? = some t := ⟨_, List.getElem?_eq_getElem hlt⟩
      obtain ⟨tb, tof, e0, e1, e2, e3⟩ := HT.out k t htt
      subst e0
      have d0 : wr.cell? ⟨tb, tof + k * 2, none⟩ = some (.int .i64 t.1) := (HI.out.low.cell (p := ⟨tb, _, none⟩) e1).trans e2
      have d1 : wr.cell? ⟨tb, tof + k * 2 + 1, none⟩ = some (.string (Lx.bs t.2)) := (HI.out.low.cell (p := ⟨tb, _, none⟩) e1).trans e3
      have hstep := idxs_take htt
      have HST := Lib.hid hstep
      have q0 : (k : Int) < (l.length : Int) := by omega
      have q1 : (0 : Int) ≤ (k : Int) := by omega
      have hsz := HI.out.size
      have htbl : tb < wr.heap.size := by have := HI.out.low.size; omega
      have hin := idxs_le 0 (l.take k)
      have hin2 : (idxs 0 (l.take k)).length ≤ 1000000 := by rw [List.length_take] at hin; omega
      clear htt hstep hin e2 e3
      have hskip : sigB t = false → Hid (NInv w (some ⟨tb, tof, none⟩) tc l (k + 1) v (wr.alloc (.cells #[.int .i64 t.1, .string (Lx.bs t.2)] 69))) := fun hs => by
        have h1 := HI.out.grow ((Below.refl _ _).alloc (Nat.le_refl _) (.cells #[.int .i64 t.1, .string (Lx.bs t.2)] 69))
        refine ⟨h1.b, ?_, h1.low, h1.size⟩
        rw [HST.out, hs]
        simpa using h1.own
      cases k1 : (t.1 == 101) with
      | true =>
        have HS := hskip (by unfold sigB; rw [bne, k1]; rfl)
        have n1 : (t.1 != 101) = false := by rw [bne, k1]; rfl
        clear hskip k1
        go_wp2_with fail
        go_roundw
        case rel => exact ⟨k + 1, v, by omega, by go_num, HS⟩
        case measure => simp [intOf]; omega
      | false =>
        cases k2 : (t.1 == 102) with
        | true =>
          have HS := hskip (by unfold sigB; rw [bne, bne, k1, k2]; rfl)
          have n1 : (t.1 != 101) = true := by rw [bne, k1]; rfl
          have n2 : (t.1 != 102) = false := by rw [bne, k2]; rfl
          clear hskip k1 k2
          go_wp2_with fail
          go_roundw
          case rel => exact ⟨k + 1, v, by omega, by go_num, HS⟩
          case measure => simp [intOf]; omega
        | false =>
          have hsig : sigB t = true := by unfold sigB; rw [bne, bne, k1, k2]; rfl
          have n1 : (t.1 != 101) = true := by rw [bne, k1]; rfl
          have n2 : (t.1 != 102) = true := by rw [bne, k2]; rfl
          clear hskip k1 k2
          rw [hsig] at HST
          obtain ⟨W2, hW2⟩ : ∃ W2, W2 = wr.alloc (.cells #[.int .i64 t.1, .string (Lx.bs t.2)] 69) := ⟨_, rfl⟩
          have HI2 := Lib.hid (HI.out.grow ((Below.refl _ _).alloc (Nat.le_refl _) (.cells #[.int .i64 t.1, .string (Lx.bs t.2)] 69)))
          rw [← hW2] at HI2
          go_upto_region 6 with fail
          rw [← hW2]
          clear hW2
          obtain ⟨_, _, f2, _, _, z2, _⟩ := four_cells HI2.out.b
          have hb2 : w.heap.size < W2.heap.size := by have := HI2.out.size; omega
          have hvb : v.ownBlock ≠ some w.heap.size := fun e => by have := (World.ownsRow.lt HI2.out.own _ e).1; omega
          have hba : (W2.alloc (.cells #[.int .i64 k] 3)).heap[w.heap.size]? = W2.heap[w.heap.size]? := Below.heap_alloc _ _ _ hb2
          have hlb2 : w.heap.size < (W2.alloc (.cells #[.int .i64 k] 3)).heap.size := by simp; omega
          go_wp2_with (at_builtin; refine wpList_append_lies _ rfl _ _ 83 rfl (w.heap.size + 1) 3 j0 (.int .i64 0) 1 8 Tryz.underlying83 ji jz0 jz1 jz2 rfl (by decide) v (idxs 0 (l.take k)).length (iCells (idxs 0 (l.take k))) rfl (World.ownsRow.alloc HI2.out.own _) ⟨W2.heap.size, 0, none⟩ 1 1 [.int .i64 k] rfl rfl (World.news_of_block (heap_alloc_new W2 _)) (by simp [Value.oneCell']) (by omega) (by unfold maxLen; omega) (by omega) (by simp; omega) (W2.heap.size + 1) (by simp) ?_; intro gg cap4 w4 hown4 hgrow4 hloc4 hlt4; have g3 := (hgrow4.cell_far ⟨w.heap.size, 2, none⟩ hlb2 (fun e => hvb e.symm)).trans ((World.cell?_of_block hba).trans f2); have g4 := (hgrow4.frozen_far ⟨w.heap.size, 2, none⟩ hlb2 (fun e => hvb e.symm)).trans ((World.frozen?_of_block hba).trans z2))
          have hgb : gg ≠ w.heap.size := by
            rcases hloc4 with e | e
            · intro e'; exact hvb (e.trans (by rw [e']))
            · omega
          have HN : Hid (NInv w (some ⟨tb, tof, none⟩) tc l (k + 1) (.slice (some ⟨gg, 0, none⟩) ((idxs 0 (l.take k)).length + 1) cap4) (w4.setCell ⟨w.heap.size, 2, none⟩ (.slice (some ⟨gg, 0, none⟩) ((idxs 0 (l.take k)).length + 1) cap4))) := by
            have hs4 := hgrow4.size
            simp at hs4
            refine ⟨set4_2 (((hgrow4.block _ hlb2 (fun e => hvb e.symm)).trans hba).trans HI2.out.b), ?_, ?_, by simp; omega⟩
            · refine owns_set ?_ _ _ (fun e => hgb (Option.some.inj e))
              show World.ownsRow _ _ _ _ _ _ _
              rw [HST.out, if_pos rfl, iCells_append, List.length_append]
              exact hown4
            · exact (((HI2.out.low.alloc (by have := HI2.out.low.size; omega) _).grown hgrow4 (by simp; have := HI2.out.low.size; omega) (fun q hq => by have := (World.ownsRow.lt HI2.out.own q hq).1; omega))).setCell (Nat.le_refl _) _
          clear hown4 hgrow4 hloc4 g3 g4 f2 z2 hba
          go_wp2_with fail
          go_roundw
          case rel => exact ⟨k + 1, _, by omega, by go_num, HN⟩
          case measure => simp [intOf]; omega
    · obtain rfl : k = l.length := by omega
      go_wp2_with fail
      first | go_ret | go_ret2
      have h1 := HI.out.own
      rw [List.take_length] at h1
      refine ⟨rfl, new_at HI.out.b h1 (fun i x hx => ?_) hl hc hcm HK.out, HI.out.low⟩
      obtain ⟨b, o, h2, h3, h4, h5⟩ := HT.out i x hx
      exact ⟨b, o, h2, h3, (HI.out.low.cell (p := ⟨b, _, none⟩) h3).trans h4, (HI.out.low.cell (p := ⟨b, _, none⟩) h3).trans h5⟩
end Go.Proofs.YtcpojagfnpajeaaGreatDoorR.Ps

namespace Go.Proofs.YtcpojagfnpajeaaGreatDoorR.Ps
open Go.RowKit Go.Shelf

/-- What nextItem hands back. -/
def itemRet (E : Env) : Option (Int × NT) → Value
  | none => .tuple #[.int .i64 46, .nilFunc]
  | some x => .tuple #[.int .i64 x.1, .func (.func ((fnum x.2).getD 0)) #[P E] #[]]

set_option maxRecDepth 100000 in
set_option maxHeartbeats 8000000 in
theorem next_any (E : Env) (A : Ho) (w0 w : World) (s : S) (h : At E A w0 s w) : Calls Tryz.prog 94 #[P E] w fun e w' => e = .returned (itemRet E (itemOf (keyword s))) ∧ At E A w0 s w' := by
  have f0 := run_field1 (pk s.rest 0).1 (Lx.bs (pk s.rest 0).2)
  have f1 := run_field1 (pk s.rest 1).1 (Lx.bs (pk s.rest 1).2)
  cases e0 : ((pk s.rest 0).2 == [112, 117, 98]) with
  | true =>
    have y0 : ((Lx.bs (pk s.rest 0).2).toList == [112, 117, 98]) = true := by rw [bs_list]; exact e0
    have hk : keyword s = (pk s.rest 1).2 := by rw [keyword, e0]; rfl
    rw [hk]
    cases e1 : ((pk s.rest 1).2 == [117, 115, 101]) with
    | true =>
      have y1 : ((Lx.bs (pk s.rest 1).2).toList == [117, 115, 101]) = true := by rw [bs_list]; exact e1
      have HO : Hid (itemOf (pk s.rest 1).2 = some (2, .useI)) := by show _ = _; rw [itemOf, e1]; rfl
      rw [HO.out]
      clear HO hk
      go_enter Tryz.func94, Tryz.ntmps94
      go_wp2_with fail
      refine (peek_any E 0 (by omega) A w0 _ s h).mono ?_
      rintro e v1 ⟨rfl, h1⟩
      go_wp2_with fail
      refine (peek_any E 1 (by omega) A w0 _ s h1).mono ?_
      rintro e v2 ⟨rfl, h2⟩
      go_wp2_with fail
      first | go_ret | go_ret2 | (refine bodyPost_ret (by simp [results, Tryz.results94, go_sem]; try rfl) rfl ?_)
      exact ⟨rfl, h2⟩
    | false =>
      have y1 : ((Lx.bs (pk s.rest 1).2).toList == [117, 115, 101]) = false := by rw [bs_list]; exact e1
      cases e2 : ((pk s.rest 1).2 == [102, 110]) with
      | true =>
        have y2 : ((Lx.bs (pk s.rest 1).2).toList == [102, 110]) = true := by rw [bs_list]; exact e2
        have HO : Hid (itemOf (pk s.rest 1).2 = some (3, .funcI)) := by show _ = _; rw [itemOf, e1, e2]; rfl
        rw [HO.out]
        clear HO hk
        go_enter Tryz.func94, Tryz.ntmps94
        go_wp2_with fail
        refine (peek_any E 0 (by omega) A w0 _ s h).mono ?_
        rintro e v3 ⟨rfl, h3⟩
        go_wp2_with fail
        refine (peek_any E 1 (by omega) A w0 _ s h3).mono ?_
        rintro e v4 ⟨rfl, h4⟩
        go_wp2_with fail
        first | go_ret | go_ret2 | (refine bodyPost_ret (by simp [results, Tryz.results94, go_sem]; try rfl) rfl ?_)
        exact ⟨rfl, h4⟩
      | false =>
        have y2 : ((Lx.bs (pk s.rest 1).2).toList == [102, 110]) = false := by rw [bs_list]; exact e2
        cases e3 : ((pk s.rest 1).2 == [115, 116, 114, 117, 99, 116]) with
        | true =>
          have y3 : ((Lx.bs (pk s.rest 1).2).toList == [115, 116, 114, 117, 99, 116]) = true := by rw [bs_list]; exact e3
          have HO : Hid (itemOf (pk s.rest 1).2 = some (4, .structI)) := by show _ = _; rw [itemOf, e1, e2, e3]; rfl
          rw [HO.out]
          clear HO hk
          go_enter Tryz.func94, Tryz.ntmps94
          go_wp2_with fail
          refine (peek_any E 0 (by omega) A w0 _ s h).mono ?_
          rintro e v5 ⟨rfl, h5⟩
          go_wp2_with fail
          refine (peek_any E 1 (by omega) A w0 _ s h5).mono ?_
          rintro e v6 ⟨rfl, h6⟩
          go_wp2_with fail
          first | go_ret | go_ret2 | (refine bodyPost_ret (by simp [results, Tryz.results94, go_sem]; try rfl) rfl ?_)
          exact ⟨rfl, h6⟩
        | false =>
          have y3 : ((Lx.bs (pk s.rest 1).2).toList == [115, 116, 114, 117, 99, 116]) = false := by rw [bs_list]; exact e3
          cases e4 : ((pk s.rest 1).2 == [101, 110, 117, 109]) with
          | true =>
            have y4 : ((Lx.bs (pk s.rest 1).2).toList == [101, 110, 117, 109]) = true := by rw [bs_list]; exact e4
            have HO : Hid (itemOf (pk s.rest 1).2 = some (5, .enumI)) := by show _ = _; rw [itemOf, e1, e2, e3, e4]; rfl
            rw [HO.out]
            clear HO hk
            go_enter Tryz.func94, Tryz.ntmps94
            go_wp2_with fail
            refine (peek_any E 0 (by omega) A w0 _ s h).mono ?_
            rintro e v7 ⟨rfl, h7⟩
            go_wp2_with fail
            refine (peek_any E 1 (by omega) A w0 _ s h7).mono ?_
            rintro e v8 ⟨rfl, h8⟩
            go_wp2_with fail
            first | go_ret | go_ret2 | (refine bodyPost_ret (by simp [results, Tryz.results94, go_sem]; try rfl) rfl ?_)
            exact ⟨rfl, h8⟩
          | false =>
            have y4 : ((Lx.bs (pk s.rest 1).2).toList == [101, 110, 117, 109]) = false := by rw [bs_list]; exact e4
            cases e5 : ((pk s.rest 1).2 == [116, 114, 97, 105, 116]) with
            | true =>
              have y5 : ((Lx.bs (pk s.rest 1).2).toList == [116, 114, 97, 105, 116]) = true := by rw [bs_list]; exact e5
              have HO : Hid (itemOf (pk s.rest 1).2 = some (6, .traitI)) := by show _ = _; rw [itemOf, e1, e2, e3, e4, e5]; rfl
              rw [HO.out]
              clear HO hk
              go_enter Tryz.func94, Tryz.ntmps94
              go_wp2_with fail
              refine (peek_any E 0 (by omega) A w0 _ s h).mono ?_
              rintro e v9 ⟨rfl, h9⟩
              go_wp2_with fail
              refine (peek_any E 1 (by omega) A w0 _ s h9).mono ?_
              rintro e v10 ⟨rfl, h10⟩
              go_wp2_with fail
              first | go_ret | go_ret2 | (refine bodyPost_ret (by simp [results, Tryz.results94, go_sem]; try rfl) rfl ?_)
              exact ⟨rfl, h10⟩
            | false =>
              have y5 : ((Lx.bs (pk s.rest 1).2).toList == [116, 114, 97, 105, 116]) = false := by rw [bs_list]; exact e5
              cases e6 : ((pk s.rest 1).2 == [105, 109, 112, 108]) with
              | true =>
                have y6 : ((Lx.bs (pk s.rest 1).2).toList == [105, 109, 112, 108]) = true := by rw [bs_list]; exact e6
                have HO : Hid (itemOf (pk s.rest 1).2 = some (7, .implI)) := by show _ = _; rw [itemOf, e1, e2, e3, e4, e5, e6]; rfl
                rw [HO.out]
                clear HO hk
                go_enter Tryz.func94, Tryz.ntmps94
                go_wp2_with fail
                refine (peek_any E 0 (by omega) A w0 _ s h).mono ?_
                rintro e v11 ⟨rfl, h11⟩
                go_wp2_with fail
                refine (peek_any E 1 (by omega) A w0 _ s h11).mono ?_
                rintro e v12 ⟨rfl, h12⟩
                go_wp2_with fail
                first | go_ret | go_ret2 | (refine bodyPost_ret (by simp [results, Tryz.results94, go_sem]; try rfl) rfl ?_)
                exact ⟨rfl, h12⟩
              | false =>
                have y6 : ((Lx.bs (pk s.rest 1).2).toList == [105, 109, 112, 108]) = false := by rw [bs_list]; exact e6
                cases e7 : ((pk s.rest 1).2 == [99, 111, 110, 115, 116]) with
                | true =>
                  have y7 : ((Lx.bs (pk s.rest 1).2).toList == [99, 111, 110, 115, 116]) = true := by rw [bs_list]; exact e7
                  have HO : Hid (itemOf (pk s.rest 1).2 = some (8, .constI)) := by show _ = _; rw [itemOf, e1, e2, e3, e4, e5, e6, e7]; rfl
                  rw [HO.out]
                  clear HO hk
                  go_enter Tryz.func94, Tryz.ntmps94
                  go_wp2_with fail
                  refine (peek_any E 0 (by omega) A w0 _ s h).mono ?_
                  rintro e v13 ⟨rfl, h13⟩
                  go_wp2_with fail
                  refine (peek_any E 1 (by omega) A w0 _ s h13).mono ?_
                  rintro e v14 ⟨rfl, h14⟩
                  go_wp2_with fail
                  first | go_ret | go_ret2 | (refine bodyPost_ret (by simp [results, Tryz.results94, go_sem]; try rfl) rfl ?_)
                  exact ⟨rfl, h14⟩
                | false =>
                  have y7 : ((Lx.bs (pk s.rest 1).2).toList == [99, 111, 110, 115, 116]) = false := by rw [bs_list]; exact e7
                  cases e8 : ((pk s.rest 1).2 == [109, 97, 99, 114, 111]) with
                  | true =>
                    have y8 : ((Lx.bs (pk s.rest 1).2).toList == [109, 97, 99, 114, 111]) = true := by rw [bs_list]; exact e8
                    have HO : Hid (itemOf (pk s.rest 1).2 = some (9, .macroI)) := by show _ = _; rw [itemOf, e1, e2, e3, e4, e5, e6, e7, e8]; rfl
                    rw [HO.out]
                    clear HO hk
                    go_enter Tryz.func94, Tryz.ntmps94
                    go_wp2_with fail
                    refine (peek_any E 0 (by omega) A w0 _ s h).mono ?_
                    rintro e v15 ⟨rfl, h15⟩
                    go_wp2_with fail
                    refine (peek_any E 1 (by omega) A w0 _ s h15).mono ?_
                    rintro e v16 ⟨rfl, h16⟩
                    go_wp2_with fail
                    first | go_ret | go_ret2 | (refine bodyPost_ret (by simp [results, Tryz.results94, go_sem]; try rfl) rfl ?_)
                    exact ⟨rfl, h16⟩
                  | false =>
                    have y8 : ((Lx.bs (pk s.rest 1).2).toList == [109, 97, 99, 114, 111]) = false := by rw [bs_list]; exact e8
                    have HO : Hid (itemOf (pk s.rest 1).2 = none) := by show _ = _; rw [itemOf, e1, e2, e3, e4, e5, e6, e7, e8]; rfl
                    rw [HO.out]
                    clear HO hk
                    go_enter Tryz.func94, Tryz.ntmps94
                    go_wp2_with fail
                    refine (peek_any E 0 (by omega) A w0 _ s h).mono ?_
                    rintro e v17 ⟨rfl, h17⟩
                    go_wp2_with fail
                    refine (peek_any E 1 (by omega) A w0 _ s h17).mono ?_
                    rintro e v18 ⟨rfl, h18⟩
                    go_wp2_with fail
                    first | go_ret | go_ret2 | (refine bodyPost_ret (by simp [results, Tryz.results94, go_sem]; try rfl) rfl ?_)
                    exact ⟨rfl, h18⟩
  | false =>
    have y0 : ((Lx.bs (pk s.rest 0).2).toList == [112, 117, 98]) = false := by rw [bs_list]; exact e0
    have hk : keyword s = (pk s.rest 0).2 := by rw [keyword, e0]; rfl
    rw [hk]
    cases e1 : ((pk s.rest 0).2 == [117, 115, 101]) with
    | true =>
      have y1 : ((Lx.bs (pk s.rest 0).2).toList == [117, 115, 101]) = true := by rw [bs_list]; exact e1
      have HO : Hid (itemOf (pk s.rest 0).2 = some (2, .useI)) := by show _ = _; rw [itemOf, e1]; rfl
      rw [HO.out]
      clear HO hk
      go_enter Tryz.func94, Tryz.ntmps94
      go_wp2_with fail
      refine (peek_any E 0 (by omega) A w0 _ s h).mono ?_
      rintro e v19 ⟨rfl, h19⟩
      go_wp2_with fail
      first | go_ret | go_ret2 | (refine bodyPost_ret (by simp [results, Tryz.results94, go_sem]; try rfl) rfl ?_)
      exact ⟨rfl, h19⟩
    | false =>
      have y1 : ((Lx.bs (pk s.rest 0).2).toList == [117, 115, 101]) = false := by rw [bs_list]; exact e1
      cases e2 : ((pk s.rest 0).2 == [102, 110]) with
      | true =>
        have y2 : ((Lx.bs (pk s.rest 0).2).toList == [102, 110]) = true := by rw [bs_list]; exact e2
        have HO : Hid (itemOf (pk s.rest 0).2 = some (3, .funcI)) := by show _ = _; rw [itemOf, e1, e2]; rfl
        rw [HO.out]
        clear HO hk
        go_enter Tryz.func94, Tryz.ntmps94
        go_wp2_with fail
        refine (peek_any E 0 (by omega) A w0 _ s h).mono ?_
        rintro e v20 ⟨rfl, h20⟩
        go_wp2_with fail
        first | go_ret | go_ret2 | (refine bodyPost_ret (by simp [results, Tryz.results94, go_sem]; try rfl) rfl ?_)
        exact ⟨rfl, h20⟩
      | false =>
        have y2 : ((Lx.bs (pk s.rest 0).2).toList == [102, 110]) = false := by rw [bs_list]; exact e2
        cases e3 : ((pk s.rest 0).2 == [115, 116, 114, 117, 99, 116]) with
        | true =>
          have y3 : ((Lx.bs (pk s.rest 0).2).toList == [115, 116, 114, 117, 99, 116]) = true := by rw [bs_list]; exact e3
          have HO : Hid (itemOf (pk s.rest 0).2 = some (4, .structI)) := by show _ = _; rw [itemOf, e1, e2, e3]; rfl
          rw [HO.out]
          clear HO hk
          go_enter Tryz.func94, Tryz.ntmps94
          go_wp2_with fail
          refine (peek_any E 0 (by omega) A w0 _ s h).mono ?_
          rintro e v21 ⟨rfl, h21⟩
          go_wp2_with fail
          first | go_ret | go_ret2 | (refine bodyPost_ret (by simp [results, Tryz.results94, go_sem]; try rfl) rfl ?_)
          exact ⟨rfl, h21⟩
        | false =>
          have y3 : ((Lx.bs (pk s.rest 0).2).toList == [115, 116, 114, 117, 99, 116]) = false := by rw [bs_list]; exact e3
          cases e4 : ((pk s.rest 0).2 == [101, 110, 117, 109]) with
          | true =>
            have y4 : ((Lx.bs (pk s.rest 0).2).toList == [101, 110, 117, 109]) = true := by rw [bs_list]; exact e4
            have HO : Hid (itemOf (pk s.rest 0).2 = some (5, .enumI)) := by show _ = _; rw [itemOf, e1, e2, e3, e4]; rfl
            rw [HO.out]
            clear HO hk
            go_enter Tryz.func94, Tryz.ntmps94
            go_wp2_with fail
            refine (peek_any E 0 (by omega) A w0 _ s h).mono ?_
            rintro e v22 ⟨rfl, h22⟩
            go_wp2_with fail
            first | go_ret | go_ret2 | (refine bodyPost_ret (by simp [results, Tryz.results94, go_sem]; try rfl) rfl ?_)
            exact ⟨rfl, h22⟩
          | false =>
            have y4 : ((Lx.bs (pk s.rest 0).2).toList == [101, 110, 117, 109]) = false := by rw [bs_list]; exact e4
            cases e5 : ((pk s.rest 0).2 == [116, 114, 97, 105, 116]) with
            | true =>
              have y5 : ((Lx.bs (pk s.rest 0).2).toList == [116, 114, 97, 105, 116]) = true := by rw [bs_list]; exact e5
              have HO : Hid (itemOf (pk s.rest 0).2 = some (6, .traitI)) := by show _ = _; rw [itemOf, e1, e2, e3, e4, e5]; rfl
              rw [HO.out]
              clear HO hk
              go_enter Tryz.func94, Tryz.ntmps94
              go_wp2_with fail
              refine (peek_any E 0 (by omega) A w0 _ s h).mono ?_
              rintro e v23 ⟨rfl, h23⟩
              go_wp2_with fail
              first | go_ret | go_ret2 | (refine bodyPost_ret (by simp [results, Tryz.results94, go_sem]; try rfl) rfl ?_)
              exact ⟨rfl, h23⟩
            | false =>
              have y5 : ((Lx.bs (pk s.rest 0).2).toList == [116, 114, 97, 105, 116]) = false := by rw [bs_list]; exact e5
              cases e6 : ((pk s.rest 0).2 == [105, 109, 112, 108]) with
              | true =>
                have y6 : ((Lx.bs (pk s.rest 0).2).toList == [105, 109, 112, 108]) = true := by rw [bs_list]; exact e6
                have HO : Hid (itemOf (pk s.rest 0).2 = some (7, .implI)) := by show _ = _; rw [itemOf, e1, e2, e3, e4, e5, e6]; rfl
                rw [HO.out]
                clear HO hk
                go_enter Tryz.func94, Tryz.ntmps94
                go_wp2_with fail
                refine (peek_any E 0 (by omega) A w0 _ s h).mono ?_
                rintro e v24 ⟨rfl, h24⟩
                go_wp2_with fail
                first | go_ret | go_ret2 | (refine bodyPost_ret (by simp [results, Tryz.results94, go_sem]; try rfl) rfl ?_)
                exact ⟨rfl, h24⟩
              | false =>
                have y6 : ((Lx.bs (pk s.rest 0).2).toList == [105, 109, 112, 108]) = false := by rw [bs_list]; exact e6
                cases e7 : ((pk s.rest 0).2 == [99, 111, 110, 115, 116]) with
                | true =>
                  have y7 : ((Lx.bs (pk s.rest 0).2).toList == [99, 111, 110, 115, 116]) = true := by rw [bs_list]; exact e7
                  have HO : Hid (itemOf (pk s.rest 0).2 = some (8, .constI)) := by show _ = _; rw [itemOf, e1, e2, e3, e4, e5, e6, e7]; rfl
                  rw [HO.out]
                  clear HO hk
                  go_enter Tryz.func94, Tryz.ntmps94
                  go_wp2_with fail
                  refine (peek_any E 0 (by omega) A w0 _ s h).mono ?_
                  rintro e v25 ⟨rfl, h25⟩
                  go_wp2_with fail
                  first | go_ret | go_ret2 | (refine bodyPost_ret (by simp [results, Tryz.results94, go_sem]; try rfl) rfl ?_)
                  exact ⟨rfl, h25⟩
                | false =>
                  have y7 : ((Lx.bs (pk s.rest 0).2).toList == [99, 111, 110, 115, 116]) = false := by rw [bs_list]; exact e7
                  cases e8 : ((pk s.rest 0).2 == [109, 97, 99, 114, 111]) with
                  | true =>
                    have y8 : ((Lx.bs (pk s.rest 0).2).toList == [109, 97, 99, 114, 111]) = true := by rw [bs_list]; exact e8
                    have HO : Hid (itemOf (pk s.rest 0).2 = some (9, .macroI)) := by show _ = _; rw [itemOf, e1, e2, e3, e4, e5, e6, e7, e8]; rfl
                    rw [HO.out]
                    clear HO hk
                    go_enter Tryz.func94, Tryz.ntmps94
                    go_wp2_with fail
                    refine (peek_any E 0 (by omega) A w0 _ s h).mono ?_
                    rintro e v26 ⟨rfl, h26⟩
                    go_wp2_with fail
                    first | go_ret | go_ret2 | (refine bodyPost_ret (by simp [results, Tryz.results94, go_sem]; try rfl) rfl ?_)
                    exact ⟨rfl, h26⟩
                  | false =>
                    have y8 : ((Lx.bs (pk s.rest 0).2).toList == [109, 97, 99, 114, 111]) = false := by rw [bs_list]; exact e8
                    have HO : Hid (itemOf (pk s.rest 0).2 = none) := by show _ = _; rw [itemOf, e1, e2, e3, e4, e5, e6, e7, e8]; rfl
                    rw [HO.out]
                    clear HO hk
                    go_enter Tryz.func94, Tryz.ntmps94
                    go_wp2_with fail
                    refine (peek_any E 0 (by omega) A w0 _ s h).mono ?_
                    rintro e v27 ⟨rfl, h27⟩
                    go_wp2_with fail
                    first | go_ret | go_ret2 | (refine bodyPost_ret (by simp [results, Tryz.results94, go_sem]; try rfl) rfl ?_)
                    exact ⟨rfl, h27⟩

theorem item_num {x : List UInt8} {K : Int} {nt : NT} (h : itemOf x = some (K, nt)) : I64 K ∧ ∃ f, fnum nt = some f ∧ (∀ E, argsOf E nt = #[P E]) ∧ ∀ xs W, (callFunc f xs).run Tryz.prog W = .ok (.enter f xs) W := by
  unfold itemOf at h
  by_cases c54 : (x == [117, 115, 101]) = true
  · rw [if_pos c54] at h
    cases h
    exact ⟨by unfold I64; omega, 155, rfl, fun _ => rfl, enters_of Tryz.func155 (by kernel_rfl) rfl⟩
  rw [if_neg c54] at h
  by_cases c55 : (x == [102, 110]) = true
  · rw [if_pos c55] at h
    cases h
    exact ⟨by unfold I64; omega, 156, rfl, fun _ => rfl, enters_of Tryz.func156 (by kernel_rfl) rfl⟩
  rw [if_neg c55] at h
  by_cases c56 : (x == [115, 116, 114, 117, 99, 116]) = true
  · rw [if_pos c56] at h
    cases h
    exact ⟨by unfold I64; omega, 157, rfl, fun _ => rfl, enters_of Tryz.func157 (by kernel_rfl) rfl⟩
  rw [if_neg c56] at h
  by_cases c57 : (x == [101, 110, 117, 109]) = true
  · rw [if_pos c57] at h
    cases h
    exact ⟨by unfold I64; omega, 158, rfl, fun _ => rfl, enters_of Tryz.func158 (by kernel_rfl) rfl⟩
  rw [if_neg c57] at h
  by_cases c58 : (x == [116, 114, 97, 105, 116]) = true
  · rw [if_pos c58] at h
    cases h
    exact ⟨by unfold I64; omega, 159, rfl, fun _ => rfl, enters_of Tryz.func159 (by kernel_rfl) rfl⟩
  rw [if_neg c58] at h
  by_cases c59 : (x == [105, 109, 112, 108]) = true
  · rw [if_pos c59] at h
    cases h
    exact ⟨by unfold I64; omega, 160, rfl, fun _ => rfl, enters_of Tryz.func160 (by kernel_rfl) rfl⟩
  rw [if_neg c59] at h
  by_cases c60 : (x == [99, 111, 110, 115, 116]) = true
  · rw [if_pos c60] at h
    cases h
    exact ⟨by unfold I64; omega, 161, rfl, fun _ => rfl, enters_of Tryz.func161 (by kernel_rfl) rfl⟩
  rw [if_neg c60] at h
  by_cases c61 : (x == [109, 97, 99, 114, 111]) = true
  · rw [if_pos c61] at h
    cases h
    exact ⟨by unfold I64; omega, 162, rfl, fun _ => rfl, enters_of Tryz.func162 (by kernel_rfl) rfl⟩
  rw [if_neg c61] at h
  cases h
end Go.Proofs.YtcpojagfnpajeaaGreatDoorR.Ps

namespace Go.Proofs.YtcpojagfnpajeaaGreatDoorR.Ps
open Go.RowKit Go.Shelf

set_option maxRecDepth 100000 in
set_option maxHeartbeats 2000000 in
theorem clo34 (E : Env) (n : Nat) (nt : NT) (f : Nat) (hf : Does E f #[P E] (run n nt)) (hen : ∀ xs W, (callFunc f xs).run Tryz.prog W = .ok (.enter f xs) W) (bp bq : Nat) (A : Ho) (w0 w : World) (s s' : S) (hb : BoxAt E A w0 bp) (hq : BoxV A w0 bq (.func (.func f) #[P E] #[]) 1) (h : At E A w0 s w) (hr : (seq [accept [112, 117, 98], take, run n nt]) s = some s') : Calls Tryz.prog 97 #[.pointer (some ⟨bp, 0, none⟩), .pointer (some ⟨bq, 0, none⟩)] w fun e w' => e = .returned (.tuple #[]) ∧ At E A w0 s' w' := by
  have c1 := hb.cell h
  have z1 := hb.lt h
  have d1 := hq.cell h
  have y1 := hq.lt h
  go_enter Tryz.func97, Tryz.ntmps97
  go_wp2_with fail
  obtain ⟨m2, p2, q2⟩ := seq_some hr
  cases x3 : atB [112, 117, 98] s with
  | true =>
    refine (accept_any E _ [112, 117, 98] rfl A w0 _ s m2 true x3 h (acc_some p2 true x3)).mono ?_
    rintro e v4 ⟨rfl, h4⟩
    clear c1 d1 z1 y1
    have c5 := hb.cell h4
    have z5 := hb.lt h4
    have d5 := hq.cell h4
    have y5 := hq.lt h4
    go_wp2_with fail
    obtain ⟨m6, p6, q6⟩ := seq_some q2
    refine (take_does E A w0 _ m2 m6 h4 p6).mono ?_
    rintro e v7 ⟨rfl, h7⟩
    clear c5 d5 z5 y5
    have c8 := hb.cell h7
    have z8 := hb.lt h7
    have d8 := hq.cell h7
    have y8 := hq.lt h7
    go_wp2_with fail
    obtain ⟨m9, p9, q9⟩ := seq_some q6
    refine (hf A w0 _ m6 m9 h7 p9).mono ?_
    rintro e v10 ⟨rfl, h10⟩
    clear c8 d8 z8 y8
    have c11 := hb.cell h10
    have z11 := hb.lt h10
    have d11 := hq.cell h10
    have y11 := hq.lt h10
    go_wp2_with fail
    have g12 : At E A w0 s' _ := (by rw [seq_nil q9]; exact h10)
    first | go_end0 | refine bodyPost_ret (results_none rfl _ _ _) rfl ?_
    exact ⟨rfl, g12⟩
  | false =>
    refine (accept_any E _ [112, 117, 98] rfl A w0 _ s m2 false x3 h (acc_some p2 false x3)).mono ?_
    rintro e v13 ⟨rfl, h13⟩
    clear c1 d1 z1 y1
    have c14 := hb.cell h13
    have z14 := hb.lt h13
    have d14 := hq.cell h13
    have y14 := hq.lt h13
    go_wp2_with fail
    obtain ⟨m15, p15, q15⟩ := seq_some q2
    refine (take_does E A w0 _ m2 m15 h13 p15).mono ?_
    rintro e v16 ⟨rfl, h16⟩
    clear c14 d14 z14 y14
    have c17 := hb.cell h16
    have z17 := hb.lt h16
    have d17 := hq.cell h16
    have y17 := hq.lt h16
    go_wp2_with fail
    obtain ⟨m18, p18, q18⟩ := seq_some q15
    refine (hf A w0 _ m15 m18 h16 p18).mono ?_
    rintro e v19 ⟨rfl, h19⟩
    clear c17 d17 z17 y17
    have c20 := hb.cell h19
    have z20 := hb.lt h19
    have d20 := hq.cell h19
    have y20 := hq.lt h19
    go_wp2_with fail
    have g21 : At E A w0 s' _ := (by rw [seq_nil q18]; exact h19)
    first | go_end0 | refine bodyPost_ret (results_none rfl _ _ _) rfl ?_
    exact ⟨rfl, g21⟩

/-- All tokens are taken: behind the store. -/
theorem PSG.allTaken {E : Env} {A : Ho} {s : S} {w : World} {k : Nat} {aa : Option Addr} {ac : Nat} {v : Value} {l : List (Tree × Option Addr × Nat)} {m : Nat} {w0 : World} (h : PSG E A s w k aa ac v l m) (hf : Fr A.h w0 w) (hs : atEnd s = true) :
    At E A w0 { s with rest := [] } (w.setCell ⟨E.b, 1, none⟩ (.int .i64 ((E.tk.length : Nat) : Int))) := by
  have h0 : sigs s.rest = [] := by unfold atEnd at hs; simpa using hs
  have hset : ∀ (B : Nat → Prop) (u : Value), (∀ j, B j → j ≠ E.b) → Kept B w (w.setCell ⟨E.b, 1, none⟩ u) := fun B u hB b o hb => World.cell?_of_block (heap_setCell_other w ⟨E.b, 1, none⟩ b u (fun e => hB b hb e))
  have hblk : ∀ j (u : Value), j ≠ E.b → (w.setCell ⟨E.b, 1, none⟩ u).heap[j]? = w.heap[j]? := fun j u hj => heap_setCell_other w ⟨E.b, 1, none⟩ j u (fun e => hj e)
  have hb := set4_1 (u := .int .i64 ((E.tk.length : Nat) : Int)) h.hb
  rw [h0] at hb
  refine ⟨⟨E.tk.length, aa, ac, v, l, m, ⟨hb, Nat.le_refl _, by simp, by show (0 : Nat) ≤ _; omega, h.acm, ?_, ?_, h.ch, ?_, h.row, h.tks.kept (hset _ _ fun _ hj => hj.2), h.base, fun j hj => (by simp; exact h.lt j hj), h.nb, h.rh, h.tl, h.tcm, h.tcl, h.toks⟩⟩, ?_⟩
  · intro i z hz
    simp [idxs] at hz
  · refine ⟨h.own.1, ?_⟩
    rcases h.own.2 with hn | ⟨g, cap, cur, rfl, hg, hgg, rest⟩
    · exact .inl hn
    · exact .inr ⟨g, cap, cur, rfl, hg, (hblk g _ (h.row g rfl).2).trans hgg, rest⟩
  · exact (h.sub.kept (hset _ _ fun _ hj => hj.2.1)).up (fun j hj => ⟨hj.1.set _ _, hj.2⟩) (Nat.le_refl _)
  · exact hf.trans ⟨rfl, rfl, rfl, by simp, fun j hj => hblk j _ (fun e => h.nb (e ▸ hj))⟩

theorem takeAll_some {s s' : S} (h : takeAll s = some s') : s.ch.length + s.rest.length < 1000000 ∧ s' = { s with ch := s.ch ++ s.rest.map tokTree, rest := [] } := by
  unfold takeAll at h
  split at h
  · rename_i q; exact ⟨q, (Option.some.inj h).symm⟩
  · cases h

theorem run_nil_eq (W : World) : (binOp BinOp.eql 1 Value.nilFunc Value.nilFunc).run Tryz.prog W = .ok (.bool true) W := by kernel_rfl
theorem run_fn_eq (f : FuncId) (xs ys : Array Value) (W : World) : (binOp BinOp.eql 1 (.func (.func f) xs ys) Value.nilFunc).run Tryz.prog W = .ok (.bool false) W := by kernel_rfl

set_option maxRecDepth 100000 in
set_option maxHeartbeats 8000000 in
theorem file_does (E : Env) (H : ∀ n, Specs E n) (n : Nat) : Does E 50 #[P E] (run n .file) := by
  intro A w0 w s s' h hr
  obtain ⟨w1, A1, hw1, h0, hb, hlt, hback⟩ := box_enter h
  have c0 := hb.cell h0
  have z0 := hb.lt h0
  go_enter Tryz.func50, Tryz.ntmps50
  go_upto_region 1 with fail
  rw [← hw1]
  clear hw1
  go_loopg [] (n) (fun k wr => ∃ s1, Hid (k ≤ n ∧ run k .file s1 = some s') ∧ Hid (At E A1 w1 s1 wr))
  case atStart => exact ⟨s, ⟨Nat.le_refl _, hr⟩, h0⟩
  case round =>
    clear c0 z0
    obtain ⟨a, kq, ha⟩ := hrel
    have ha := ha.out
    cases gk with
    | zero => exact absurd kq.out.2 (by simp [run])
    | succ k =>
      have le : k ≤ n := by have := kq.out.1; omega
      have r : cond atEnd takeAll (seq [fun s => match itemOf (keyword s) with | none => node 46 (run k .skip) s | some x => node x.1 (seq [accept [112, 117, 98], take, run k x.2]) s, run k .file]) a = some s' := kq.out.2
      have c1 := hb.cell ha
      have z1 := hb.lt ha
      cases he : atEnd a with
      | true =>
        obtain ⟨hlim, hs'⟩ := takeAll_some (cond_true r he)
        go_upto_region 1 with fail
        go_wp2_with fail
        refine (atEnd_any E A1 w1 _ a true he ha).mono ?_
        rintro e v1 ⟨rfl, h1⟩
        clear c1 z1
        obtain ⟨⟨pk_, aa, ac, pv, pl, pm, hp⟩, hpf⟩ := h1
        have hrl : a.rest.length ≤ E.tk.length := by rw [hp.rest, List.length_drop]; omega
        have KT := Lib.hid (takeTo_any E A1 w1 v1.drew a a.rest.length (At.drew ⟨⟨pk_, aa, ac, pv, pl, pm, hp⟩, hpf⟩) (Nat.le_refl _) hlim)
        rw [show E.tk.length - a.rest.length + a.rest.length = E.tk.length from by omega] at KT
        have c2 : v1.cell? ⟨w.heap.size, 0, none⟩ = some (P E) := hb.cell ⟨⟨pk_, aa, ac, pv, pl, pm, hp⟩, hpf⟩
        have z2 : w.heap.size < v1.heap.size := hb.lt ⟨⟨pk_, aa, ac, pv, pl, pm, hp⟩, hpf⟩
        have c2' : v1.drew.cell? ⟨w.heap.size, 0, none⟩ = some (P E) := c2
        obtain ⟨d0, _⟩ := four_cells hp.hb
        have d0' : v1.drew.cell? ⟨E.b, 0, none⟩ = some (.slice E.ta E.tk.length E.tc) := d0
        have hs2 : Hid (s' = { a with ch := a.ch ++ a.rest.map tokTree, rest := [] }) := hs'
        clear hp hpf hrl hs'
        go_upto_region 6 with fail
        go_still_tail 6, (by kernel_rfl)
        change wpList _ _ _ _ _ v1.drew
        go_wp2_with fail
        refine KT.out.mono ?_
        rintro e v2 ⟨rfl, v3, h3, rfl⟩
        go_wp2_with fail
        first | go_end0 | refine bodyPost_ret (results_none rfl _ _ _) rfl ?_
        refine ⟨rfl, hback _ _ ?_⟩
        obtain ⟨⟨k3, aa3, ac3, pv3, pl3, pm3, hp3⟩, hpf3⟩ := h3
        have := hp3.allTaken hpf3 he
        rw [hs2.out]
        rw [List.take_length] at this
        exact this
      | false =>
        obtain ⟨m, p, q⟩ := seq_some (cond_false r he)
        obtain ⟨m2, p2, q2⟩ := seq_some q
        rw [← seq_nil q2] at p2
        go_upto_region 1 with fail
        go_wp2_with fail
        refine (atEnd_any E A1 w1 _ a false he ha).mono ?_
        rintro e v1 ⟨rfl, h1⟩
        have c2 := hb.cell h1
        have z2 := hb.lt h1
        clear c1 z1
        go_wp2_with fail
        refine (next_any E A1 w1 _ a h1).mono ?_
        rintro e v2 ⟨rfl, h2⟩
        have c3 := hb.cell h2
        have z3 := hb.lt h2
        clear c2 z2
        cases ho : itemOf (keyword a) with
        | none =>
          have p3 : node 46 (run k .skip) a = some m := by have := p; simp only [ho] at this; exact this
          unfold itemRet
          have e1 := run_nil_eq
          have e2 := run_fn_eq
          go_wp2_with (fail)
          refine (node_any E 46 (by unfold I64; omega) _ _ A1 w1 _ a m (Does.clo ((H k).v .skip 96 rfl) (enters_of Tryz.func96 (by kernel_rfl) rfl) A1 _) (h2.alloc _) p3).mono ?_
          rintro e v4 ⟨rfl, h4⟩
          clear c3 z3
          go_wp2_with fail
          go_roundg k
          case measure => exact Nat.lt_succ_self k
          case rel => exact ⟨m, ⟨by omega, p2⟩, h4⟩
        | some x =>
          obtain ⟨K, nt⟩ := x
          obtain ⟨hK, f, hf, hargs, hen⟩ := item_num ho
          have p3 : node K (seq [accept [112, 117, 98], take, run k nt]) a = some m := by have := p; simp only [ho] at this; exact this
          unfold itemRet
          have e1 := run_nil_eq
          have e2 := run_fn_eq
          simp only [hf, Option.getD_some]
          have hB : Below v2.heap.size v2 (v2.alloc (.cells #[.func (.func f) #[P E] #[]] 1)) := (Below.refl _ _).alloc (Nat.le_refl _) _
          have h3 := h2.rebase hB
          have hb3 : BoxAt E (More A1 v2 (v2.alloc (.cells #[.func (.func f) #[P E] #[]] 1))) (v2.alloc (.cells #[.func (.func f) #[P E] #[]] 1)) w.heap.size :=
            ⟨Or.inl hb.1, alloc_keeps _ (h2.keeps hb.1 hb.2)⟩
          have hq3 : BoxV (More A1 v2 (v2.alloc (.cells #[.func (.func f) #[P E] #[]] 1))) (v2.alloc (.cells #[.func (.func f) #[P E] #[]] 1)) v2.heap.size (.func (.func f) #[P E] #[]) 1 :=
            ⟨Or.inr ⟨Nat.le_refl _, by simp⟩, heap_alloc_new v2 _⟩
          have hdo : Does E f #[P E] (run k nt) := by
            have := (H k).v nt f hf
            rwa [hargs] at this
          go_wp2_with fail
          refine (node_any E K hK _ _ _ _ _ a m (clo2 (clo34 E k nt f hdo hen w.heap.size v2.heap.size) (enters_of Tryz.func97 (by kernel_rfl) rfl) hb3 hq3 h3 _ (fun _ _ _ => rfl)) h3 p3).mono ?_
          rintro e v4 ⟨rfl, h4⟩
          have h5 := h2.unbase hB h4
          clear c3 z3 h4
          go_wp2_with fail
          go_roundg k
          case measure => exact Nat.lt_succ_self k
          case rel => exact ⟨m, ⟨by omega, p2⟩, h5⟩
end Go.Proofs.YtcpojagfnpajeaaGreatDoorR.Ps
