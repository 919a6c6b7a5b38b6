/-
  The printer in memory; how tokens are written.
  (*printer).tokens, by its contract.
  The printer on its way: what has been written since a method began; the node that it is handed.
-/
import Derived.Test.YtcpojagfnpajeaaGreatDoorRZAsFin2
import Derived.Lib.AppendStr
import Derived.Test.YtcpojagfnpajeaaGreatDoorRZAsEnd
import Derived.Lib.LaidTab
import Derived.Shelf.Strconv.Itoa3
namespace Go.Proofs.YtcpojagfnpajeaaGreatDoorR.Ps
open Go.RowKit

theorem info_u8 : (Tryz.prog.info? 5).map (fun i => (i.zero, i.size, i.bytes)) = some (some (.int .u8 0), 1, 1) := by kernel_rfl

def u8s (l : List UInt8) : List Value := l.map fun b => Value.int .u8 b.toNat
theorem u8s_length (l : List UInt8) : (u8s l).length = l.length := List.length_map ..
theorem u8s_append (a b : List UInt8) : u8s (a ++ b) = u8s a ++ u8s b := List.map_append ..
theorem u8s_str (s : ByteArray) : Lib.strCells s = u8s (Lx.L s) := rfl

/-- The printer at block b has written text; what it has laid lies at n0 or later. -/
structure PrIn (w : World) (b n0 : Nat) (v : Value) (text : List UInt8) : Prop where
  hb : w.heap[b]? = some (.cells #[v] 146 (0, 0))
  own : w.ownsRow n0 5 1 v text.length (u8s text)
  ne : v.ownBlock ≠ some b
  nb : n0 ≤ b
  len : text.length ≤ 2300000
theorem PrIn.lt {w : World} {b n0 : Nat} {v : Value} {text : List UInt8} (h : PrIn w b n0 v text) : b < w.heap.size := (Array.getElem?_eq_some_iff.1 h.hb).1
theorem PrIn.fr {w w' : World} {b n0 : Nat} {v : Value} {text : List UInt8} (h : PrIn w b n0 v text) (hb : ∀ j, j < w.heap.size → w'.heap[j]? = w.heap[j]?) : PrIn w' b n0 v text :=
  ⟨(hb b h.lt).trans h.hb, owns_of_block h.own (fun g hg => hb g (World.ownsRow.lt h.own g hg).2), h.ne, h.nb, h.len⟩
theorem PrIn.below {w w' : World} {b n0 : Nat} {v : Value} {text : List UInt8} (h : PrIn w b n0 v text) (hb : Below w.heap.size w w') : PrIn w' b n0 v text := h.fr fun j hj => hb.block j hj

/-- What a method leaves that writes the tokens ts. -/
def PW (b n0 : Nat) (text : List UInt8) (ts : List Tok) (v : Value) (w : World) (e : Ending) (w' : World) : Prop :=
  e = .returned (.tuple #[]) ∧ ∃ v', Hid (PrIn w' b n0 v' (putTs text ts)) ∧ Hid (Rep b v v' w w')

theorem putTs_full {text : List UInt8} (h : 2000 < text.length) : ∀ l : List Tok, putTs text l = text
  | [] => rfl
  | x :: r => by
    show putTs (putT text x) r = text
    rw [show putT text x = text from by unfold putT; rw [if_pos h], putTs_full h r]
theorem putTs_take {text : List UInt8} {ts : List Tok} {k : Nat} {x : Tok} (h : ts[k]? = some x) : putTs text (ts.take (k + 1)) = putT (putTs text (ts.take k)) x := by
  rw [List.take_add_one, h, putTs_append]; rfl

/-- An append whose outcome is known. -/
theorem wpL_app {P : Program} {ops : Array Oper} {rest : List Oper} {o : Oper} {a : Act} {Q : Exit → Act → World → Prop} {w : World} (hgd : o.guard = none) {s x : Operand} {t u : TypeId} (ho : o.op = .call { callee := .builtin .append, args := #[s, x], argTypes := #[t, u] })
    {v' : Value} {w' : World} (hr : (Builtin.append_ #[t, u] o.type #[a.eval s, a.eval x]).run P w = .ok v' w') (h : wpList P ops Q rest (a.put o.dst v') w') : wpList P ops Q (o :: rest) a w := by
  refine wpList_plain hgd fun K hK => ?_
  unfold Oper.wp execOp
  simp only [ho, resolve, invoke, builtin, Sem.run_bind, Sem.run_pure, Result.andThen_ok, List.map_toArray, List.map_cons, List.map_nil, hr]
  exact hK _ _ h

/-- The bytes of a string behind a row of one's own. -/
theorem app_str (w : World) (n0 : Nat) (v : Value) (text : List UInt8) (s : ByteArray) (h : w.ownsRow n0 5 1 v text.length (u8s text)) (h1 : text.length + s.size ≤ 100000000) (hn : n0 ≤ w.heap.size) :
    ∃ a cap w', (∀ ty, (Builtin.append_ #[97, 9] ty #[v, .string s]).run Tryz.prog w = .ok (.slice a (text.length + s.size) cap) w') ∧ w'.ownsRow n0 5 1 (.slice a (text.length + s.size) cap) (text.length + s.size) (u8s (text ++ Lx.L s)) ∧ w.grownBy w' v.ownBlock ∧
      (∀ g, (Value.slice a (text.length + s.size) cap).ownBlock = some g → v.ownBlock = some g ∨ w.heap.size ≤ g) := by
  obtain ⟨i0, hi, hz0, hz1, hz2⟩ := info_parts info_u8
  obtain ⟨v', w', hr, ho, hg, _⟩ := Lib.run_append_own_string (P := Tryz.prog) w n0 97 9 0 5 i0 Tryz.underlying97 Tryz.underlying9 hi hz0 hz1 hz2 v text.length (u8s text) h s (by unfold maxLen; omega) (by omega) hn
  have hty : ∀ ty, (Builtin.append_ #[97, 9] ty #[v, .string s]).run Tryz.prog w = .ok v' w' := fun ty => hr
  rw [u8s_str, ← u8s_append] at ho
  obtain ⟨a, cap, rfl⟩ : ∃ a cap, v' = .slice a (text.length + s.size) cap := by
    rcases ho.2 with ⟨e, h0⟩ | ⟨g, cap, cur, e, _⟩
    · exact ⟨none, 0, by rw [e, h0]⟩
    · exact ⟨_, _, e⟩
  refine ⟨a, cap, w', hty, ho, hg, fun g' e => ?_⟩
  rcases Nat.lt_or_ge g' w.heap.size with hlt | hge2
  · left
    rcases h.2 with ⟨rfl, h0⟩ | ⟨g, c, cur, rfl, _, hh, _, _, hcs, _⟩
    · obtain ⟨v9, w9, hr9, ho9, _⟩ := Lib.run_append_own_string (P := Tryz.prog) w w.heap.size 97 9 0 5 i0 Tryz.underlying97 Tryz.underlying9 hi hz0 hz1 hz2 (.slice none 0 0) 0 [] (World.ownsRow_nil _ _ _ _) s (by unfold maxLen; omega) (by omega) (Nat.le_refl _)
      rw [hr] at hr9
      obtain ⟨e2, rfl⟩ := Result.ok.inj hr9
      rw [e2] at e
      have := (World.ownsRow.lt ho9 g' e).1
      omega
    · by_cases hroom : text.length + s.size ≤ c
      · have hr2 := Lib.run_append_room_string (P := Tryz.prog) w 97 9 0 5 i0 Tryz.underlying97 Tryz.underlying9 hi hz1 g text.length c cur hh s hroom (by omega)
        rw [hr] at hr2
        obtain ⟨e2, _⟩ := Result.ok.inj hr2
        rw [e2] at e
        exact e
      · have hr2 := Lib.run_append_grow_string (P := Tryz.prog) w 97 9 0 5 i0 (.int .u8 0) Tryz.underlying97 Tryz.underlying9 hi hz0 ⟨g, 0, none⟩ text.length c (u8s text) (by rw [hz1, u8s_length]; omega) (h.cells (g := g) rfl) s (by omega) (by omega) (by rw [hz2]; exact growslice_fits (by omega) (by omega))
        rw [hr] at hr2
        obtain ⟨e2, _⟩ := Result.ok.inj hr2
        rw [e2] at e
        have e3 : w.heap.size = g' := Option.some.inj e
        omega
  · exact Or.inr hge2
end Go.Proofs.YtcpojagfnpajeaaGreatDoorR.Ps

namespace Go.Proofs.YtcpojagfnpajeaaGreatDoorR.Ps
open Go.RowKit

/-- A store into the printer's one field. -/
theorem PrIn.stored {w w1 : World} {b n0 : Nat} {v v' : Value} {text text' : List UInt8} (h : PrIn w b n0 v text) (hb1 : w1.heap[b]? = w.heap[b]?) (ho : w1.ownsRow n0 5 1 v' text'.length (u8s text')) (hne : v'.ownBlock ≠ some b) (hl : text'.length ≤ 2300000) :
    PrIn (w1.setCell ⟨b, 0, none⟩ v') b n0 v' text' :=
  ⟨by have := hb1.trans h.hb; simp [World.setCell, Array.getElem?_modify, this], owns_set ho _ _ hne, hne, h.nb, hl⟩
/-- What a growing of the row and the store leave. -/
theorem rep_stored {w w1 : World} {b : Nat} {v v' : Value} {row : Option Nat} (hg : w.grownBy w1 row) (hrow : row = v.ownBlock) (h : ∀ g, v'.ownBlock = some g → v.ownBlock = some g ∨ w.heap.size ≤ g) : Rep b v v' w (w1.setCell ⟨b, 0, none⟩ v') := by
  subst hrow
  refine ⟨⟨hg.os, hg.tape, hg.output, by simpa using hg.size, fun j hj => ?_⟩, h⟩
  rw [heap_setCell_other w1 ⟨b, 0, none⟩ j v' (fun e => hj.2.1 e), hg.block j hj.1 (fun e => hj.2.2 e.symm)]

theorem own_slice {w : World} {B n : Nat} {e : TypeId} {v : Value} {xs : List Value} (h : w.ownsRow B e 1 v n xs) : ∃ a c, v = .slice a n c := by
  rcases h.2 with ⟨e, h0⟩ | ⟨g, cap, cur, e, _⟩
  · exact ⟨none, 0, by rw [e, h0]⟩
  · exact ⟨_, _, e⟩

set_option maxHeartbeats 2000000 in
set_option maxRecDepth 100000 in
theorem tokens_any (b n0 g c : Nat) (v : Value) (text : List UInt8) (ts : List ByteArray) (w : World) (h : PrIn w b n0 v text) (hn0 : n0 ≤ w.heap.size) (hg : g < w.heap.size) (hgb : g ≠ b) (hgv : v.ownBlock ≠ some g)
    (hcell : ∀ i s, ts[i]? = some s → w.cell? ⟨g, i, none⟩ = some (.string s)) (hl : ts.length ≤ 3) (hts : ∀ s, s ∈ ts → s.size ≤ 2200010) :
    Calls Tryz.prog 193 #[.pointer (some ⟨b, 0, none⟩), .slice (some ⟨g, 0, none⟩) ts.length c] w (PW b n0 text (ts.map Lx.L) v w) := by
  obtain ⟨i0, hi, hz0, hz1, hz2⟩ := info_parts info_u8
  have hblt := h.lt
  have HC := Lib.hid hcell
  have HTS := Lib.hid hts
  have HP := Lib.hid h
  clear hcell hts h
  go_enter Tryz.func193, Tryz.ntmps193
  go_wp2_with fail
  go_loopw [8] (fun i wr => ∃ k : Nat, k ≤ ts.length ∧ i = .int .i64 k ∧ ∃ v', Hid (PrIn wr b n0 v' (putTs text ((ts.map Lx.L).take k))) ∧ Hid (Rep b v v' w wr))
    (fun i _ => ts.length - (intOf i).toNat)
  case atStart => exact ⟨0, Nat.zero_le _, rfl, v, HP, Lib.hid (Rep.refl _ _ _)⟩
  case round =>
    obtain ⟨k, hk, rfl, v1, hp, hr⟩ := hrel
    by_cases hlt : k < ts.length
    · obtain ⟨s, hs⟩ : ∃ s, ts[k]? = some s := ⟨_, List.getElem?_eq_getElem hlt⟩
      have hss : s.size ≤ 2200010 := HTS.out s (List.mem_of_getElem? hs)
      have hw := hr.out.fr.size
      have cs : wr.cell? ⟨g, k, none⟩ = some (.string s) := (World.cell?_of_block (hr.out.fr.block g ⟨hg, hgb, hgv⟩)).trans (HC.out k s hs)
      have HTK : Hid (putTs text ((ts.map Lx.L).take (k + 1)) = putT (putTs text ((ts.map Lx.L).take k)) (Lx.L s)) := putTs_take (by rw [List.getElem?_map, hs]; rfl)
      have HAL : Hid (2000 < (putTs text ((ts.map Lx.L).take k)).length → putTs text (ts.map Lx.L) = putTs text ((ts.map Lx.L).take k)) := fun h => by
        have e := congrArg (putTs text) (List.take_append_drop k (ts.map Lx.L))
        rw [putTs_append, putTs_full h] at e
        exact e.symm
      clear hs
      obtain ⟨a1, c1, rfl⟩ := own_slice hp.out.own
      generalize putTs text ((ts.map Lx.L).take k) = T at *
      have b0 : wr.cell? ⟨b, 0, none⟩ = some (.slice a1 T.length c1) := by rw [Lib.cell_of_heap hp.out.hb]; rfl
      have bf := Lib.frozen_of_heap hp.out.hb 0
      have hbw := hp.out.lt
      have hk0 : (0 : Int) ≤ (k : Int) := by omega
      have hk1 : (k : Int) < (ts.length : Int) := by omega
      have HKL : Hid (k < ts.length) := hlt
      have hTl := hp.out.len
      have hn1 : n0 ≤ wr.heap.size := by omega
      by_cases hA : 2000 < T.length
      · have hA' : (2000 : Int) < (T.length : Int) := by omega
        go_wp2_with fail
        first | go_end0 | refine bodyPost_ret (results_none rfl _ _ _) rfl ?_
        exact ⟨rfl, _, by rw [HAL.out hA]; exact hp, hr⟩
      · have hA' : (T.length : Int) ≤ 2000 := by omega
        by_cases h0 : T.length = 0
        · have hT0 : T = [] := List.eq_nil_of_length_eq_zero h0
          subst hT0
          obtain ⟨a2, c2, w2, hrun, hown, hgr, hrow⟩ := app_str wr n0 (.slice a1 0 c1) [] s hp.out.own (by simp; omega) hn1
          simp only [List.length_nil, Nat.zero_add, List.nil_append] at hrun hown hrow
          have hne2 : (Value.slice a2 s.size c2).ownBlock ≠ some b := fun e => by
            rcases hrow b e with q | q
            · exact hp.out.ne q
            · omega
          have hb2 : w2.heap[b]? = wr.heap[b]? := hgr.block b hbw (fun e => hp.out.ne e.symm)
          have HP2 : Hid (PrIn (w2.setCell ⟨b, 0, none⟩ (.slice a2 s.size c2)) b n0 (.slice a2 s.size c2) (Lx.L s)) := hp.out.stored hb2 (by rw [Lx.L_len]; exact hown) hne2 (by rw [Lx.L_len]; omega)
          have HR2 : Hid (Rep b v (.slice a2 s.size c2) w (w2.setCell ⟨b, 0, none⟩ (.slice a2 s.size c2))) := hr.out.trans (rep_stored hgr rfl hrow)
          have b2 : w2.cell? ⟨b, 0, none⟩ = some (.slice a1 0 c1) := (World.cell?_of_block hb2).trans b0
          have bf2 : w2.frozen? ⟨b, 0, none⟩ = false := (World.frozen?_of_block hb2).trans bf
          simp only [List.length_nil] at b0
          have HPT : Hid (putT [] (Lx.L s) = Lx.L s) := rfl
          clear hown hgr hrow
          go_wp2_with (at_builtin; refine wpL_app rfl rfl (hrun _) ?_)
          go_round
          case rel => exact ⟨k + 1, HKL.out, (by go_num), _, by rw [HTK.out, HPT.out]; exact HP2, HR2⟩
          case measure => have := HKL.out; simp [intOf]; omega
        · have h0' : (0 : Int) < (T.length : Int) := by omega
          have HPT : Hid (putT T (Lx.L s) = (T ++ [32]) ++ Lx.L s) := by
            show _ = _
            unfold putT
            rw [if_neg hA, if_neg (fun e => h0 (by rw [e]; rfl))]
          have hown := hp.out.own
          go_wp2_with (at_builtin; refine wpList_append_src rfl _ _ 97 rfl n0 5 i0 _ 1 1 Tryz.underlying97 hi hz0 hz1 hz2 rfl (by decide) _ _ _ rfl (hown.alloc _) _ 1 (u8s [32]) rfl (src_lit wr (u8s [32]) 5 1 1 1 rfl (fun u hu => by simp [u8s] at hu; subst hu; rfl)) ?c3 ?c4 ?c5 ?_)
          case c3 => unfold maxLen; omega
          case c4 => omega
          case c5 => simp; omega
          intro v3 w3 hown3 hgr3 hrow3
          obtain ⟨a3, c3, rfl⟩ := own_slice hown3
          have hwz : wr.heap.size + 1 ≤ w3.heap.size := by have := hgr3.size; simpa using this
          have hb3 : w3.heap[b]? = wr.heap[b]? := by
            rw [hgr3.block b (by simp; omega) (fun e => hp.out.ne e.symm), Lib.alloc_old wr _ b hbw]
          have hrow3' : ∀ q, (Value.slice a3 (T.length + 1) c3).ownBlock = some q → (Value.slice a1 T.length c1).ownBlock = some q ∨ wr.heap.size ≤ q := fun q hq => by
            rcases hrow3 with e | e
            · exact Or.inl (e ▸ hq)
            · rw [e] at hq; simp at hq; exact Or.inr (by omega)
          have hne3 : (Value.slice a3 (T.length + 1) c3).ownBlock ≠ some b := fun e => by
            rcases hrow3' b e with q | q
            · exact hp.out.ne q
            · omega
          have hgrA : wr.grownBy w3 (Value.slice a1 T.length c1).ownBlock := ⟨hgr3.os, hgr3.tape, hgr3.output, by omega, fun j h1 h2 => by rw [hgr3.block j (by simp; omega) h2, Lib.alloc_old wr _ j h1]⟩
          have HP3 : Hid (PrIn (w3.setCell ⟨b, 0, none⟩ (.slice a3 (T.length + 1) c3)) b n0 (.slice a3 (T.length + 1) c3) (T ++ [32])) := hp.out.stored hb3 (by rw [u8s_append, List.length_append]; exact hown3) hne3 (by simp; omega)
          have HR3 : Hid (Rep b v (.slice a3 (T.length + 1) c3) w (w3.setCell ⟨b, 0, none⟩ (.slice a3 (T.length + 1) c3))) := hr.out.trans (rep_stored hgrA rfl hrow3')
          have b3 : w3.cell? ⟨b, 0, none⟩ = some (.slice a1 T.length c1) := (World.cell?_of_block hb3).trans b0
          have bf3 : w3.frozen? ⟨b, 0, none⟩ = false := (World.frozen?_of_block hb3).trans bf
          clear hown3 hgr3 hrow3 hgrA hrow3' hown
          obtain ⟨W3, hW3⟩ : ∃ W3, W3 = w3.setCell ⟨b, 0, none⟩ (.slice a3 (T.length + 1) c3) := ⟨_, rfl⟩
          rw [← hW3] at HP3 HR3
          have hz3 : W3.heap.size = w3.heap.size := by rw [hW3]; simp
          have HW3 := Lib.hid hW3
          clear hW3
          have hlen3 : (T ++ [32]).length = T.length + 1 := by simp
          obtain ⟨a4, c4, w4, hrun, hown4, hgr4, hrow4⟩ := app_str W3 n0 (.slice a3 (T.length + 1) c3) (T ++ [32]) s HP3.out.own (by rw [hlen3]; omega) (by omega)
          rw [hlen3] at hrun hown4 hrow4
          have hbw3 : b < W3.heap.size := by omega
          have hne4 : (Value.slice a4 (T.length + 1 + s.size) c4).ownBlock ≠ some b := fun e => by
            rcases hrow4 b e with q | q
            · exact HP3.out.ne q
            · omega
          have hb4 : w4.heap[b]? = W3.heap[b]? := hgr4.block b hbw3 (fun e => HP3.out.ne e.symm)
          have hl4 : (T ++ [32] ++ Lx.L s).length = T.length + 1 + s.size := by rw [List.length_append, hlen3, Lx.L_len]
          have HP4 : Hid (PrIn (w4.setCell ⟨b, 0, none⟩ (.slice a4 (T.length + 1 + s.size) c4)) b n0 (.slice a4 (T.length + 1 + s.size) c4) (T ++ [32] ++ Lx.L s)) := HP3.out.stored hb4 (by rw [hl4]; exact hown4) hne4 (by rw [hl4]; omega)
          have HR4 : Hid (Rep b v (.slice a4 (T.length + 1 + s.size) c4) w (w4.setCell ⟨b, 0, none⟩ (.slice a4 (T.length + 1 + s.size) c4))) := HR3.out.trans (rep_stored hgr4 rfl hrow4)
          have d3 : W3.cell? ⟨b, 0, none⟩ = some (.slice a3 (T.length + 1) c3) := by rw [Lib.cell_of_heap HP3.out.hb]; rfl
          have df3 := Lib.frozen_of_heap HP3.out.hb 0
          have b4 : w4.cell? ⟨b, 0, none⟩ = some (.slice a3 (T.length + 1) c3) := (World.cell?_of_block hb4).trans d3
          have bf4 : w4.frozen? ⟨b, 0, none⟩ = false := (World.frozen?_of_block hb4).trans df3
          clear hown4 hgr4 hrow4 hlen3 hl4 hb4 hb3 b0 bf
          go_upto_region 6 with fail
          rw [show w3.setCell ⟨b, 0, none⟩ (.slice a3 (T.length + 1) c3) = W3 from HW3.out.symm]
          go_wp2_with (at_builtin; refine wpL_app rfl rfl (hrun _) ?_)
          go_round
          case rel => exact ⟨k + 1, HKL.out, (by go_num), _, by rw [HTK.out, HPT.out]; exact HP4, HR4⟩
          case measure => have := HKL.out; simp [intOf]; omega
    · have hkl : k = ts.length := by omega
      subst hkl
      have hall : (ts.map Lx.L).take ts.length = ts.map Lx.L := List.take_of_length_le (by simp)
      rw [hall] at hp
      go_wp2_with fail
      first | go_end0 | refine bodyPost_ret (results_none rfl _ _ _) rfl ?_
      exact ⟨rfl, v1, hp, hr⟩
end Go.Proofs.YtcpojagfnpajeaaGreatDoorR.Ps

namespace Go.Proofs.YtcpojagfnpajeaaGreatDoorR.Ps
open Go.RowKit

/-- The text as it stands, and it is not too long. -/
def TS (x : Nd) (t : List UInt8) : Prop := t = x.t ∧ t.length ≤ 1100000

/-- The table of strconv's numerals. -/
def Tab (w : World) : Prop := Lib.TabIs Tryz.prog w "internal/strconv.uint64pow10" .u64 Lib.pow10Tab
theorem tab_glob : Tryz.prog.globalNamed "internal/strconv.uint64pow10" = some 3 := by kernel_rfl
theorem Tab.keep {w w' : World} (h : Tab w) (he : w'.heap[3]? = w.heap[3]?) : Tab w' := by
  unfold Tab Lib.TabIs World.var? at *
  rw [tab_glob] at *
  simpa only [Option.bind_some, he] using h
theorem Tab.lt {w : World} (h : Tab w) : 3 < w.heap.size := by
  rcases Nat.lt_or_ge 3 w.heap.size with q | q
  · exact q
  · exfalso
    unfold Tab Lib.TabIs World.var? at h
    rw [tab_glob] at h
    simp only [Option.bind_some, Array.getElem?_eq_none q] at h
    cases h
theorem Tab.below {w w' : World} (h : Tab w) (hb : Below w.heap.size w w') : Tab w' := h.keep (hb.block _ h.lt)

/-- The children of a node, in memory ahead of what the printer lays. -/
structure NV (w : World) (n0 m : Nat) (a : Option Addr) (cap : Nat) (c : List Nd) : Prop where
  kids : Nds w (fun j _ => j < n0) TS m a c
  cap1 : c.length ≤ cap
  cap2 : cap ≤ maxLen
  an : a = none → cap = 0
  sz : nsizes c ≤ 1000
  n4 : 4 ≤ n0
  tab : Tab w

theorem NV.len {w : World} {n0 m : Nat} {a : Option Addr} {cap : Nat} {c : List Nd} (h : NV w n0 m a cap c) : c.length ≤ 1000 := by
  have : ∀ l : List Nd, l.length ≤ nsizes l := by
    intro l
    induction l with
    | nil => simp [nsizes]
    | cons y r ih => have := nd_size y; simp only [nsizes, List.length_cons]; omega
  have := this c
  have := h.sz
  omega
theorem NV.low {w w' : World} {n0 m : Nat} {a : Option Addr} {cap : Nat} {c : List Nd} (h : NV w n0 m a cap c) (hk : ∀ j, j < n0 → w'.heap[j]? = w.heap[j]?) : NV w' n0 m a cap c :=
  ⟨h.kids.kept (fun j _ _ hj => World.cell?_of_block (hk j hj)), h.cap1, h.cap2, h.an, h.sz, h.n4, h.tab.keep (hk _ (by have := h.n4; omega))⟩
theorem NV.below {w w' : World} {n0 m : Nat} {a : Option Addr} {cap : Nat} {c : List Nd} (h : NV w n0 m a cap c) (hn : n0 ≤ w.heap.size) (hb : Below w.heap.size w w') : NV w' n0 m a cap c := h.low fun j hj => hb.block j (by omega)
theorem NV.rep {w w' : World} {n0 m b : Nat} {a : Option Addr} {cap : Nat} {c : List Nd} {v v' : Value} {text : List UInt8} (h : NV w n0 m a cap c) (hn : n0 ≤ w.heap.size) (hp : PrIn w b n0 v text) (hr : Rep b v v' w w') : NV w' n0 m a cap c :=
  h.low fun j hj => hr.fr.block j ⟨by omega, by have := hp.nb; omega, fun e => by have := (World.ownsRow.lt hp.own j e).1; omega⟩

/-- A child in memory. -/
structure CV (w : World) (n0 m : Nat) (b o : Nat) (y : Nd) (sa : Option Addr) (cap : Nat) : Prop where
  ok : y.ok
  tl : y.t.length ≤ 1100000
  sv : Seven w b o y y.t sa cap
  nv : NV w n0 m sa cap y.c
  lt : b < n0
theorem NV.at {w : World} {n0 m : Nat} {a : Option Addr} {cap : Nat} {c : List Nd} (h : NV w n0 m a cap c) {i : Nat} {y : Nd} (hy : c[i]? = some y) : ∃ m' b o sa cap', a = some ⟨b, o, none⟩ ∧ CV w n0 m' b (o + i * 7) y sa cap' := by
  obtain ⟨h0, m', b, o, sa, cap', t, _, rfl, hb, ht, h3, h4, h5, h6, h7⟩ := Nds.at h.kids hy
  obtain ⟨rfl, htl⟩ := ht
  have hsz : nsizes y.c ≤ 1000 := by
    have h1 := nsizes_take hy
    have h2 := nsizes_upto c (i + 1)
    have h3 := nd_size y
    have := h.sz
    omega
  exact ⟨m', b, o, sa, cap', rfl, h0, htl, h6, ⟨h7, h3, h4, h5, hsz, h.n4, h.tab⟩, hb⟩
theorem NV.drop {w : World} {n0 m : Nat} {b o : Nat} {cap : Nat} {c : List Nd} (h : NV w n0 m (some ⟨b, o, none⟩) cap c) (i : Nat) (hi : i ≤ c.length) : NV w n0 m (some ⟨b, o + i * 7, none⟩) (cap - i) (c.drop i) := by
  have := h.cap1
  have := h.cap2
  refine ⟨?_, by rw [List.length_drop]; omega, by omega, (fun e => by cases e), ?_, h.n4, h.tab⟩
  · have hk := h.kids
    cases m with
    | zero =>
      have h0 : c = [] := hk
      subst h0
      rw [List.drop_nil]
      rfl
    | succ m =>
      intro j x hx
      rw [List.getElem?_drop] at hx
      obtain ⟨h0, b', o', sa, cap', t, e, h2, h3, h4, h5, h6, h7, h8⟩ := hk (i + j) x hx
      cases e
      exact ⟨h0, b, o + i * 7, sa, cap', t, rfl, h2, h3, h4, h5, h6, by rw [show o + i * 7 + j * 7 = o + (i + j) * 7 from by omega]; exact h7, h8⟩
  · have h1 := nsizes_append (c.take i) (c.drop i)
    rw [List.take_append_drop] at h1
    have := h.sz
    omega
theorem NV.take {w : World} {n0 m : Nat} {a : Option Addr} {cap : Nat} {c : List Nd} (h : NV w n0 m a cap c) (i : Nat) : NV w n0 m a cap (c.take i) := by
  have := h.cap1
  refine ⟨?_, by rw [List.length_take]; omega, h.cap2, h.an, Nat.le_trans (nsizes_upto c i) h.sz, h.n4, h.tab⟩
  have hk := h.kids
  cases m with
  | zero =>
    have h0 : c = [] := hk
    subst h0
    rw [List.take_nil]
    rfl
  | succ m =>
    intro j x hx
    rw [List.getElem?_take] at hx
    split at hx
    · exact hk j x hx
    · cases hx

/-- The values of a node. -/
abbrev nw (k v : Int) (t : List UInt8) (s e ns : Int) (c : List Nd) (a : Option Addr) (cap : Nat) : Value := .agg #[.int .i64 k, .int .i64 v, .string (Lx.bs t), .int .i64 s, .int .i64 e, .int .i64 ns, .slice a c.length cap]
abbrev nbx (k v : Int) (t : List UInt8) (s e ns : Int) (c : List Nd) (a : Option Addr) (cap : Nat) : Obj := .cells #[.int .i64 k, .int .i64 v, .string (Lx.bs t), .int .i64 s, .int .i64 e, .int .i64 ns, .slice a c.length cap] 36

/-- Since w0 the tokens ts have been written. -/
structure PrRun (b n0 : Nat) (w0 : World) (v0 : Value) (text : List UInt8) (ts : List Tok) (w : World) (v : Value) : Prop where
  pr : PrIn w b n0 v (putTs text ts)
  rep : Rep b v0 v w0 w
  n : n0 ≤ w.heap.size

section
variable {b n0 : Nat} {w0 : World} {v0 : Value} {text : List UInt8} {ts ts' : List Tok} {w w' : World} {v v' : Value} {e : Ending}
theorem PrRun.start (h : PrIn w b n0 v text) (hn : n0 ≤ w.heap.size) : PrRun b n0 w v text [] w v := ⟨h, Rep.refl _ _ _, hn⟩
theorem PrRun.below (h : PrRun b n0 w0 v0 text ts w v) (hb : Below w.heap.size w w') : PrRun b n0 w0 v0 text ts w' v := ⟨h.pr.below hb, h.rep.trans (Rep.of_below v hb), Nat.le_trans h.n hb.size⟩
theorem PrRun.step (h : PrRun b n0 w0 v0 text ts w v) (hp : PrIn w' b n0 v' (putTs (putTs text ts) ts')) (hr : Rep b v v' w w') : PrRun b n0 w0 v0 text (ts ++ ts') w' v' := ⟨by rw [putTs_append]; exact hp, h.rep.trans hr, Nat.le_trans h.n hr.fr.size⟩
theorem PrRun.done (h : PrRun b n0 w0 v0 text ts w v) (he : ts = ts') : PW b n0 text ts' v0 w0 (.returned (.tuple #[])) w := by
  subst he
  exact ⟨rfl, v, Lib.hid h.pr, Lib.hid h.rep⟩

/-- A box stays. -/
structure BoxIn (w : World) (v : Value) (b bx : Nat) (o : Obj) : Prop where
  h : w.heap[bx]? = some o
  ne : bx ≠ b
  nv : v.ownBlock ≠ some bx
theorem BoxIn.lt {bx : Nat} {o : Obj} (h : BoxIn w v b bx o) : bx < w.heap.size := (Array.getElem?_eq_some_iff.1 h.h).1
theorem BoxIn.rep {bx : Nat} {o : Obj} (h : BoxIn w v b bx o) (hr : Rep b v v' w w') : BoxIn w' v' b bx o := by
  refine ⟨(hr.fr.block bx ⟨h.lt, h.ne, h.nv⟩).trans h.h, h.ne, fun e => ?_⟩
  rcases hr.row bx e with q | q
  · exact h.nv q
  · have := h.lt; omega
theorem BoxIn.below {bx : Nat} {o : Obj} (h : BoxIn w v b bx o) (hb : Below w.heap.size w w') : BoxIn w' v b bx o := h.rep (Rep.of_below v hb)
theorem BoxIn.made {cs : Array Value} {t : TypeId} (h : PrIn w b n0 v text) : BoxIn (w.alloc (.cells cs t)) v b w.heap.size (.cells cs t) :=
  ⟨heap_alloc_new _ _, by have := h.lt; omega, fun e => by have := (World.ownsRow.lt h.own _ e).2; omega⟩

/-- A method's outcome told of the world ahead of what was laid for its call. -/
theorem PW.pre (hb : Below w0.heap.size w0 w) (h : PW b n0 text ts v w e w') : PW b n0 text ts v w0 e w' := by
  obtain ⟨h1, v', h2, h3⟩ := h
  exact ⟨h1, v', h2, Lib.hid ((Rep.of_below v hb).trans h3.out)⟩

theorem toks_call (h : PrRun b n0 w0 v0 text ts w v) (ss : List ByteArray) (us : List Tok) (hu : ss.map Lx.L = us) (hl : ss.length ≤ 3) (hs : ∀ s, s ∈ ss → s.size ≤ 2200010) (cs : Array Value) (hc : cs.toList = ss.map Value.string) (k : Nat) (hk : k = ss.length) :
    Calls Tryz.prog 193 #[.pointer (some ⟨b, 0, none⟩), .slice (some ⟨w.heap.size, 0, none⟩) k k] (w.alloc (.cells cs 9)) (PW b n0 (putTs text ts) us v w) := by
  subst hu hk
  have hb : Below w.heap.size w (w.alloc (.cells cs 9)) := below_box _ _
  refine (tokens_any b n0 w.heap.size ss.length v (putTs text ts) ss (w.alloc (.cells cs 9)) (h.pr.below hb) (Nat.le_trans h.n hb.size) (by simp) (by have := h.pr.lt; omega) (fun e => by have := (World.ownsRow.lt h.pr.own _ e).2; omega) (fun i s hi => ?_) hl hs).mono fun e w' hp => PW.pre hb hp
  rw [Lib.cell_of_heap (heap_alloc_new w _)]
  have h2 : cs.toList[i]? = some (.string s) := by rw [hc, List.getElem?_map, hi]; rfl
  simpa using h2
theorem tok1_call (h : PrRun b n0 w0 v0 text ts w v) (s : ByteArray) (u : Tok) (hu : Lx.L s = u) (hs : s.size ≤ 2200010) :
    Calls Tryz.prog 193 #[.pointer (some ⟨b, 0, none⟩), .slice (some ⟨w.heap.size, 0, none⟩) 1 1] (w.alloc (.cells #[.string s] 9)) (PW b n0 (putTs text ts) [u] v w) :=
  toks_call h [s] [u] (by simp [hu]) (by simp) (by simpa using hs) _ rfl 1 rfl
theorem tok2_call (h : PrRun b n0 w0 v0 text ts w v) (s r : ByteArray) (u q : Tok) (hu : Lx.L s = u) (hq : Lx.L r = q) (hs : s.size ≤ 2200010) (hr : r.size ≤ 2200010) :
    Calls Tryz.prog 193 #[.pointer (some ⟨b, 0, none⟩), .slice (some ⟨w.heap.size, 0, none⟩) 2 2] (w.alloc (.cells #[.string s, .string r] 9)) (PW b n0 (putTs text ts) [u, q] v w) :=
  toks_call h [s, r] [u, q] (by simp [hu, hq]) (by simp) (by intro x hx; simp at hx; rcases hx with rfl | rfl <;> assumption) _ rfl 2 rfl
theorem tok3_call (h : PrRun b n0 w0 v0 text ts w v) (s r z : ByteArray) (u q p : Tok) (hu : Lx.L s = u) (hq : Lx.L r = q) (hp : Lx.L z = p) (hs : s.size ≤ 2200010) (hr : r.size ≤ 2200010) (hz : z.size ≤ 2200010) :
    Calls Tryz.prog 193 #[.pointer (some ⟨b, 0, none⟩), .slice (some ⟨w.heap.size, 0, none⟩) 3 3] (w.alloc (.cells #[.string s, .string r, .string z] 9)) (PW b n0 (putTs text ts) [u, q, p] v w) :=
  toks_call h [s, r, z] [u, q, p] (by simp [hu, hq, hp]) (by simp) (by intro x hx; simp at hx; rcases hx with rfl | rfl | rfl <;> assumption) _ rfl 3 rfl
end

/-- What print leaves of a node. -/
def PT (b n0 : Nat) (y : Nd) : Prop := ∀ (a : Option Addr) (cap m : Nat) (w : World) (v : Value) (text : List UInt8), NV w n0 m a cap y.c → y.ok → y.t.length ≤ 1100000 → PrIn w b n0 v text → n0 ≤ w.heap.size →
  Calls Tryz.prog 88 #[.pointer (some ⟨b, 0, none⟩), nv y y.t a cap] w (PW b n0 text (toks y) v w)
end Go.Proofs.YtcpojagfnpajeaaGreatDoorR.Ps
