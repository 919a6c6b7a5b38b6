/-
  Rope.Apply by its contract: the loop over the edits from the last to the first.
-/
import Derived.Test.YtkbodbbbgibgfaaRApply
namespace Go.Proofs.Ytkbodbbbgibgfaa
open Go.RowKit Go.Shelf

attribute [local go_sem] Oper.semAt_some

theorem NodeAt.kept {w w' : World} {row : Option Nat} {b : Nat} {s : ByteArray} {l r : Option Addr} {n h c : Int} (H : NodeAt w b s l r n h c) (hg : w.grownBy w' row) (hr : ∀ r, row = some r → ∃ o : Obj, w.heap[r]? = some o ∧ o.isCells = false) : NodeAt w' b s l r n h c := by
  obtain ⟨a0, a1, a2, a3, a4, a5⟩ := H
  exact ⟨cell_kept a0 hg hr, cell_kept a1 hg hr, cell_kept a2 hg hr, cell_kept a3 hg hr, cell_kept a4 hg hr, cell_kept a5 hg hr⟩

theorem Rep.kept {w w' : World} {row : Option Nat} {B B' : Nat} (hg : w.grownBy w' row) (hr : ∀ r, row = some r → ∃ o : Obj, w.heap[r]? = some o ∧ o.isCells = false) (hB : B ≤ B') : ∀ {t : Tr} {p : Option Addr}, Rep w B p t → Rep w' B' p t
  | .leaf _, _, ⟨b, h1, h2, h3⟩ => ⟨b, h1, Nat.lt_of_lt_of_le h2 hB, h3.kept hg hr⟩
  | .node _ _, _, ⟨b, pl, pr, h1, h2, h3, h4, h5⟩ => ⟨b, pl, pr, h1, Nat.lt_of_lt_of_le h2 hB, h3.kept hg hr, h4.kept hg hr hB, h5.kept hg hr hB⟩

theorem IsRope.kept {w w' : World} {row : Option Nat} {p : Option Addr} {c : List UInt8} (h : IsRope w p c) (hg : w.grownBy w' row) (hr : ∀ r, row = some r → ∃ o : Obj, w.heap[r]? = some o ∧ o.isCells = false) : IsRope w' p c := by
  obtain ⟨t, h1, h2, h3⟩ := h
  refine ⟨t, ?_, h2, h3⟩
  cases t with
  | none => exact h1
  | some t => exact Rep.kept hg hr hg.size h1

/-- Between two rounds: the cell b0 holds a rope to which the edits of pre have been applied; the cell b1 still holds the empty rope. -/
structure Going (src : List UInt8) (l : List Ed) (b0 b1 n1 n2 : Nat) (w : World) (pre : List (Ed × Nat)) (W : World) : Prop where
  at_ : ∃ (k : Nat) (q : Option Addr) (c : List UInt8), k ≤ l.length ∧ backs l = pre ++ backs (l.take k) ∧ Boxed W b0 25 (.pointer q) ∧ IsRope W q c ∧ Step src l k c
  res : Boxed W b1 27 (.pointer none)
  low : Below n1 w W
  size : n2 ≤ W.heap.size

theorem Boxed.to {W W' : World} {b : Nat} {t : TypeId} {v : Value} (h : Boxed W b t v) (hb : Below W.heap.size W W') : Boxed W' b t v := (hb.block b h.lt).trans h

theorem Going.to {src : List UInt8} {l : List Ed} {b0 b1 n1 n2 : Nat} {w W W' : World} {pre : List (Ed × Nat)} (h : Going src l b0 b1 n1 n2 w pre W) (hb : Below W.heap.size W W') (hn : n1 ≤ W.heap.size) : Going src l b0 b1 n1 n2 w pre W' := by
  obtain ⟨⟨k, q, c, h1, h2, h3, h4, h5⟩, h6, h7, h8⟩ := h
  exact ⟨⟨k, q, c, h1, h2, Boxed.to h3 hb, h4.to hb, h5⟩, Boxed.to h6 hb, h7.trans (hb.mono hn), Nat.le_trans h8 hb.size⟩

theorem going_own {src : List UInt8} {l : List Ed} {b0 b1 n1 n2 B : Nat} {w : World} (hn : n1 ≤ w.heap.size) (hB : n1 ≤ B) : OwnFrom B (Going src l b0 b1 n1 n2 w) := by
  intro pre W W' row hs hg hr
  have hr' : ∀ r, row = some r → ∃ o : Obj, W.heap[r]? = some o ∧ o.isCells = false := fun r e => (hr r e).2
  obtain ⟨⟨k, q, c, h1, h2, h3, h4, h5⟩, h6, h7, h8⟩ := hs
  exact ⟨⟨k, q, c, h1, h2, boxed_own b0 25 (fun (_ : Unit) => Value.pointer q) () W W' row h3 hg hr', h4.kept hg hr', h5⟩, boxed_own b1 27 (fun (_ : Unit) => Value.pointer none) () W W' row h6 hg hr', ownFrom_below hn hB () W W' row h7 hg hr, Nat.le_trans h8 hg.size⟩

/-- The round's own variable. -/
structure Var (n : Nat) (x : Ed) (Bx : Nat) (W : World) : Prop where
  n_lt : n < Bx
  lt : Bx < W.heap.size
  c0 : W.cell? ⟨Bx, 0, none⟩ = some (.int .i64 x.s)
  c1 : W.cell? ⟨Bx, 1, none⟩ = some (.int .i64 x.e)
  c2 : W.cell? ⟨Bx, 2, none⟩ = some (.string x.t)

theorem var_own {n : Nat} {x : Ed} {Bx B : Nat} : OwnFrom B (fun (_ : Unit) W => Var n x Bx W) := by
  intro _ W W' row hs hg hr
  have hr' : ∀ r, row = some r → ∃ o : Obj, W.heap[r]? = some o ∧ o.isCells = false := fun r e => (hr r e).2
  exact ⟨hs.n_lt, Nat.lt_of_lt_of_le hs.lt hg.size, cell_kept hs.c0 hg hr', cell_kept hs.c1 hg hr', cell_kept hs.c2 hg hr'⟩

theorem Var.to {n : Nat} {x : Ed} {Bx : Nat} {W W' : World} (h : Var n x Bx W) (hb : Below W.heap.size W W') : Var n x Bx W' :=
  ⟨h.n_lt, Nat.lt_of_lt_of_le h.lt hb.size, (hb.cell (p := ⟨Bx, 0, none⟩) h.lt).trans h.c0, (hb.cell (p := ⟨Bx, 1, none⟩) h.lt).trans h.c1, (hb.cell (p := ⟨Bx, 2, none⟩) h.lt).trans h.c2⟩

theorem keeps_below {B : Nat} {W W' : World} (h : Below W.heap.size W W') : KeepsFrom B W W' := ⟨h.size, fun k _ _ hk _ => (h.block k (Array.getElem?_eq_some_iff.1 hk).1).trans hk⟩

set_option maxHeartbeats 4000000 in
set_option maxRecDepth 100000 in
theorem rapply_ok (p : Option Addr) (src : List UInt8) (a : Option Addr) (cap : Nat) (l : List Ed) (w : World) (R : Hid (IsRope w p src)) (h : Eds w w.heap.size a l) (he : errV src.length l = 0) :
    Calls Try.prog 19 #[.agg #[.pointer p], .slice a l.length cap] w fun e w' => ∃ q, e = .returned (.tuple #[.agg #[.pointer q], .int .i64 0]) ∧ Hid (IsRope w' q (applyL src l)) ∧ Below w.heap.size w w' := by
  obtain ⟨hn, hl5, hsep, hfit⟩ := errV_zero he
  have hO := Lib.hid (sep_ord (p := 0) (by omega) (by omega) hsep)
  have hT := Lib.hid (fits_tsum he (by omega))
  have hE := Lib.hid h
  have hB : Below w.heap.size w ((w.alloc (.cells #[.pointer p] 27)).alloc (.cells #[.pointer none] 27)) := ((Below.refl _ _).alloc (Nat.le_refl _) _).alloc (by simp) _
  have b0 := (Boxed.new w 27 (.pointer p)).alloc (.cells #[.pointer none] 27)
  have b1 := Boxed.new (w.alloc (.cells #[.pointer p] 27)) 27 (.pointer none)
  rw [World.size_alloc] at b1
  obtain ⟨W0, hW0⟩ : ∃ W0, (w.alloc (.cells #[.pointer p] 27)).alloc (.cells #[.pointer none] 27) = W0 := ⟨_, rfl⟩
  rw [hW0] at hB b0 b1
  have K1 := Lib.hid (rvalid_any p src a cap l W0 (IsRope.later R hB) (by omega) (by unfold maxLen; omega) ((h.below hB).up hB.size))
  rw [he] at K1
  have c0 := b0.cell
  clear hsep hfit h
  refine (callsIn_wide (n := 4)).1 ?_
  refine callsIn_of_wp_marks Try.func19 rfl trivial ?_ rfl
  simp only [Try.ntmps19, List.size_toArray, List.length_cons, List.length_nil, Nat.reduceAdd, Nat.reduceSub, Array.replicate_succ, Array.replicate_zero, List.push_toArray, List.append_toArray, List.nil_append, List.cons_append]
  gi_wp2
  refine ⟨trivial, ?_⟩
  gi_at_call 31
  refine (callsIn_wide.2 K1.out).mono ?_
  rintro e w1 ⟨rfl, hb1⟩
  have b0' := Boxed.to b0 hb1
  have b1' := Boxed.to b1 hb1
  have c1 := b0'.cell
  clear K1 hW0 c0
  gi_wp2
  refine ⟨trivial, ?_⟩
  gi_at_call 32
  refine (back_in Fence.wide _ trivial rfl a l.length cap _).mono ?_
  rintro e w' ⟨rfl, rfl⟩
  gi_wp2
  have r0 := (Boxed.new w1 25 (.pointer p)).alloc (.cells #[.slice a l.length cap] 44)
  have s0 := Boxed.new (w1.alloc (.cells #[.pointer p] 25)) 44 (.slice a l.length cap)
  have q1 := (b1'.alloc (.cells #[.pointer p] 25)).alloc (.cells #[.slice a l.length cap] 44)
  have hB1 := hB.trans (hb1.mono hB.size)
  have hz1 := hB1.size
  have hlt1 : w.heap.size + 1 < w1.heap.size := b1'.lt
  have hb3 : Below w1.heap.size w1 ((w1.alloc (.cells #[.pointer p] 25)).alloc (.cells #[.slice a l.length cap] 44)) := ((Below.refl _ _).alloc (Nat.le_refl _) _).alloc (by simp) _
  rw [World.size_alloc] at s0
  have hsz : ((w1.alloc (.cells #[.pointer p] 25)).alloc (.cells #[.slice a l.length cap] 44)).heap.size = w1.heap.size + 2 := by simp
  clear c1 b0' b1' b0 b1
  generalize (w1.alloc (.cells #[.pointer p] 25)).alloc (.cells #[.slice a l.length cap] 44) = W3 at *
  have hB3 := hB1.trans (hb3.mono hz1)
  have R3 := IsRope.later R hB3
  refine range_over rfl (by omega) (gf := 43) (lb := #[.pointer (some ⟨w1.heap.size + 1, 0, none⟩)]) rfl trivial (enters_of Try.func43 (by kernel_rfl) rfl)
    (back_over Fence.wide _ trivial rfl (by omega) (w1.heap.size + 1) w1.heap.size a l cap W3 (by omega) (by omega) (by omega) s0.cell ((hE.out.below hB3).up hz1))
    (fun h k => h.trans k)
    (fun W l' o h1 h2 => ⟨(Below.refl _ W).grown (grownBy_putObj' W l' o) (by omega) (fun k e => by cases e; omega), World.putObj_heap_other (by omega)⟩)
    (Below.refl _ _) (fun _ => rfl)
    (Going src l w1.heap.size (w.heap.size + 1) w.heap.size (w1.heap.size + 2) w) (going_own (Nat.le_refl _) (by omega))
    ⟨⟨l.length, p, src, Nat.le_refl _, by simp, r0, R3.out, step_start src l⟩, q1, hB3, by omega⟩
    (fun x a' W => ∃ Bx, Var (w1.heap.size + 1) x.1 Bx W ∧ a' = { tmps := #[.agg #[.pointer p], .slice a l.length cap, .pointer (some ⟨w.heap.size, 0, none⟩), undef, .pointer (some ⟨w.heap.size + 1, 0, none⟩), .int .i64 0, .int .i64 0, .pointer (some ⟨w1.heap.size, 0, none⟩), undef, .pointer (some ⟨Bx, 0, none⟩), undef, undef, undef, undef, .agg #[.pointer p], .slice a l.length cap, .int .i64 0, .int .i64 0, .bool false, undef, undef, .pointer (some ⟨w.heap.size, 0, none⟩), .pointer p, .slice a l.length cap, .func (.func 43) #[] #[.pointer (some ⟨w1.heap.size + 1, 0, none⟩)], .int .i64 (x.2 : Int), .agg #[.int .i64 x.1.s, .int .i64 x.1.e, .string x.1.t], undef, undef, undef, undef, undef, undef, undef, undef, undef, undef, undef, undef, undef, undef, undef, undef, undef, undef, undef, undef, undef, undef, undef], defers := [] })
    (fun x a' _ X Y row hs hg hr => by obtain ⟨Bx, h1, h2⟩ := hs; exact ⟨Bx, var_own () X Y row h1 hg hr, h2⟩)
    ?assign ?body ?done
  case assign =>
    intro li pre x rest W K hx hi hK
    have hWz := hi.size
    have hb := (Below.refl W.heap.size W).alloc (Nat.le_refl _) (.cells #[.int .i64 x.1.s, .int .i64 x.1.e, .string x.1.t] 67)
    dsimp only [encEd]
    gi_wp2
    exact hK _ _ (keeps_below hb) ⟨hb.mono (by omega), hb.block _ (by omega)⟩ (hi.to hb (by omega)) ⟨W.heap.size, ⟨by omega, by simp, by go_simp, by go_simp, by go_simp⟩, rfl⟩
  case body =>
    rintro li pre ⟨y, j⟩ rest a' W hx ⟨⟨k, q, c, hk, hbk, hroot, hrope, hstep⟩, hres, hlow, hsz2⟩ ⟨Bx, hV, rfl⟩
    have hbr : backs (l.take k) = (y, j) :: rest := List.append_cancel_left (hbk.symm.trans hx)
    obtain ⟨k', rfl, hy, hrest⟩ : ∃ k', k = k' + 1 ∧ l[k']? = some y ∧ rest = backs (l.take k') := by
      cases k with
      | zero => simp [backs] at hbr
      | succ k' =>
        have hz : l[k']? = some (l[k']'(by omega)) := List.getElem?_eq_getElem (by omega)
        rw [backs_step hz] at hbr
        injection hbr with e1 e2
        injection e1 with e3 e4
        exact ⟨k', rfl, by rw [← e3]; exact hz, e2.symm⟩
    have N := step_next hO.out hT.out (by omega) hy hstep
    obtain ⟨n1, n2, n3, n4, n5, n6⟩ := N
    have lt1 : (c.take y.e.toNat).length = y.e.toNat := by rw [List.length_take]; omega
    have lt2 : ((c.take y.e.toNat).take y.s.toNat).length = y.s.toNat := by rw [List.length_take]; omega
    have lt3 : (c.drop y.e.toNat).length ≤ 1000000 := by rw [List.length_drop]; omega
    have lt4 : y.t.data.toList.length ≤ 1000000 := by rw [Array.length_toList]; exact n5
    have K1 := Lib.hid (nsplit q c y.e W (Lib.hid hrope) (by omega) n3 (by omega))
    have K2 := Lib.hid (fun W' pa (h : Hid (IsRope W' pa (c.take y.e.toNat))) => nsplit pa _ y.s W' h n1 (by omega) (by omega))
    have K3 := Lib.hid (fun W' => nbuild y.t W' (by omega))
    have K4 := Lib.hid (fun W' pc pt (h1 : Hid (IsRope W' pc ((c.take y.e.toNat).take y.s.toNat))) (h2 : Hid (IsRope W' pt y.t.data.toList)) => njoin pc pt _ _ W' h1 h2 (by omega))
    have K5 := Lib.hid (fun W' pd pb (h1 : Hid (IsRope W' pd ((c.take y.e.toNat).take y.s.toNat ++ y.t.data.toList))) (h2 : Hid (IsRope W' pb (c.drop y.e.toNat))) => njoin pd pb _ _ W' h1 h2 (by rw [List.length_append]; omega))
    have HS := Lib.hid n6
    have HP := Lib.hid (show backs l = (pre ++ [(y, j)]) ++ backs (l.take k') by rw [hx, hrest]; simp)
    have cr := hroot.cell
    have cx := hV.c1
    clear hstep hrope hbr hbk hx lt1 lt2 lt3 lt4 n6
    gi_wp2
    refine ⟨trivial, ?_⟩
    gi_at_call 24
    refine (CallsIn.inRound li (callsIn_wide.2 (K1.out))).mono ?_
    rintro e Wa ⟨pa, pb, rfl, Ra, Rb, ba⟩
    have Va := Var.to hV ba
    have ra := Boxed.to hroot ba
    have ga := Boxed.to hres ba
    have cy := Va.c0
    have la := ba.size
    clear cr cx hV K1
    gi_wp2
    refine ⟨trivial, ?_⟩
    gi_at_call 24
    refine (CallsIn.inRound li (callsIn_wide.2 (K2.out Wa pa Ra))).mono ?_
    rintro e Wb ⟨pc, pd, rfl, Rc, _, bb⟩
    have bB := ba.trans (bb.mono la)
    have Rb2 := IsRope.later Rb bb
    have Vb := Var.to Va bb
    have rb := Boxed.to ra bb
    have gb := Boxed.to ga bb
    have ct := Vb.c2
    have lb := bB.size
    clear cy Va ra ga K2 Ra Rb ba
    gi_wp2
    refine ⟨trivial, ?_⟩
    gi_at_call 27
    refine (CallsIn.inRound li (callsIn_wide.2 (K3.out Wb))).mono ?_
    rintro e Wc ⟨pt, rfl, Rt, bc⟩
    have bC := bB.trans (bc.mono lb)
    have Rb3 := IsRope.later Rb2 bc
    have Rc3 := IsRope.later Rc bc
    have rc := Boxed.to rb bc
    have gc := Boxed.to gb bc
    have lc := bC.size
    clear ct Vb rb gb K3 Rb2 Rc bB
    gi_wp2
    refine ⟨trivial, ?_⟩
    gi_at_call 26
    refine (CallsIn.inRound li (callsIn_wide.2 (K4.out Wc pc pt Rc3 Rt))).mono ?_
    rintro e Wd ⟨pf, rfl, Rf, bd⟩
    have bD := bC.trans (bd.mono lc)
    have Rb4 := IsRope.later Rb3 bd
    have rd := Boxed.to rc bd
    have gd := Boxed.to gc bd
    have ld := bD.size
    clear rc gc K4 Rb3 Rc3 Rt bC
    gi_wp2
    refine ⟨trivial, ?_⟩
    gi_at_call 26
    refine (CallsIn.inRound li (callsIn_wide.2 (K5.out Wd pf pb Rf Rb4))).mono ?_
    rintro e We ⟨pn, rfl, Rn, be⟩
    have bE := bD.trans (be.mono ld)
    have re := Boxed.to rd be
    have ge := Boxed.to gd be
    have ce := re.cell
    have fe := re.frozen
    have le := bE.size
    clear rd gd K5 Rb4 Rf bD
    gi_wp2
    refine ⟨(keeps_below bE).trans ((KeepsOthers.setCell _ _ _).from _), ⟨(bE.mono (B' := w1.heap.size) (by omega)).setCell (p := ⟨w1.heap.size, 0, none⟩) (Nat.le_refl _) _, ?_⟩, ⟨⟨k', pn, _, by omega, HP.out, re.set _, Rn.out.set ce _, HS.out⟩, ge.other (by omega) _, (hlow.trans (bE.mono (B' := w.heap.size) (by omega))).setCell (p := ⟨w1.heap.size, 0, none⟩) (by simp; omega) _, by simp; omega⟩⟩
    rw [Below.heap_setCell _ _ _ _ (by show w1.heap.size + 1 ≠ w1.heap.size; omega)]
    exact bE.block _ (by omega)
  case done =>
    rintro D W hD ⟨⟨k, q, c, hk, hbk, hroot, hrope, hstep⟩, hres, hlow, hsz2⟩ hK
    have hk0 : k = 0 := by
      have e := List.append_cancel_left ((List.append_nil _).trans hbk)
      cases k with
      | zero => rfl
      | succ k' =>
        have hz : l[k']? = some (l[k']'(by omega)) := List.getElem?_eq_getElem (by omega)
        rw [backs_step hz] at e
        cases e
    subst hk0
    have hc := step_end hO.out hstep
    subst hc
    have cr := hroot.cell
    have cs := hres.cell
    have fs := hres.frozen
    have HR := Lib.hid (hrope.set cs (.pointer q))
    clear hrope hstep hbk
    gi_wp2
    have hK2 := (KeepsOthers.setCell W ⟨w.heap.size + 1, 0, none⟩ (.pointer q)).same D _ hK rfl
    have hr2 : ∀ r, some D = some r → ∃ o : Obj, (W.setCell ⟨w.heap.size + 1, 0, none⟩ (.pointer q)).heap[r]? = some o ∧ o.isCells = false := fun r e => by cases e; exact ⟨_, hK2, rfl⟩
    have hc5 := cell_kept (World.cell?_setCell_same' W ⟨w.heap.size + 1, 0, none⟩ (.pointer q) (by rw [cs]; rfl)) (grownBy_putObj' _ D (.deferred none)) hr2
    refine ⟨by simp, .inl ⟨_, _, rfl, run_takeDeferred hK2, ?_⟩⟩
    refine ⟨.tuple #[.agg #[.pointer q], .int .i64 0], ?_, q, rfl, HR.out.kept (grownBy_putObj' _ D (.deferred none)) hr2, (hlow.setCell (p := ⟨w.heap.size + 1, 0, none⟩) (by simp) _).trans (belowK_b (w := w) (Nat.le_refl _) _ D _ _ (by omega) hK2 rfl rfl)⟩
    simp [results, Try.results19, go_sem, hc5]
set_option maxHeartbeats 2000000 in
set_option maxRecDepth 100000 in
theorem rapply_bad (p : Option Addr) (src : List UInt8) (a : Option Addr) (cap : Nat) (l : List Ed) (w : World) (R : Hid (IsRope w p src)) (hn : src.length ≤ 1099511627776) (hl : l.length ≤ maxLen) (h : Eds w w.heap.size a l) (he : errV src.length l ≠ 0) :
    Calls Try.prog 19 #[.agg #[.pointer p], .slice a l.length cap] w fun e w' => e = .returned (.tuple #[.agg #[.pointer none], .int .i64 (errV src.length l)]) ∧ Below w.heap.size w w' := by
  have hB : Below w.heap.size w ((w.alloc (.cells #[.pointer p] 27)).alloc (.cells #[.pointer none] 27)) := ((Below.refl _ _).alloc (Nat.le_refl _) _).alloc (by simp) _
  have b0 := (Boxed.new w 27 (.pointer p)).alloc (.cells #[.pointer none] 27)
  have b1 := Boxed.new (w.alloc (.cells #[.pointer p] 27)) 27 (.pointer none)
  rw [World.size_alloc] at b1
  obtain ⟨W0, hW0⟩ : ∃ W0, (w.alloc (.cells #[.pointer p] 27)).alloc (.cells #[.pointer none] 27) = W0 := ⟨_, rfl⟩
  rw [hW0] at hB b0 b1
  have K1 := Lib.hid (rvalid_any p src a cap l W0 (IsRope.later R hB) hn hl ((h.below hB).up hB.size))
  generalize errV src.length l = v at *
  have hv1 : (v != 0) = true := by simpa using he
  have c0 := b0.cell
  clear h he
  refine (callsIn_wide (n := 4)).1 ?_
  refine callsIn_of_wp_marks Try.func19 rfl trivial ?_ rfl
  simp only [Try.ntmps19, List.size_toArray, List.length_cons, List.length_nil, Nat.reduceAdd, Nat.reduceSub, Array.replicate_succ, Array.replicate_zero, List.push_toArray, List.append_toArray, List.nil_append, List.cons_append]
  gi_wp2
  refine ⟨trivial, ?_⟩
  gi_at_call 31
  refine (callsIn_wide.2 K1.out).mono ?_
  rintro e w1 ⟨rfl, hb1⟩
  have b1' := Boxed.to b1 hb1
  have hlt1 : w.heap.size + 1 < w1.heap.size := b1'.lt
  have cs := b1'.cell
  have fs := b1'.frozen
  clear K1 hW0 c0
  gi_wp2
  have hc5 : (w1.setCell ⟨w.heap.size + 1, 0, none⟩ (.pointer none)).cell? ⟨w.heap.size + 1, 0, none⟩ = some (.pointer none) := World.cell?_setCell_same' _ _ _ (by rw [cs]; rfl)
  refine ⟨.tuple #[.agg #[.pointer none], .int .i64 v], ?_, rfl, (hB.trans (hb1.mono hB.size)).setCell (p := ⟨w.heap.size + 1, 0, none⟩) (by simp) _⟩
  simp [results, Try.results19, go_sem, hc5]
end Go.Proofs.Ytkbodbbbgibgfaa
