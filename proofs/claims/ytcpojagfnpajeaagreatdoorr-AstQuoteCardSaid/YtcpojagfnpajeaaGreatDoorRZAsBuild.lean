/-
  (*builder).build, by its contract: the node of a syntax tree.
-/
import Derived.Test.YtcpojagfnpajeaaGreatDoorRZAsMid
namespace Go.Proofs.YtcpojagfnpajeaaGreatDoorR.Ps
open Go.RowKit

theorem ownsNd_pl {w : World} {B : Nat} {v : Value} {l : List NE} (h : OwnsNd w B v l) {g : Nat} (hg : v.ownBlock = some g) : Pl w g := by
  rcases h.2 with ⟨e, _⟩ | ⟨g', cap, cur, e, _, hh, _⟩
  · rw [e] at hg; cases hg
  · rw [e] at hg
    cases hg
    exact ⟨_, _, hh⟩

/-- Where the slices of the nodes of a call begin that began in w and ended in w'. -/
abbrev NB (w w' : World) (v' : Value) : Nat → Nat → Prop := fun j o => o = 0 ∧ w.heap.size ≤ j ∧ j < w'.heap.size ∧ v'.ownBlock ≠ some j ∧ Pl w' j

structure BPost (b n0 : Nat) (src : List UInt8) (o : Nat) (v : Value) (d : List Dg) (x : Tree) (w : World) (sa : Option Addr) (cap : Nat) (w' : World) (v' : Value) (m : Nat) : Prop where
  bl : BldIn w' b n0 src (bldT x o).2.1 v' (d ++ (bldT x o).2.2)
  rep : Rep b v v' w w'
  ok : (bldT x o).1.ok
  c1 : (bldT x o).1.c.length ≤ cap
  c2 : cap ≤ maxLen
  c3 : sa = none → cap = 0
  nds : Nds w' (NB w w' v') TEx m sa (bldT x o).1.c

def BuildsTo (b n0 : Nat) (src : List UInt8) (n : Nat) : Prop :=
  ∀ (o : Nat) (v : Value) (d : List Dg) (x : Tree) (ta : Option Addr) (tc nk : Nat) (w : World), x.height ≤ n → x.ok → okP x = true → o + (srcs x.c).length ≤ 2000 → d.length + x.size + (srcs x.c).length ≤ 800000 →
    Kids w (fun j => j < n0) nk ta x.c → 3 ≤ n0 → n0 ≤ w.heap.size → Hid (Vars w) → Hid (BldIn w b n0 src o v d) →
    Calls Tryz.prog 55 #[.pointer (some ⟨b, 0, none⟩), tv x ta tc] w fun e w' => ∃ v' sa cap m, e = .returned (nv (bldT x o).1 (bldT x o).1.t sa cap) ∧ Hid (BPost b n0 src o v d x w sa cap w' v' m)

theorem Loc.acc {w : World} {lo b gb mb : Nat} {k : Int} {a a' : Acc} {v cv : Value} {l : List NE} {m : Nat} (h : Loc w lo b gb mb k a v cv l m) (e1 : a'.v = a.v) (e2 : a'.t = a.t) (e3 : a'.s = a.s) (e4 : a'.e = a.e) (e5 : a'.ns = a.ns) (e6 : a'.em = a.em) (e7 : a'.c = a.c) : Loc w lo b gb mb k a' v cv l m :=
  ⟨⟨by rw [h.nb.hg]; simp only [nBox, e1, e2, e3, e4, e5], by rw [h.nb.hm, e6], h.nb.ne⟩, h.own, by rw [h.ch, e7], h.sub, h.cne, h.vne, h.gne⟩

/-- The loop's state behind i parts: w2 is the world ahead of the node's boxes, n1 the number of blocks at the call. -/
structure LI (b n0 : Nat) (src : List UInt8) (o : Nat) (v : Value) (d : List Dg) (x : Tree) (n1 : Nat) (w2 : World) (a : Acc) (wr : World) (v' cv : Value) (l : List NE) (m : Nat) : Prop where
  loc : Loc wr (n1 + 4) b (n1 + 2) (n1 + 3) x.k a v' cv l m
  bl : BldIn wr b n0 src a.o v' (d ++ a.d)
  fr : Fr (fun j => j < n1 + 2 ∧ j ≠ b ∧ v.ownBlock ≠ some j) w2 wr
  row : ∀ g, v'.ownBlock = some g → v.ownBlock = some g ∨ n1 + 4 ≤ g
  big : n1 + 4 ≤ wr.heap.size

section
variable {b n0 : Nat} {src : List UInt8} {o : Nat} {v : Value} {d : List Dg} {x : Tree} {n1 : Nat} {w2 : World} {a : Acc} {wr : World} {v' cv : Value} {l : List NE} {m : Nat}
theorem LI.below (h : LI b n0 src o v d x n1 w2 a wr v' cv l m) {w' : World} (hb : Below wr.heap.size wr w') : LI b n0 src o v d x n1 w2 a w' v' cv l m :=
  ⟨h.loc.below hb, h.bl.below hb, h.fr.trans (Fr.of_below hb fun j hj => by have := h.big; omega), h.row, Nat.le_trans h.big hb.size⟩
/-- A call that reports. -/
theorem LI.rep (h : LI b n0 src o v d x n1 w2 a wr v' cv l m) {w' : World} {v3 : Value} {o3 : Nat} {ds : List Dg} (hr : Rep b v' v3 wr w') (hbl : BldIn w' b n0 src o3 v3 (d ++ a.d ++ ds)) :
    LI b n0 src o v d x n1 w2 { a with o := o3, d := a.d ++ ds } w' v3 cv l m := by
  have hbig := h.big
  refine ⟨(h.loc.rep hr).acc rfl rfl rfl rfl rfl rfl rfl, by rw [← List.append_assoc]; exact hbl, h.fr.trans (hr.fr.sub ?_), fun g hg => ?_, Nat.le_trans h.big hr.fr.size⟩
  · rintro j ⟨p1, p2, p3⟩
    refine ⟨by omega, p2, fun e => ?_⟩
    rcases h.row j e with q | q
    · exact p3 q
    · omega
  · rcases hr.row g hg with q | q
    · exact h.row g q
    · exact Or.inr (by omega)
/-- A call that changes but the boxes. -/
theorem LI.boxes (h : LI b n0 src o v d x n1 w2 a wr v' cv l m) {w' : World} {a' : Acc} (hn : NBox w' (n1 + 2) (n1 + 3) x.k a' cv) (hf : Fr (fun j => j < wr.heap.size ∧ j ≠ n1 + 2 ∧ j ≠ n1 + 3) wr w') (hc : a'.c = a.c) (ho : a'.o = a.o) (hd : a'.d = a.d) : LI b n0 src o v d x n1 w2 a' w' v' cv l m := by
  have hbig := h.big
  have := hf.size
  refine ⟨h.loc.boxes hn hf hc, by rw [ho, hd]; exact h.bl.boxes hf h.loc.gne h.loc.vne, h.fr.trans (hf.sub ?_), h.row, by omega⟩
  rintro j ⟨p1, p2, p3⟩
  exact ⟨by omega, by omega, by omega⟩
theorem LI.push (h : LI b n0 src o v d x n1 w2 a wr v' cv l m) {W : World} {cv' : Value} {l' : List NE} {m' : Nat} {a' : Acc} (hl : Loc W (n1 + 4) b (n1 + 2) (n1 + 3) x.k a' v' cv' l' m') (hf : Fr (fun j => j < wr.heap.size ∧ j ≠ n1 + 2 ∧ cv.ownBlock ≠ some j) wr W) (ho : a'.o = a.o) (hd : a'.d = a.d) : LI b n0 src o v d x n1 w2 a' W v' cv' l' m' := by
  have hbig := h.big
  have hs := hf.size
  refine ⟨hl, ?_, h.fr.trans (hf.sub ?_), h.row, by omega⟩
  · rw [ho, hd]
    refine ⟨(hf.block b ⟨h.bl.lt, fun e => h.loc.gne.1 e.symm, fun e => (h.loc.cne b e).1 rfl⟩).trans h.bl.hb, owns_of_block h.bl.own (fun g hg => hf.block g ⟨(World.ownsRow.lt h.bl.own g hg).2, (h.loc.vne g hg).1, fun e => (h.loc.cne g e).2.2.2 hg⟩), h.bl.ne, h.bl.nb⟩
  · rintro j ⟨p1, p2, p3⟩
    exact ⟨by omega, by omega, fun e => by have := (h.loc.cl e).1; omega⟩
theorem LI.vars (h : LI b n0 src o v d x n1 w2 a wr v' cv l m) (hv : Vars w2) (h3 : 3 ≤ n0) (hnb : n0 ≤ b) (hn1 : n0 ≤ n1) (hvo : ∀ g, v.ownBlock = some g → n0 ≤ g) : Vars wr :=
  hv.of_cells (h.fr.block _ ⟨by omega, by omega, fun e => by have := hvo _ e; omega⟩) (h.fr.block _ ⟨by omega, by omega, fun e => by have := hvo _ e; omega⟩)
end

def put7o (w : World) (g : Nat) (v0 v1 v2 v3 v4 v5 v6 : Value) : World :=
  ((((((w.setCell ⟨g, 0, none⟩ v0).setCell ⟨g, 1, none⟩ v1).setCell ⟨g, 2, none⟩ v2).setCell ⟨g, 3, none⟩ v3).setCell ⟨g, 4, none⟩ v4).setCell ⟨g, 5, none⟩ v5).setCell ⟨g, 6, none⟩ v6
set_option maxHeartbeats 2000000 in
theorem put7o_heap {w : World} {g : Nat} {a0 a1 a2 a3 a4 a5 a6 : Value} {t : TypeId} (h : w.heap[g]? = some (.cells #[a0, a1, a2, a3, a4, a5, a6] t (0, 0))) (v0 v1 v2 v3 v4 v5 v6 : Value) : (put7o w g v0 v1 v2 v3 v4 v5 v6).heap[g]? = some (.cells #[v0, v1, v2, v3, v4, v5, v6] t (0, 0)) := by
  have h0 : (w.setCell ⟨g, 0, none⟩ v0).heap[g]? = some (.cells #[v0, a1, a2, a3, a4, a5, a6] t (0, 0)) := by simp [World.setCell, Array.getElem?_modify, h]
  have h1 := (set7 (u := v1) h0).1
  have h2 := (set7 (u := v2) h1).2.1
  have h3 := (set7 (u := v3) h2).2.2.1
  have h4 := (set7 (u := v4) h3).2.2.2.1
  have h5 := (set7 (u := v5) h4).2.2.2.2.1
  unfold put7o
  exact (set7 (u := v6) h5).2.2.2.2.2
theorem fr_set (w : World) (g i : Nat) (u : Value) : Fr (fun j => j ≠ g) w (w.setCell ⟨g, i, none⟩ u) := ⟨rfl, rfl, rfl, by simp, fun j hj => heap_setCell_other w ⟨g, i, none⟩ j u hj⟩
theorem put7o_fr (w : World) (g : Nat) (v0 v1 v2 v3 v4 v5 v6 : Value) : Fr (fun j => j ≠ g) w (put7o w g v0 v1 v2 v3 v4 v5 v6) := by
  unfold put7o
  exact ((((((fr_set _ g 0 _).trans (fr_set _ g 1 _)).trans (fr_set _ g 2 _)).trans (fr_set _ g 3 _)).trans (fr_set _ g 4 _)).trans (fr_set _ g 5 _)).trans (fr_set _ g 6 _)

section
variable {b n0 : Nat} {src : List UInt8} {o : Nat} {v : Value} {d : List Dg} {x : Tree} {w w2 wr W : World} {v' : Value} {va : Option Addr} {vc : Nat} {l : List NE} {m : Nat}
/-- The loop is over: what stands behind the call, but for the value. -/
theorem end_parts (h : LI b n0 src o v d x w.heap.size w2 (accAt x.k o x.c x.c.length) wr v' (.slice va l.length vc) l m) (hB : Below w.heap.size w w2) (hf : Fr (fun j => j < wr.heap.size ∧ j ≠ w.heap.size + 1) wr W) (hbl : b < w.heap.size) (hvo : ∀ g, v.ownBlock = some g → g < w.heap.size) :
    BldIn W b n0 src (bldT x o).2.1 v' (d ++ (bldT x o).2.2) ∧ Rep b v v' w W ∧ SubN W (NB w W v') TEx m l ∧ (∀ g, (Value.slice va l.length vc).ownBlock = some g → NB w W v' g 0) ∧ OwnsNd W (w.heap.size + 4) (.slice va l.length vc) l := by
  have hbig := h.big
  have hs := hf.size
  have hvr : ∀ g, v'.ownBlock = some g → g ≠ w.heap.size + 1 := fun g hg => by
    rcases h.row g hg with q | q
    · have := hvo g q; omega
    · omega
  have hcl : ∀ g, (Value.slice va l.length vc).ownBlock = some g → w.heap.size ≤ g ∧ g < wr.heap.size ∧ g ≠ w.heap.size + 1 := by
    intro g hg
    have h1 := h.loc.cl hg
    omega
  refine ⟨?_, ?_, ?_, ?_, ?_⟩
  · rw [bldT_eq]
    exact ⟨(hf.block b ⟨h.bl.lt, by omega⟩).trans h.bl.hb, owns_of_block h.bl.own (fun g hg => hf.block g ⟨(World.ownsRow.lt h.bl.own g hg).2, hvr g hg⟩), h.bl.ne, h.bl.nb⟩
  · refine ⟨?_, fun g hg => (h.row g hg).imp id (fun q => by omega)⟩
    refine ⟨hf.os.trans (h.fr.os.trans hB.os), hf.tape.trans (h.fr.tape.trans hB.tape), hf.output.trans (h.fr.output.trans hB.output), by have := hB.size; omega, ?_⟩
    rintro j ⟨p1, p2, p3⟩
    rw [hf.block j ⟨by omega, by omega⟩, h.fr.block j ⟨by omega, p2, p3⟩, hB.block j p1]
  · refine (h.loc.sub.kept fun j o i hj => World.cell?_of_block (hf.block j ⟨hj.2.2.1, by have := hj.2.1; omega⟩)).up (fun j o hj => ?_) (Nat.le_refl _)
    obtain ⟨p1, p2, p3, p4, p5, p6, p7, p8⟩ := hj
    exact ⟨p1, by omega, by omega, p7, p8.2.of_block (hf.block j ⟨p3, by omega⟩)⟩
  · intro g hg
    have := hcl g hg
    exact ⟨rfl, this.1, by omega, (h.loc.cne g hg).2.2.2, (ownsNd_pl h.loc.own hg).of_block (hf.block g ⟨this.2.1, this.2.2⟩)⟩
  · exact owns_of_block h.loc.own (fun g hg => hf.block g ⟨(hcl g hg).2.1, (hcl g hg).2.2⟩)

theorem end_plain (h : LI b n0 src o v d x w.heap.size w2 (accAt x.k o x.c x.c.length) wr v' (.slice va l.length vc) l m) (hB : Below w.heap.size w w2) (hf : Fr (fun j => j < wr.heap.size ∧ j ≠ w.heap.size + 1) wr W) (hbl : b < w.heap.size) (hvo : ∀ g, v.ownBlock = some g → g < w.heap.size)
    (hk : x.k ≠ 60) (hxk : I64 x.k) (hbt : BT x o) (ho : o + (srcs x.c).length ≤ 2000) (hsz : x.size ≤ 1000000) : BPost b n0 src o v d x w va vc W v' (m + 1) := by
  obtain ⟨h1, h2, h3, h4, h5⟩ := end_parts h hB hf hbl hvo
  obtain ⟨a, cap, e, q1, q2, q3, q4⟩ := h5.nds h3 h4
  have hl : (l.map Prod.fst).length = l.length := List.length_map ..
  obtain ⟨e1, _, e3⟩ := Value.slice.inj e
  subst e1; subst e3
  rw [h.loc.ch] at q4 hl
  have hq : (bldT x o).1 = .mk x.k (accAt x.k o x.c x.c.length).v (accAt x.k o x.c x.c.length).t (accAt x.k o x.c x.c.length).s (accAt x.k o x.c x.c.length).e (accAt x.k o x.c x.c.length).ns (accAt x.k o x.c x.c.length).c := by
    rw [bldT_eq]
    unfold ndOf
    rw [if_neg hk]
  refine ⟨h1, h2, hbt.nok.ok (by rw [hq]; exact hxk) (by have := hbt.o2; omega) hsz, ?_, q2, q3, ?_⟩
  · rw [hq]; simp only [Nd.c]; omega
  · rw [hq]; exact q4

theorem end_paren (h : LI b n0 src o v d x w.heap.size w2 (accAt x.k o x.c x.c.length) wr v' (.slice va l.length vc) l m) (hB : Below w.heap.size w w2) (hf : Fr (fun j => j < wr.heap.size ∧ j ≠ w.heap.size + 1) wr W) (hbl : b < w.heap.size) (hvo : ∀ g, v.ownBlock = some g → g < w.heap.size)
    (hk : x.k = 60) {y : NE} {r : List NE} (hl : l = y :: r) (hbt : BT x o) (ho : o + (srcs x.c).length ≤ 2000) (hsz : x.size ≤ 1000000) :
    (bldT x o).1 = .mk y.1.k y.1.v y.1.t (accAt x.k o x.c x.c.length).s (accAt x.k o x.c x.c.length).e y.1.ns y.1.c ∧ y.2.1 = y.1.t ∧ BPost b n0 src o v d x w y.2.2.1 y.2.2.2 W v' m := by
  obtain ⟨h1, h2, h3, h4, h5⟩ := end_parts h hB hf hbl hvo
  obtain ⟨p1, p2, p3, p4, p5, p6⟩ := h3 y (by rw [hl]; exact List.mem_cons_self)
  have hc : (accAt x.k o x.c x.c.length).c = y.1 :: r.map Prod.fst := by rw [← h.loc.ch, hl]; rfl
  have hq : (bldT x o).1 = .mk y.1.k y.1.v y.1.t (accAt x.k o x.c x.c.length).s (accAt x.k o x.c x.c.length).e y.1.ns y.1.c := by
    rw [bldT_eq]
    unfold ndOf
    rw [if_pos hk, hc]
  refine ⟨hq, p2, h1, h2, hbt.nok.ok (by rw [hq]; exact p1.1) (by have := hbt.o2; omega) hsz, ?_, p4, p5, ?_⟩
  · rw [hq]; exact p3
  · rw [hq]; exact p6
end

theorem len_sizes (l : List Tree) : l.length ≤ sizes l := by
  induction l with
  | nil => simp [sizes]
  | cons y r ih => have := size_pos y; simp only [sizes, List.length_cons]; omega

set_option maxHeartbeats 4000000 in
set_option maxRecDepth 100000 in
theorem build_step (b n0 : Nat) (src : List UInt8) (n : Nat) (ih : BuildsTo b n0 src n) : BuildsTo b n0 src (n + 1) := by
  intro o v d x ta tc nk w hh hok hokp ho hd hkids h3 hn0 hv hbl
  obtain ⟨i0, ii, iz0, iz1, iz2⟩ := info_parts info_nd
  have HFIN := Lib.hid (bldT_eq x o)
  have hxl : x.c.length ≤ 800000 := by have := len_sizes x.c; have := size_eq x; omega
  have HBA := Lib.hid (fun i hi => ba_of (i := i) hokp ho hi)
  have HBT := Lib.hid (bt_all (n + 1) x o hh hokp ho)
  have HOKC : Hid (okPs x.c = true) := by
    show _ = _
    rw [okP_eq, Bool.and_eq_true] at hokp
    exact hokp.2
  have HPAR : Hid ((x.k != 60 || hasIn x.c) = true) := by
    show _ = _
    rw [okP_eq, Bool.and_eq_true] at hokp
    exact hokp.1
  have HIH := Lib.hid ih
  obtain ⟨hb, hown, hne, hnb⟩ := hbl.out
  obtain ⟨b0, b1, b2, bf0, bf1, bf2⟩ := three_facts hb
  have hlt : b < w.heap.size := hbl.out.lt
  obtain ⟨hxk, hxt, hxc⟩ := hok
  clear hb hown hokp ih
  go_enter Tryz.func55, Tryz.ntmps55
  go_upto_region 1 with fail
  obtain ⟨w2, hw2⟩ : ∃ w2, w2 = (w.alloc (.cells #[.int .i64 x.k, .string x.t, .slice ta x.c.length tc] 25)).alloc (.cells #[.int .i64 0, .int .i64 0, .string ⟨#[]⟩, .int .i64 0, .int .i64 0, .int .i64 0, .slice none 0 0] 36) := ⟨_, rfl⟩
  rw [show World.alloc (World.alloc w _) _ = w2 from hw2.symm]
  have hB2 : Below w.heap.size w w2 := by rw [hw2]; exact ((Below.refl _ _).alloc (Nat.le_refl _) _).alloc (by simp) _
  have hs2 : w2.heap.size = w.heap.size + 2 := by rw [hw2]; simp
  have htb : w2.heap[w.heap.size]? = some (.cells #[.int .i64 x.k, .string x.t, .slice ta x.c.length tc] 25 (0, 0)) := by rw [hw2, Below.heap_alloc _ _ _ (by simp)]; exact heap_alloc_new w _
  have hrb : Hid (w2.heap[w.heap.size + 1]? = some (.cells #[.int .i64 0, .int .i64 0, .string ⟨#[]⟩, .int .i64 0, .int .i64 0, .int .i64 0, .slice none 0 0] 36 (0, 0))) := by
    have := heap_alloc_new (w.alloc (.cells #[.int .i64 x.k, .string x.t, .slice ta x.c.length tc] 25)) (.cells #[.int .i64 0, .int .i64 0, .string ⟨#[]⟩, .int .i64 0, .int .i64 0, .int .i64 0, .slice none 0 0] 36)
    rw [hw2]
    show _ = _
    simpa using this
  have HBL2 := Lib.hid (hbl.out.below hB2)
  obtain ⟨y0, y1, y2, _, _, _⟩ := three_facts htb
  obtain ⟨b0, b1, b2, _, _, _⟩ := three_facts HBL2.out.hb
  have HTB := Lib.hid htb
  clear hw2 b0 b1 b2 htb
  obtain ⟨b0, b1, b2, _, _, _⟩ := three_facts HBL2.out.hb
  have hlt2 : b < w2.heap.size := by omega
  have hlt3 : w.heap.size < w2.heap.size := by omega
  have e1 : ∀ o', (w2.alloc o').drew.cell? ⟨b, 1, none⟩ = some (.int .i64 o) := fun o' => (World.cell?_of_block (Below.heap_alloc w2 o' b hlt2)).trans b1
  have e0 : ∀ o', (w2.alloc o').drew.cell? ⟨w.heap.size, 0, none⟩ = some (.int .i64 x.k) := fun o' => (World.cell?_of_block (Below.heap_alloc w2 o' w.heap.size hlt3)).trans y0
  go_region
  go_wp2_with fail
  have hvo : Hid (∀ g, v.ownBlock = some g → n0 ≤ g ∧ g < w.heap.size) := fun g hg => World.ownsRow.lt hbl.out.own g hg
  have hV2 : Hid (Vars w2) := hv.out.below hB2
  obtain ⟨w5, hw5⟩ : ∃ w5, w5 = ((w2.alloc (.cells #[.int .i64 x.k, .int .i64 0, .string ⟨#[]⟩, .int .i64 o, .int .i64 o, .int .i64 (-1), .slice none 0 0] 36)).alloc (.cells #[.bool true] 4)).drew := ⟨_, rfl⟩
  rw [show World.drew (World.alloc (World.alloc w2 _) _) = w5 from hw5.symm]
  have hB5 : Below w2.heap.size w2 w5 := by rw [hw5]; exact (((Below.refl _ _).alloc (Nat.le_refl _) _).alloc (by simp) _).drew
  have hs5 : w5.heap.size = w.heap.size + 4 := by rw [hw5]; simp; omega
  have HL0 : Hid (LI b n0 src o v d x w.heap.size w2 (accAt x.k o x.c 0) w5 v (.slice none 0 0) [] 0) := by
    have q1 : w5.heap[w.heap.size + 2]? = some (nBox x.k (acc0 o) (.slice none 0 0)) := by
      rw [hw5]
      show (World.alloc (World.alloc w2 _) _).heap[_]? = _
      rw [Below.heap_alloc _ _ _ (by simp; omega), ← hs2]
      exact heap_alloc_new _ _
    have q2 : w5.heap[w.heap.size + 3]? = some (.cells #[.bool true] 4 (0, 0)) := by
      have := heap_alloc_new (w2.alloc (.cells #[.int .i64 x.k, .int .i64 0, .string ⟨#[]⟩, .int .i64 o, .int .i64 o, .int .i64 (-1), .slice none 0 0] 36)) (.cells #[.bool true] 4)
      rw [show (w2.alloc (.cells #[.int .i64 x.k, .int .i64 0, .string ⟨#[]⟩, .int .i64 o, .int .i64 o, .int .i64 (-1), .slice none 0 0] 36)).heap.size = w.heap.size + 3 from by simp; omega] at this
      rw [hw5]
      exact this
    refine ⟨⟨⟨q1, q2, by omega⟩, World.ownsRow_nil _ _ _ _, rfl, SubN.nil _ _ _ _, (fun g hg => by cases hg), (fun g hg => by have := (hvo.out g hg).2; omega), by omega⟩, ?_, Fr.of_below hB5 (fun j hj => by omega), fun g hg => Or.inl hg, by omega⟩
    have := HBL2.out.below hB5
    simpa [accAt_zero, acc0] using this
  have HY : Hid (∀ wr a v' cv l m, LI b n0 src o v d x w.heap.size w2 a wr v' cv l m → wr.cell? ⟨w.heap.size, 0, none⟩ = some (.int .i64 x.k) ∧ wr.cell? ⟨w.heap.size, 2, none⟩ = some (.slice ta x.c.length tc)) := fun wr a v' cv l m h => by
    have e := h.fr.block w.heap.size ⟨by omega, by omega, fun e => by have := (hvo.out _ e).2; omega⟩
    exact ⟨(World.cell?_of_block e).trans y0, (World.cell?_of_block e).trans y2⟩
  clear hw5 hB5
  go_loopw [28] (fun i wr => ∃ k : Nat, k ≤ x.c.length ∧ i = .int .i64 k ∧ ∃ v' cv l m, Hid (LI b n0 src o v d x w.heap.size w2 (accAt x.k o x.c k) wr v' cv l m))
    (fun i _ => x.c.length - (intOf i).toNat)
  case atStart => exact ⟨0, Nat.zero_le _, rfl, v, _, _, _, HL0⟩
  case round =>
    obtain ⟨k, hk, rfl, v', cv, l, m, hli⟩ := hrel
    have hbig := hli.out.big
    by_cases hlt' : k < x.c.length
    · have HKL : Hid (k < x.c.length ∧ k < 800000) := ⟨hlt', by omega⟩
      have hx : x.c[k]? = some x.c[k] := List.getElem?_eq_getElem hlt'
      obtain ⟨y, hY⟩ : ∃ y, y = x.c[k] := ⟨_, rfl⟩
      rw [← hY] at hx
      clear hY
      obtain ⟨hyok, m0, bb, oo, sa0, cap0, hm0, rfl, hS, p0, p1, p2, hk0⟩ := Kids.at hkids hx
      have blk : ∀ j, j < n0 → wr.heap[j]? = w.heap[j]? := fun j hj => (hli.out.fr.block j ⟨by omega, by omega, fun e => by have := (hvo.out j e).1; omega⟩).trans (hB2.block j (by omega))
      have r0 := (World.cell?_of_block (a := ⟨bb, oo + k * 3, none⟩) (blk bb hS)).trans p0
      have r1 := (World.cell?_of_block (a := ⟨bb, oo + k * 3 + 1, none⟩) (blk bb hS)).trans p1
      have r2 := (World.cell?_of_block (a := ⟨bb, oo + k * 3 + 2, none⟩) (blk bb hS)).trans p2
      have HK0 : Hid (Kids wr (fun j => j < n0) m0 sa0 y.c) := hk0.kept fun j i hj => World.cell?_of_block (blk j hj)
      have hk0' : (0 : Int) ≤ (k : Int) := by omega
      have hk1' : (k : Int) < (x.c.length : Int) := by omega
      obtain ⟨ba1, ba2, ba3, ba4, ba5⟩ := HBA.out k (by omega)
      have e1 := srcs_step hx
      have e2 := sizes_step hx
      have e3 := srcs_upto x.c (k + 1)
      have e4 := sizes_upto x.c (k + 1)
      have e5 := size_eq x
      have e6 := tree_height x
      have e7 := height_of (List.mem_of_getElem? hx)
      have HACC := Lib.hid (accAt_succ (k := x.k) (o := o) hx)
      have HOKY := Lib.hid (fun h => okPs_mem HOKC.out (List.mem_of_getElem? hx) h)
      have HV := Lib.hid (hli.out.vars hV2.out h3 hnb hn0 (fun g hg => (hvo.out g hg).1))
      obtain ⟨W0, hW0⟩ : ∃ W0, W0 = wr.alloc (treeBox y.k y.t (.slice sa0 y.c.length cap0)) := ⟨_, rfl⟩
      have HB0 : Hid (Below wr.heap.size wr W0) := by rw [hW0]; exact (Below.refl _ _).alloc (Nat.le_refl _) _
      have hs0 : W0.heap.size = wr.heap.size + 1 := by rw [hW0]; simp
      have hpb : Hid (W0.heap[wr.heap.size]? = some (treeBox y.k y.t (.slice sa0 y.c.length cap0))) := by rw [hW0]; exact heap_alloc_new wr _
      obtain ⟨z0, z1, z2, _, _, _⟩ := three_facts hpb.out
      have HL0 := Lib.hid (hli.out.below HB0.out)
      have HW0 := Lib.hid hW0
      clear hW0
      have HCL : Hid ((accAt x.k o x.c k).c.length ≤ k) := ba1.c
      have HCV : Hid (∀ g, cv.ownBlock = some g → g < wr.heap.size) := fun g hg => (hli.out.loc.cl hg).2
      have HACCO : Hid (o ≤ (accAt x.k o x.c k).o ∧ (accAt x.k o x.c k).o ≤ o + (srcs (x.c.take k)).length) := ⟨ba1.o.1, ba2⟩
      clear hx p0 p1 p2 hk0 blk ba1 ba2 ba4 ba5
      by_cases hy : y.k < 100
      · have hys := srcT_inner' hy
        rw [hys] at e1
        have K1 := Lib.hid (HIH.out (accAt x.k o x.c k).o v' (d ++ (accAt x.k o x.c k).d) y sa0 cap0 m0 W0 (by omega) hyok (HOKY.out hy) (by have := HACCO.out; omega) (by simp only [List.length_append]; omega) (HK0.out.kept (fun j i hj => HB0.out.cell (p := ⟨j, i, none⟩) (by show j < wr.heap.size; omega))) h3 (by omega) (Lib.hid (HV.out.below HB0.out)) (Lib.hid HL0.out.bl))
        clear e1 e2 e3 e4 e5 e6 e7 ba3 hyok
        go_wp2_with fail
        rw [show World.alloc wr (.cells #[.int .i64 y.k, .string y.t, .slice sa0 y.c.length cap0] 25) = W0 from HW0.out.symm]
        go_wp2_with fail
        refine K1.out.mono ?_
        rintro e w3 ⟨v3, sa, cap, mq, rfl, hpost⟩
        have HL3 := Lib.hid (HL0.out.rep hpost.out.rep hpost.out.bl)
        have HACC2 : Hid (accAt x.k o x.c (k + 1) = cov (bldT y (accAt x.k o x.c k).o).1.s (bldT y (accAt x.k o x.c k).o).1.e { accAt x.k o x.c k with c := (accAt x.k o x.c k).c ++ [(bldT y (accAt x.k o x.c k).o).1], o := (bldT y (accAt x.k o x.c k).o).2.1, d := (accAt x.k o x.c k).d ++ (bldT y (accAt x.k o x.c k).o).2.2 }) := by
          show _ = _
          rw [HACC.out]; unfold stepA; rw [if_pos hy]
        obtain ⟨-, hr3, hok3, hc1, hc2, hc3, hnd3⟩ := hpost.out
        have HR3 := Lib.hid hr3
        have HOK3 := Lib.hid (And.intro hok3 (And.intro hc1 (And.intro hc2 hc3)))
        have HND3 := Lib.hid hnd3
        clear hr3 hok3 hc1 hc2 hc3 hnd3 hpost K1 HACC
        generalize bldT y (accAt x.k o x.c k).o = Q at *
        obtain ⟨q, o3, ds⟩ := Q
        go_upto_region 9 with fail
        obtain ⟨W4, hW4⟩ : ∃ W4, W4 = w3.alloc (.cells #[.int .i64 q.k, .int .i64 q.v, .string (Lx.bs q.t), .int .i64 q.s, .int .i64 q.e, .int .i64 q.ns, .slice sa q.c.length cap] 36) := ⟨_, rfl⟩
        rw [show World.alloc w3 _ = W4 from hW4.symm]
        have HB4 : Hid (Below w3.heap.size w3 W4) := by rw [hW4]; exact (Below.refl _ _).alloc (Nat.le_refl _) _
        have hs4 : W4.heap.size = w3.heap.size + 1 := by rw [hW4]; simp
        have hcb := heap_alloc_new w3 (.cells #[.int .i64 q.k, .int .i64 q.v, .string (Lx.bs q.t), .int .i64 q.s, .int .i64 q.e, .int .i64 q.ns, .slice sa q.c.length cap] 36)
        rw [← hW4] at hcb
        have HL4 := Lib.hid (HL3.out.below HB4.out)
        have hb3 := HR3.out.fr.size
        have HWD : Hid (Below W4.heap.size W4 W4.drew) := (Below.refl _ _).drew
        have HLD := Lib.hid (HL4.out.below HWD.out)
        clear hW4 HL3 HL0 HACCO z0 z1 z2 r0 r1 r2
        obtain ⟨u0, u1, u2, u3, u4, u5, u6⟩ := cells7 (w := W4.drew) hcb
        obtain ⟨va, vc, rfl⟩ := HLD.out.loc.own.form
        obtain ⟨_, _, _, _, _, _, n6⟩ := cells7 HLD.out.loc.nb.hg
        have nf6 := Lib.frozen_of_heap HLD.out.loc.nb.hg 6
        have hz2 : W4.drew.heap.size = w3.heap.size + 1 := hs4
        have hll : l.length ≤ 800000 := by
          have h1 := congrArg List.length HLD.out.loc.ch
          rw [List.length_map] at h1
          have h2 := HCL.out
          have h3 := HKL.out.2
          simp only at h1
          omega
        have hbig3 : w.heap.size + 4 < w3.heap.size := by omega
        have hnew : Hid ((W4.drew.alloc (.cells #[.int .i64 0, .int .i64 0, .string ⟨#[]⟩, .int .i64 0, .int .i64 0, .int .i64 0, .slice none 0 0] 36)).heap[w3.heap.size + 1]? = some (.cells #[.int .i64 0, .int .i64 0, .string ⟨#[]⟩, .int .i64 0, .int .i64 0, .int .i64 0, .slice none 0 0] 36 (0, 0))) := by rw [← hz2]; exact heap_alloc_new _ _
        have hcw : ∀ o' i, (W4.alloc o').drew.cell? ⟨w3.heap.size, i, none⟩ = W4.cell? ⟨w3.heap.size, i, none⟩ := fun o' i => World.cell?_of_block (Below.heap_alloc W4 o' w3.heap.size (by omega))
        obtain ⟨v0, v1, v2, v3', v4, v5, v6⟩ := cells7 (w := W4) hcb
        have x0 := fun o' => (hcw o' 0).trans v0
        have x1 := fun o' => (hcw o' 1).trans v1
        have x2 := fun o' => (hcw o' 2).trans v2
        have x3 := fun o' => (hcw o' 3).trans v3'
        have x4 := fun o' => (hcw o' 4).trans v4
        have x5 := fun o' => (hcw o' 5).trans v5
        have x6 := fun o' => (hcw o' 6).trans v6
        have n6' : ∀ o', (W4.alloc o').drew.cell? ⟨w.heap.size + 2, 6, none⟩ = some (.slice va l.length vc) := fun o' => (World.cell?_of_block (Below.heap_alloc W4 o' (w.heap.size + 2) (by omega))).trans n6
        clear hcw
        have hix : (l.length : Int) < (l.length : Int) + 1 := by omega
        go_region_law (refine step_append_lies _ (by rfl) _ _ _ (by rfl) (w.heap.size + 4) 36 i0 _ 7 80 Tryz.underlying34 ii iz0 iz1 iz2 rfl (by omega) _ l.length (ncl l) (by rfl) (World.ownsRow.alloc HLD.out.loc.own _) ⟨w3.heap.size + 1, 0, none⟩ 1 1 z7 (by rfl) (by rfl) (World.news_of_block hnew.out) (by simp [Value.oneCell']) (by omega) (by unfold maxLen; omega) (by omega) (by simp; omega) (w3.heap.size + 2) (by simp; omega) ?_; intro g cap' w6 hown6 hgrow6 hat hlt6; obtain ⟨hgb, g3, g4, ⟨s0, s1, s2, s3, s4, s5, s6⟩, t0, t1, t2, t3, t4, t5, t6⟩ := appended7 (gb := w.heap.size + 2) (by omega) n6 nf6 (fun q hq => (HLD.out.loc.cne q hq).2.1) hown6 hgrow6 hat (by omega))
        all_goals
          have HX4 : Hid (q.ok ∧ TEx q q.t ∧ q.c.length ≤ cap ∧ cap ≤ maxLen ∧ (sa = none → cap = 0) ∧ Nds W4.drew (fun j o => o = 0 ∧ w.heap.size + 4 ≤ j ∧ j < W4.drew.heap.size ∧ j ≠ b ∧ j ≠ w.heap.size + 2 ∧ j ≠ w.heap.size + 3 ∧ v3.ownBlock ≠ some j ∧ (Value.slice va l.length vc).ownBlock ≠ some j ∧ Pl W4.drew j) TEx mq sa q.c) := by
            obtain ⟨k1, k2, k3, k4⟩ := HOK3.out
            refine ⟨k1, rfl, k2, k3, k4, ?_⟩
            refine (HND3.out.kept fun j o i hj => World.cell?_of_block (show W4.drew.heap[j]? = w3.heap[j]? from HB4.out.block j hj.2.2.1)).up (fun j o hj => ?_) (fun _ _ h => h) (Nat.le_refl _)
            obtain ⟨p1, p2, p3, p4⟩ := hj
            exact ⟨p1, by omega, by omega, by omega, by omega, by omega, p4.1, fun e => by have := HCV.out j e; omega, p4.2.of_block (show W4.drew.heap[j]? = w3.heap[j]? from HB4.out.block j p3)⟩
          have HPE := push_end (g := g) (cap := cap') HLD.out.loc (q, q.t, sa, cap) HX4.out hgrow6 hown6 (hat.imp id (fun e => by omega)) (fun z hz => (World.ownsRow.lt HLD.out.bl.own z hz).2) HLD.out.bl.lt
          obtain ⟨WF, hWF⟩ : ∃ WF, WF = (put7 w6 g (l.length * 7) q q.t sa cap).setCell ⟨w.heap.size + 2, 6, none⟩ (.slice (some ⟨g, 0, none⟩) (l.length + 1) cap') := ⟨_, rfl⟩
          obtain ⟨hlocF, hfrF⟩ := HPE WF hWF
          have HLF := Lib.hid (HLD.out.push hlocF hfrF rfl rfl)
          have hcbF := (hfrF.block w3.heap.size ⟨by omega, by omega, fun e => by have := HCV.out _ e; omega⟩).trans (show W4.drew.heap[w3.heap.size]? = _ from hcb)
          have hA : (((((((w6.setCell ⟨g, l.length * 7, none⟩ (.int .i64 q.k)).setCell ⟨g, l.length * 7 + 1, none⟩ (.int .i64 q.v)).setCell ⟨g, l.length * 7 + 2, none⟩ (.string (Lx.bs q.t))).setCell ⟨g, l.length * 7 + 3, none⟩ (.int .i64 q.s)).setCell ⟨g, l.length * 7 + 4, none⟩ (.int .i64 q.e)).setCell ⟨g, l.length * 7 + 5, none⟩ (.int .i64 q.ns)).setCell ⟨g, l.length * 7 + 6, none⟩ (.slice sa q.c.length cap)).setCell ⟨w.heap.size + 2, 6, none⟩ (.slice (some ⟨g, 0, none⟩) (l.length + 1) cap') = WF := hWF.symm
          have hB : (((((((w6.setCell ⟨w.heap.size + 2, 6, none⟩ (.slice (some ⟨g, 0, none⟩) (l.length + 1) cap')).setCell ⟨g, l.length * 7, none⟩ (.int .i64 q.k)).setCell ⟨g, l.length * 7 + 1, none⟩ (.int .i64 q.v)).setCell ⟨g, l.length * 7 + 2, none⟩ (.string (Lx.bs q.t))).setCell ⟨g, l.length * 7 + 3, none⟩ (.int .i64 q.s)).setCell ⟨g, l.length * 7 + 4, none⟩ (.int .i64 q.e)).setCell ⟨g, l.length * 7 + 5, none⟩ (.int .i64 q.ns)).setCell ⟨g, l.length * 7 + 6, none⟩ (.slice sa q.c.length cap) = WF := (put7_comm w6 g (l.length * 7) (w.heap.size + 2) 6 q q.t sa cap (.slice (some ⟨g, 0, none⟩) (l.length + 1) cap') hgb).trans hWF.symm
          clear hown6 hgrow6 hat s0 s1 s2 s3 s4 s5 s6 t0 t1 t2 t3 t4 t5 t6 g3 g4 u0 u1 u2 u3 u4 u5 u6 v0 v1 v2 v3' v4 v5 v6 x0 x1 x2 x3 x4 x5 x6 n6 n6' nf6 HPE hWF hlocF hfrF
          first
            | rw [hA]
            | rw [hB]
          clear hA hB
          obtain ⟨_, _, _, c3, c4, _, _⟩ := cells7 hcbF
          have eg : ∀ args w, (callFunc 104 args).run Tryz.prog w = .ok (.enter 104 args) w := enters_of Tryz.func104 (by kernel_rfl) rfl
          have K4 := Lib.hid (cover_any (w.heap.size + 2) (w.heap.size + 3) x.k _ _ q.s q.e WF HLF.out.loc.nb)
          clear hcbF
          go_wp2_with fail
          refine K4.out.mono ?_
          rintro e w8 ⟨rfl, hn8, hf8, _⟩
          have HL8 := Lib.hid (HLF.out.boxes hn8 (hf8.sub fun j hj => hj.2) rfl rfl rfl)
          clear hn8 hf8 K4 c3 c4
          go_wp2_with fail
          go_round
          case rel => exact ⟨k + 1, HKL.out.1, (by have := HKL.out.2; go_num), v3, _, _, _, by rw [HACC2.out]; exact HL8⟩
          case measure => have := HKL.out.1; have := HKL.out.2; simp [intOf]; omega
      · have hyt := srcT_tok' hy
        obtain ⟨t, ht⟩ : ∃ t, t = Lx.L y.t := ⟨_, rfl⟩
        have hyt2 : y.t = Lx.bs t := by rw [ht, Lx.bs_L]
        rw [← ht] at hyt
        have hty : t.length ≤ 2000 := by omega
        have hoo : (accAt x.k o x.c k).o + t.length ≤ 2000 := by have := HACCO.out; omega
        have hdl : (d ++ (accAt x.k o x.c k).d).length ≤ 800000 := by simp only [List.length_append]; omega
        have HACC2 : Hid (accAt x.k o x.c (k + 1) = tokA x.k y.k t (accAt x.k o x.c k)) := by
          show _ = _
          rw [HACC.out]; unfold stepA; rw [if_neg hy, ← ht]
        rw [hyt2] at hpb HW0 z1
        clear e1 e2 e3 e4 e5 e6 e7 ba3 hyok HACC HOKY HIH ht hyt HACCO HK0
        rw [hyt2] at r1
        generalize accAt x.k o x.c k = a at *
        obtain ⟨_, g1, _, _, gf1, _⟩ := three_facts hli.out.bl.hb
        have hbl1 := hli.out.bl.lt
        have HBS := Lib.hid (Lx.bs_size t)
        go_upto_region 12 with fail
        rw [show World.alloc wr (.cells #[.int .i64 y.k, .string (Lx.bs t), .slice sa0 y.c.length cap0] 25) = W0 from HW0.out.symm]
        obtain ⟨_, a1, _, _, af1, _⟩ := three_facts HL0.out.bl.hb
        have hblt := HL0.out.bl.lt
        have hS0 : Hid ((W0.setCell ⟨b, 1, none⟩ (.int .i64 ((a.o + t.length : Nat) : Int))).heap[b]? = some (.cells #[.string (Lx.bs src), .int .i64 ((a.o + t.length : Nat) : Int), v'] 104 (0, 0))) := set_three1 HL0.out.bl.hb
        clear g1 gf1
        go_still_tail 10, (by kernel_rfl)
        change wpList _ _ _ _ _ W0.drew
        go_upto_region 13 with fail
        have hwr : wrap64 ((a.o : Int) + (((Lx.bs t).size : Nat) : Int)) = ((a.o + t.length : Nat) : Int) := by rw [HBS.out]; unfold wrap64; omega
        rw [hwr]
        obtain ⟨W1, hW1⟩ : ∃ W1, W1 = (W0.setCell ⟨b, 1, none⟩ (.int .i64 ((a.o + t.length : Nat) : Int))).drew := ⟨_, rfl⟩
        rw [← hW1]
        have hs1 : W1.heap.size = W0.heap.size := by rw [hW1]; simp
        have hoth : ∀ j, j ≠ b → W1.heap[j]? = W0.heap[j]? := fun j hj => by rw [hW1]; exact heap_setCell_other W0 ⟨b, 1, none⟩ j _ hj
        have HR1 : Hid (Rep b v' v' W0 W1) := ⟨⟨by rw [hW1]; rfl, by rw [hW1]; rfl, by rw [hW1]; rfl, by omega, fun j hj => hoth j hj.2.1⟩, fun _ hg => Or.inl hg⟩
        have HBL1 : Hid (BldIn W1 b n0 src (a.o + t.length) v' (d ++ a.d ++ [])) := by
          refine ⟨by rw [hW1]; exact hS0.out, ?_, HL0.out.bl.ne, HL0.out.bl.nb⟩
          rw [List.append_nil]
          exact owns_of_block HL0.out.bl.own (fun g hg => hoth g (fun e => HL0.out.bl.ne (by rw [hg, e])))
        have HL1 : Hid (LI b n0 src o v d x w.heap.size w2 { a with o := a.o + t.length } W1 v' cv l m) := by
          have := HL0.out.rep HR1.out HBL1.out
          rw [List.append_nil] at this
          exact this
        have hpb1 : Hid (W1.heap[wr.heap.size]? = some (sBox y.k (Lx.bs t) (.slice sa0 y.c.length cap0))) := (hoth wr.heap.size (by omega)).trans hpb.out
        have hvown : Hid (v'.ownBlock ≠ some wr.heap.size) := fun e => by have := (World.ownsRow.lt hli.out.bl.own _ e).2; omega
        have HV1 := Lib.hid (HL1.out.vars hV2.out h3 hnb hn0 (fun g hg => (hvo.out g hg).1))
        clear hW1 hwr hoth a1 af1 z0 z1 z2 r0 r1 r2 hS0 HBS
        obtain ⟨z0, z1, z2, _, _, _⟩ := three_facts hpb1.out
        have K2 := Lib.hid (check_any b n0 a.o (a.o + t.length) src v' (d ++ a.d) y.k t (.slice sa0 y.c.length cap0) W1 (by have := HBL1.out; rwa [List.append_nil] at this) (by omega) (by omega) hty (by omega) HV1.out)
        go_wp2_with fail
        refine K2.out.mono ?_
        rintro e w3 ⟨rfl, v3, hbl3, hr3⟩
        have HL3 := Lib.hid (HL1.out.rep hr3 hbl3)
        have hs3 := hr3.fr.size
        have hpb3 : Hid (w3.heap[wr.heap.size]? = some (sBox y.k (Lx.bs t) (.slice sa0 y.c.length cap0))) := (hr3.fr.block wr.heap.size ⟨by omega, by omega, hvown.out⟩).trans hpb1.out
        clear z0 z1 z2 hbl3 hr3 K2
        obtain ⟨z0, z1, z2, _, _, _⟩ := three_facts hpb3.out
        have K3 := Lib.hid (sig_any y.k t (.slice sa0 y.c.length cap0) w3)
        go_wp2_with fail
        refine K3.out.mono ?_
        rintro e w4 ⟨rfl, hb4⟩
        have HL4 := Lib.hid (HL3.out.below hb4)
        have hpb4 : Hid (w4.heap[wr.heap.size]? = some (sBox y.k (Lx.bs t) (.slice sa0 y.c.length cap0))) := (hb4.block wr.heap.size (by omega)).trans hpb3.out
        have hs4 := hb4.size
        clear z0 z1 z2 hb4 K3
        obtain ⟨_, a1, _, _, _, _⟩ := three_facts HL4.out.bl.hb
        cases hsg : sigT y.k t with
        | false =>
          have HT : Hid (tokA x.k y.k t a = { a with o := a.o + t.length, d := a.d ++ tokD y.k t a.o }) := by
            show _ = _
            unfold tokA
            simp only [hsg]
            rfl
          clear hsg
          go_wp2_with fail
          go_round
          case rel => exact ⟨k + 1, HKL.out.1, (by have := HKL.out.2; go_num), v3, cv, l, m, by rw [HACC2.out, HT.out]; exact HL4⟩
          case measure => have := HKL.out.1; have := HKL.out.2; simp [intOf]; omega
        | true =>
          have HT : Hid (tokA x.k y.k t a = setF x.k y.k t a.o (cov (a.o : Int) ((a.o + t.length : Nat) : Int) { a with o := a.o + t.length, d := a.d ++ tokD y.k t a.o })) := by
            show _ = _
            unfold tokA
            simp only [hsg]
            rfl
          clear hsg
          have eg : ∀ args w, (callFunc 104 args).run Tryz.prog w = .ok (.enter 104 args) w := enters_of Tryz.func104 (by kernel_rfl) rfl
          have K4 := Lib.hid (cover_any (w.heap.size + 2) (w.heap.size + 3) x.k _ cv (a.o : Int) ((a.o + t.length : Nat) : Int) w4 HL4.out.loc.nb)
          go_wp2_with fail
          refine K4.out.mono ?_
          rintro e w5 ⟨rfl, hn5, hf5, hs5⟩
          have HL5 := Lib.hid (HL4.out.boxes hn5 (hf5.sub fun j hj => hj.2) rfl rfl rfl)
          have hpb5 : Hid (w5.heap[wr.heap.size]? = some (sBox y.k (Lx.bs t) (.slice sa0 y.c.length cap0))) := (hf5.block wr.heap.size ⟨by omega, by omega⟩).trans hpb4.out
          clear a1 hn5 hf5 K4
          obtain ⟨z0, z1, z2, _, _, _⟩ := three_facts hpb5.out
          have K5 := Lib.hid (setf_any (w.heap.size + 2) x.k y.k t (.slice sa0 y.c.length cap0) a.o _ cv w5 HL5.out.loc.nb.hg (HL5.out.vars hV2.out h3 hnb hn0 (fun g hg => (hvo.out g hg).1)) hty)
          go_wp2_with fail
          refine K5.out.mono ?_
          rintro e w6 ⟨rfl, hset⟩
          have HL6 := Lib.hid (HL5.out.boxes (a' := setF x.k y.k t a.o (cov (a.o : Int) ((a.o + t.length : Nat) : Int) { a with o := a.o + t.length, d := a.d ++ tokD y.k t a.o })) ⟨hset.1, by
            obtain ⟨_, _, _, q4⟩ := setF_o x.k y.k t a.o (cov (a.o : Int) ((a.o + t.length : Nat) : Int) { a with o := a.o + t.length, d := a.d ++ tokD y.k t a.o })
            rw [q4]
            exact (hset.2.block (w.heap.size + 3) ⟨by omega, by omega⟩).trans HL5.out.loc.nb.hm, by omega⟩ (hset.2.sub fun j hj => ⟨hj.1, hj.2.1⟩) (setF_o _ _ _ _ _).2.2.1 (setF_o _ _ _ _ _).1 (setF_o _ _ _ _ _).2.1)
          clear hset z0 z1 z2 K5
          go_wp2_with fail
          go_round
          case rel => exact ⟨k + 1, HKL.out.1, (by have := HKL.out.2; go_num), v3, cv, l, m, by rw [HACC2.out, HT.out]; exact HL6⟩
          case measure => have := HKL.out.1; have := HKL.out.2; simp [intOf]; omega
    · have hkl : k = x.c.length := by omega
      subst hkl
      obtain ⟨va, vc, rfl⟩ := hli.out.loc.own.form
      obtain ⟨c0, c1, c2, c3, c4, c5, c6⟩ := cells7 hli.out.loc.nb.hg
      obtain ⟨q0, q2⟩ := HY.out _ _ _ _ _ _ hli.out
      have hres : wr.heap[w.heap.size + 1]? = some (.cells #[.int .i64 0, .int .i64 0, .string ⟨#[]⟩, .int .i64 0, .int .i64 0, .int .i64 0, .slice none 0 0] 36 (0, 0)) := (hli.out.fr.block (w.heap.size + 1) ⟨by omega, by omega, fun e => by have := (hvo.out _ e).2; omega⟩).trans hrb.out
      obtain ⟨s0, s1, s2, s3, s4, s5, s6⟩ := cells7 hres
      have t0 := Lib.frozen_of_heap hres 0
      have t1 := Lib.frozen_of_heap hres 1
      have t2 := Lib.frozen_of_heap hres 2
      have t3 := Lib.frozen_of_heap hres 3
      have t4 := Lib.frozen_of_heap hres 4
      have t5 := Lib.frozen_of_heap hres 5
      have t6 := Lib.frozen_of_heap hres 6
      have HRES := Lib.hid hres
      clear hres
      have hsz1 : x.size ≤ 1000000 := by omega
      by_cases h60 : x.k = 60
      · have hin : hasIn x.c = true := by simpa [h60] using HPAR.out
        have hne' : l ≠ [] := fun e => by
          have h1 := (HBA.out x.c.length (Nat.le_refl _)).ne (by rw [List.take_length]; exact hin)
          have h2 := hli.out.loc.ch
          rw [e] at h2
          exact h1 h2.symm
        obtain ⟨y, r, hl⟩ : ∃ y r, l = y :: r := by
          cases l with
          | nil => exact absurd rfl hne'
          | cons y r => exact ⟨y, r, rfl⟩
        have hl0 : 0 < l.length := by rw [hl]; simp
        obtain ⟨g, rfl⟩ : ∃ g, va = some ⟨g, 0, none⟩ := by
          rcases hli.out.loc.own.2 with ⟨e, h0⟩ | ⟨g, cap, cur, e, _⟩
          · omega
          · exact ⟨g, (Value.slice.inj e).1⟩
        have hca : ∀ j, j < 7 → wr.cell? ⟨g, j, none⟩ = (ndCells y.1 y.2.1 y.2.2.1 y.2.2.2)[j]? := fun j hj => by
          have := World.ownsRow.cellAt hli.out.loc.own j (by omega)
          rw [hl, show ncl (y :: r) = ndCells y.1 y.2.1 y.2.2.1 y.2.2.2 ++ ncl r from rfl, List.getElem?_append_left (by simpa [ndCells] using hj)] at this
          exact this
        have m0 := hca 0 (by omega)
        have m1 := hca 1 (by omega)
        have m2 := hca 2 (by omega)
        have m3 := hca 3 (by omega)
        have m4 := hca 4 (by omega)
        have m5 := hca 5 (by omega)
        have m6 := hca 6 (by omega)
        simp only [ndCells, List.getElem?_cons_zero, List.getElem?_cons_succ] at m0 m1 m2 m3 m4 m5 m6
        have HLL := Lib.hid hl
        have HLI := Lib.hid (fun W hf => end_paren (W := W) hli.out hB2 hf hlt (fun g hg => (hvo.out g hg).2) h60 hl HBT.out ho hsz1)
        have HLS := Lib.hid hli.out.loc.gl
        clear hl hca hne' hin y0 y1 HY
        go_upto_region 20 with fail
        obtain ⟨W1, hW1⟩ : ∃ W1, W1 = wr.alloc (.cells #[.int .i64 y.1.k, .int .i64 y.1.v, .string (Lx.bs y.2.1), .int .i64 y.1.s, .int .i64 y.1.e, .int .i64 y.1.ns, .slice y.2.2.1 y.1.c.length y.2.2.2] 36) := ⟨_, rfl⟩
        rw [show World.alloc wr _ = W1 from hW1.symm]
        have hbw : Below wr.heap.size wr W1 := by rw [hW1]; exact below_box _ _
        have hs1 : W1.heap.size = wr.heap.size + 1 := by rw [hW1]; simp
        have hob : W1.heap[wr.heap.size]? = some (.cells #[.int .i64 y.1.k, .int .i64 y.1.v, .string (Lx.bs y.2.1), .int .i64 y.1.s, .int .i64 y.1.e, .int .i64 y.1.ns, .slice y.2.2.1 y.1.c.length y.2.2.2] 36 (0, 0)) := by rw [hW1]; exact heap_alloc_new _ _
        have HN1 : Hid (W1.heap[w.heap.size + 2]? = some (nBox x.k (accAt x.k o x.c x.c.length) (.slice (some ⟨g, 0, none⟩) l.length vc))) := (hbw.block _ HLS.out.1).trans hli.out.loc.nb.hg
        have HR1 : Hid (W1.heap[w.heap.size + 1]? = some (.cells #[.int .i64 0, .int .i64 0, .string ⟨#[]⟩, .int .i64 0, .int .i64 0, .int .i64 0, .slice none 0 0] 36 (0, 0))) := (hbw.block _ (by omega)).trans HRES.out
        have HFW : Hid (Fr (fun j => j < wr.heap.size) wr W1) := Fr.of_below hbw fun j hj => hj
        clear hW1 hbw m0 m1 m2 m3 m4 m5 m6 c0 c1 c2 c3 c4 c5 c6 t0 t1 t2 t3 t4 t5 t6 s0 s1 s2 s3 s4 s5 s6
        have hOB := Lib.hid hob
        obtain ⟨_, _, _, c3, c4, _, _⟩ := cells7 HN1.out
        obtain ⟨_, _, _, o3, o4, _, _⟩ := cells7 hob
        have p3 := Lib.frozen_of_heap hob 3
        have p4 := Lib.frozen_of_heap hob 4
        have hnw : w.heap.size + 2 < wr.heap.size := HLS.out.1
        have H60 := Lib.hid h60
        have HSE : Hid (∀ W, W = ((W1.setCell ⟨wr.heap.size, 3, none⟩ (.int .i64 (accAt x.k o x.c x.c.length).s)).setCell ⟨wr.heap.size, 4, none⟩ (.int .i64 (accAt x.k o x.c x.c.length).e)).drew → W.heap[wr.heap.size]? = some (.cells #[.int .i64 y.1.k, .int .i64 y.1.v, .string (Lx.bs y.2.1), .int .i64 (accAt x.k o x.c x.c.length).s, .int .i64 (accAt x.k o x.c x.c.length).e, .int .i64 y.1.ns, .slice y.2.2.1 y.1.c.length y.2.2.2] 36 (0, 0)) ∧ Fr (fun j => j < wr.heap.size) wr W ∧ W.heap[w.heap.size + 1]? = W1.heap[w.heap.size + 1]?) := by
          rintro W rfl
          have f := ((fr_set W1 wr.heap.size 3 (.int .i64 (accAt x.k o x.c x.c.length).s)).trans (fr_set _ wr.heap.size 4 (.int .i64 (accAt x.k o x.c x.c.length).e))).sub (B := fun j => j < wr.heap.size) (fun j hj => by omega)
          have g := HFW.out.trans f
          refine ⟨(set7 (set7 hOB.out).2.2.1).2.2.2.1, ⟨g.os, g.tape, g.output, g.size, g.block⟩, ?_⟩
          · show (World.setCell (World.setCell W1 _ _) _ _).heap[w.heap.size + 1]? = _
            rw [heap_setCell_other _ ⟨wr.heap.size, 4, none⟩ _ _ (by show w.heap.size + 1 ≠ wr.heap.size; omega), heap_setCell_other _ ⟨wr.heap.size, 3, none⟩ _ _ (by show w.heap.size + 1 ≠ wr.heap.size; omega)]
        clear hob h60
        go_region
        obtain ⟨W2, hW2⟩ : ∃ W2, W2 = ((W1.setCell ⟨wr.heap.size, 3, none⟩ (.int .i64 (accAt x.k o x.c x.c.length).s)).setCell ⟨wr.heap.size, 4, none⟩ (.int .i64 (accAt x.k o x.c x.c.length).e)).drew := ⟨_, rfl⟩
        rw [show World.drew (World.setCell (World.setCell W1 _ _) _ _) = W2 from hW2.symm]
        obtain ⟨h2a, h2b, h2c⟩ := HSE.out W2 hW2
        have HF2 := Lib.hid h2b
        have hr2 := h2c.trans HR1.out
        obtain ⟨e0, e1, e2, e3, e4, e5, e6⟩ := cells7 h2a
        obtain ⟨s0, s1, s2, s3, s4, s5, s6⟩ := cells7 hr2
        have t0 := Lib.frozen_of_heap hr2 0
        have t1 := Lib.frozen_of_heap hr2 1
        have t2 := Lib.frozen_of_heap hr2 2
        have t3 := Lib.frozen_of_heap hr2 3
        have t4 := Lib.frozen_of_heap hr2 4
        have t5 := Lib.frozen_of_heap hr2 5
        have t6 := Lib.frozen_of_heap hr2 6
        have HR2 := Lib.hid hr2
        clear hW2 h2a h2b h2c hr2 c3 c4 o3 o4 p3 p4
        go_wp2_with fail
        have hfr := put7o_fr W2 (w.heap.size + 1) (.int .i64 y.1.k) (.int .i64 y.1.v) (.string (Lx.bs y.2.1)) (.int .i64 (accAt x.k o x.c x.c.length).s) (.int .i64 (accAt x.k o x.c x.c.length).e) (.int .i64 y.1.ns) (.slice y.2.2.1 y.1.c.length y.2.2.2)
        have HW := cells7 (put7o_heap HR2.out (.int .i64 y.1.k) (.int .i64 y.1.v) (.string (Lx.bs y.2.1)) (.int .i64 (accAt x.k o x.c x.c.length).s) (.int .i64 (accAt x.k o x.c x.c.length).e) (.int .i64 y.1.ns) (.slice y.2.2.1 y.1.c.length y.2.2.2))
        change bodyPost _ _ _ _ _ (put7o W2 (w.heap.size + 1) (.int .i64 y.1.k) (.int .i64 y.1.v) (.string (Lx.bs y.2.1)) (.int .i64 (accAt x.k o x.c x.c.length).s) (.int .i64 (accAt x.k o x.c x.c.length).e) (.int .i64 y.1.ns) (.slice y.2.2.1 y.1.c.length y.2.2.2))
        generalize put7o W2 (w.heap.size + 1) (.int .i64 y.1.k) (.int .i64 y.1.v) (.string (Lx.bs y.2.1)) (.int .i64 (accAt x.k o x.c x.c.length).s) (.int .i64 (accAt x.k o x.c x.c.length).e) (.int .i64 y.1.ns) (.slice y.2.2.1 y.1.c.length y.2.2.2) = W3 at hfr HW ⊢
        obtain ⟨e0, e1, e2, e3, e4, e5, e6⟩ := HW
        obtain ⟨hq, hyt, hbp⟩ := HLI.out W3 ((HF2.out.sub fun j hj => hj.1).trans (hfr.sub fun j hj => hj.2))
        refine bodyPost_ret (by simp [results, Tryz.results55, go_sem, e0, e1, e2, e3, e4, e5, e6]; try rfl) rfl ?_
        refine ⟨v', y.2.2.1, y.2.2.2, m, ?_, Lib.hid hbp⟩
        rw [hq, hyt]
        rfl
      · have hfr := put7o_fr wr (w.heap.size + 1) (.int .i64 x.k) (.int .i64 (accAt x.k o x.c x.c.length).v) (.string (Lx.bs (accAt x.k o x.c x.c.length).t)) (.int .i64 (accAt x.k o x.c x.c.length).s) (.int .i64 (accAt x.k o x.c x.c.length).e) (.int .i64 (accAt x.k o x.c x.c.length).ns) (.slice va l.length vc)
        have HPO := Lib.hid (end_plain hli.out hB2 (hfr.sub fun j hj => hj.2) hlt (fun g hg => (hvo.out g hg).2) h60 hxk HBT.out ho hsz1)
        have hqq : Hid ((bldT x o).1 = .mk x.k (accAt x.k o x.c x.c.length).v (accAt x.k o x.c x.c.length).t (accAt x.k o x.c x.c.length).s (accAt x.k o x.c x.c.length).e (accAt x.k o x.c x.c.length).ns (accAt x.k o x.c x.c.length).c) := by
          show _ = _
          rw [bldT_eq]
          unfold ndOf
          rw [if_neg h60]
        have HW := Lib.hid (cells7 (put7o_heap HRES.out (.int .i64 x.k) (.int .i64 (accAt x.k o x.c x.c.length).v) (.string (Lx.bs (accAt x.k o x.c x.c.length).t)) (.int .i64 (accAt x.k o x.c x.c.length).s) (.int .i64 (accAt x.k o x.c x.c.length).e) (.int .i64 (accAt x.k o x.c x.c.length).ns) (.slice va l.length vc)))
        have hcl : Hid (l.length = (accAt x.k o x.c x.c.length).c.length) := by
          show _ = _
          rw [← hli.out.loc.ch, List.length_map]
        clear y0 y1 HY hfr
        go_wp2_with fail
        obtain ⟨W, hW⟩ : ∃ W, W = put7o wr (w.heap.size + 1) (.int .i64 x.k) (.int .i64 (accAt x.k o x.c x.c.length).v) (.string (Lx.bs (accAt x.k o x.c x.c.length).t)) (.int .i64 (accAt x.k o x.c x.c.length).s) (.int .i64 (accAt x.k o x.c x.c.length).e) (.int .i64 (accAt x.k o x.c x.c.length).ns) (.slice va l.length vc) := ⟨_, rfl⟩
        rw [← hW] at HPO HW
        obtain ⟨e0, e1, e2, e3, e4, e5, e6⟩ := HW.out
        change bodyPost _ _ _ _ _ (put7o wr (w.heap.size + 1) (.int .i64 x.k) (.int .i64 (accAt x.k o x.c x.c.length).v) (.string (Lx.bs (accAt x.k o x.c x.c.length).t)) (.int .i64 (accAt x.k o x.c x.c.length).s) (.int .i64 (accAt x.k o x.c x.c.length).e) (.int .i64 (accAt x.k o x.c x.c.length).ns) (.slice va l.length vc))
        rw [← hW]
        refine bodyPost_ret (by simp [results, Tryz.results55, go_sem, e0, e1, e2, e3, e4, e5, e6]; try rfl) rfl ?_
        refine ⟨v', va, vc, m + 1, ?_, HPO⟩
        rw [hqq.out, hcl.out]
        rfl
end Go.Proofs.YtcpojagfnpajeaaGreatDoorR.Ps
