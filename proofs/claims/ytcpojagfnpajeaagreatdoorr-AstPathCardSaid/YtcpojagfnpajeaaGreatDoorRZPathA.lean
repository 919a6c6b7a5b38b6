/-
  The map of visited nodes, in memory.
  childAt, PathAt: the way to the innermost node at an offset.
  PathAt: the way to the innermost node at an offset.
-/
import Derived.Test.YtcpojagfnpajeaaGreatDoorRZEqA
import Derived.Test.YtcpojagfnpajeaaGreatDoorRZAsLeaf
import Derived.Test.YtcpojagfnpajeaaGreatDoorRZFitHt
import Derived.Carry
namespace Go.Proofs.YtcpojagfnpajeaaGreatDoorR.Ps
open Go.RowKit

theorem eq_nd (w : World) {a b : Addr} (ha : Pl w a.block) (hb : Pl w b.block) : (Op.equal 107 (.pointer (some a)) (.pointer (some b))).run Tryz.prog w = .ok (decide (a = b)) w := eqp 9999 w ha hb

abbrev kp (p : Addr) : Value × Value := (.pointer (some p), .bool true)
/-- The map in block b has the keys m, each with true; the keys lie in plain blocks. -/
def PMP (w : World) (b : Nat) (m : List Addr) : Prop :=
  ∃ es clock, w.heap[b]? = some (.map es clock) ∧ es.toList.map (fun e => (e.key, e.val)) = m.map kp ∧ ∀ p ∈ m, Pl w p.block

def fndP (a : Addr) : List Addr → Nat → Option Nat
  | [], _ => none
  | p :: r, i => if a = p then some i else fndP a r (i + 1)
theorem fndP_mem (a : Addr) : ∀ (m : List Addr) (i : Nat), (fndP a m i).isSome = decide (a ∈ m)
  | [], _ => by simp [fndP]
  | p :: r, i => by
    unfold fndP
    split
    · rename_i h; simp [h]
    · rename_i h
      rw [fndP_mem a r (i + 1)]
      simp [h]

theorem find_nd (w : World) {a : Addr} (ha : Pl w a.block) : ∀ (L : List MapEntry) (m : List Addr) (i : Nat), L.map (fun e => (e.key, e.val)) = m.map kp → (∀ p ∈ m, Pl w p.block) →
    (Instr.findAsking 107 (.pointer (some a)) L i).run Tryz.prog w = .ok ((fndP a m i).map fun q => (q, .bool true)) w
  | [], m, i, h, _ => by
    cases m with
    | nil => rfl
    | cons p r => simp at h
  | e :: L, m, i, h, hp => by
    cases m with
    | nil => simp at h
    | cons p r =>
      simp only [List.map_cons, List.cons.injEq, Prod.mk.injEq] at h
      obtain ⟨⟨h1, h2⟩, h3⟩ := h
      unfold Instr.findAsking fndP
      rw [h1]
      simp only [Sem.run_bind, eq_nd w ha (hp p (by simp)), Result.andThen]
      by_cases hap : a = p
      · simp [hap, h2]
      · simp only [hap, decide_false, Bool.false_eq_true, if_false]
        exact find_nd w ha L r (i + 1) h3 (fun q hq => hp q (by simp [hq]))

theorem findKey_nd (w : World) {a : Addr} (ha : Pl w a.block) (L : List MapEntry) (m : List Addr) (h : L.map (fun e => (e.key, e.val)) = m.map kp) (hp : ∀ p ∈ m, Pl w p.block) :
    (Instr.findKey 107 (.pointer (some a)) L).run Tryz.prog w = .ok ((fndP a m 0).map fun q => (q, .bool true)) w := by
  unfold Instr.findKey
  simp only [Sem.run_bind, run_underlying Tryz.underlying107, Result.andThen]
  cases L with
  | nil =>
    cases m with
    | nil => simp [Instr.findNow, fndP]
    | cons p r => simp at h
  | cons e L =>
    have : Instr.findNow (.pointer 36) (.pointer (some a)) (e :: L) 0 = none := by
      unfold Instr.findNow
      have : Instr.sameNow (.pointer 36) (.pointer (some a)) e.key = none := by unfold Instr.sameNow; split <;> simp_all
      rw [this]
    rw [this]
    exact find_nd w ha (e :: L) m 0 h hp

theorem check_nd (w : World) (em : Bool) (a : Addr) : (Instr.checkKey em 10000 107 (.pointer (some a))).run Tryz.prog w = .ok () w := by
  unfold Instr.checkKey
  simp [run_underlying Tryz.underlying107, Result.andThen]

theorem PMP.look {w : World} {b : Nat} {m : List Addr} (h : PMP w b m) {a : Addr} (ha : Pl w a.block) :
    (Instr.lookup 149 (.map (some b)) (.pointer (some a)) false).run Tryz.prog w = .ok (.bool (decide (a ∈ m))) w := by
  obtain ⟨es, clock, hb, h1, h2⟩ := h
  have hf := findKey_nd w ha es.toList m h1 h2
  have hm := fndP_mem a m 0
  cases hc : fndP a m 0 with
  | none =>
    rw [hc] at hf hm
    simp at hm
    simp [Instr.lookup, run_underlying Tryz.underlying149, MapKept.run_getObj_map hb, check_nd, hf, Result.andThen, hm]
  | some q =>
    rw [hc] at hf hm
    simp at hm
    simp [Instr.lookup, run_underlying Tryz.underlying149, MapKept.run_getObj_map hb, check_nd, hf, Result.andThen, hm]

theorem PMP.store {w : World} {b : Nat} {m : List Addr} (h : PMP w b m) {a : Addr} (ha : Pl w a.block) (hn : a ∉ m) :
    ∃ w', (Instr.mapUpdate 149 (.map (some b)) (.pointer (some a)) (.bool true)).run Tryz.prog w = .ok () w' ∧ PMP w' b (m ++ [a]) ∧ w.mapTurned w' b := by
  obtain ⟨es, clock, hb, h1, h2⟩ := h
  have hf := findKey_nd w ha es.toList m h1 h2
  have hm := fndP_mem a m 0
  cases hc : fndP a m 0 with
  | some q =>
    rw [hc] at hm
    simp at hm
    exact absurd hm hn
  | none =>
    rw [hc] at hf
    refine ⟨ChangeMaps.setBlock w b (.map (es.push ⟨.pointer (some a), .bool true, clock⟩) (clock + 1)), ?_, ⟨_, _, ChangeMaps.heap_setBlock_same hb _, ?_, ?_⟩, ⟨es, clock, _, _, hb, rfl⟩⟩
    · simp [Instr.mapUpdate, run_underlying Tryz.underlying149, MapKept.run_getObj_map hb, check_nd, hf, MapKept.run_setObj_map _ hb, Result.andThen, ChangeMaps.setBlock]
    · simp [h1]
    · intro p hp
      rcases List.mem_append.1 hp with hp | hp
      · exact pl_put hb _ (h2 p hp)
      · rw [List.mem_singleton.1 hp]; exact pl_put hb _ ha

theorem PMP.lt {w : World} {b : Nat} {m : List Addr} (h : PMP w b m) : b < w.heap.size := by
  obtain ⟨es, clock, hb, _⟩ := h
  exact (Array.getElem?_eq_some_iff.1 hb).1
theorem PMP.to {w w' : World} {b : Nat} {m : List Addr} (h : PMP w b m) (hb : Below w.heap.size w w') : PMP w' b m := by
  have hl := h.lt
  obtain ⟨es, clock, h0, h1, h2⟩ := h
  exact ⟨es, clock, (hb.block b hl).trans h0, h1, fun p hp => (h2 p hp).below hb⟩
theorem PMP.made (w : World) : PMP (w.alloc (.map #[] 0)) w.heap.size [] := ⟨#[], 0, heap_alloc_new w _, rfl, fun p hp => by simp at hp⟩
end Go.Proofs.YtcpojagfnpajeaaGreatDoorR.Ps

namespace Go.Proofs.YtcpojagfnpajeaaGreatDoorR.Ps
open Go.RowKit

/-- The node covers the offset. -/
abbrev covB (off : Int) (x : Nd) : Prop := x.s ≤ off ∧ off < x.e
/-- The first node that covers the offset. -/
def childI (off : Int) : List Nd → Option Nat
  | [] => none
  | x :: r => if x.s ≤ off ∧ off < x.e then some 0 else (childI off r).map (· + 1)
theorem childI_some {off : Int} : ∀ {l : List Nd} {k : Nat} {y : Nd}, l[k]? = some y → covB off y → (∀ j z, j < k → l[j]? = some z → ¬ covB off z) → childI off l = some k
  | [], _, _, h, _, _ => by cases h
  | x :: r, 0, y, h, hc, _ => by
    simp at h
    subst h
    unfold childI
    rw [if_pos hc]
  | x :: r, k + 1, y, h, hc, hn => by
    simp at h
    unfold childI
    rw [if_neg (hn 0 x (by omega) rfl), childI_some h hc (fun j z hj hz => hn (j + 1) z (by omega) (by simpa using hz))]
    rfl
theorem childI_none {off : Int} : ∀ {l : List Nd}, (∀ z, z ∈ l → ¬ covB off z) → childI off l = none
  | [], _ => rfl
  | x :: r, h => by
    unfold childI
    rw [if_neg (h x (by simp)), childI_none (fun z hz => h z (by simp [hz]))]
    rfl
theorem childI_is {off : Int} : ∀ {l : List Nd} {k : Nat}, childI off l = some k → ∃ y, l[k]? = some y ∧ covB off y
  | [], _, h => by cases h
  | x :: r, k, h => by
    unfold childI at h
    split at h
    · rename_i hc
      cases h
      exact ⟨x, rfl, hc⟩
    · cases hr : childI off r with
      | none => rw [hr] at h; cases h
      | some i =>
        rw [hr] at h
        cases h
        obtain ⟨y, h1, h2⟩ := childI_is hr
        exact ⟨y, by simpa using h1, h2⟩
theorem childI_no {off : Int} : ∀ {l : List Nd}, childI off l = none → ∀ z, z ∈ l → ¬ covB off z
  | x :: r, h, z, hz => by
    unfold childI at h
    split at h
    · cases h
    · rename_i hc
      rcases List.mem_cons.1 hz with rfl | hz
      · exact hc
      · refine childI_no (l := r) ?_ z hz
        cases hr : childI off r with
        | none => rfl
        | some i => rw [hr] at h; cases h
def childZ (off : Int) (l : List Nd) : Int := match childI off l with | some k => (k : Int) | none => -1

set_option maxRecDepth 100000 in
set_option maxHeartbeats 2000000 in
theorem child_any (w : World) (off : Int) {n : Nat} {a : Option Addr} {l : List Nd} {cap : Nat} (hl : Nds w (NS w) TEx n a l) (hlen : l.length ≤ maxLen) :
    Calls Tryz.prog 90 #[.slice a l.length cap, .int .i64 off] w fun e w' => e = .returned (.int .i64 (childZ off l)) ∧ Below w.heap.size w w' := by
  unfold maxLen at hlen
  have HL := Lib.hid hl
  clear hl
  go_enter Tryz.func90, Tryz.ntmps90
  go_wp2_with fail
  go_loopw [9] (fun i wr => ∃ k : Nat, k ≤ l.length ∧ i = .int .i64 k ∧ Hid (Below w.heap.size w wr) ∧ Hid (∀ j z, j < k → l[j]? = some z → ¬ covB off z))
    (fun i _ => l.length - (intOf i).toNat)
  case atStart => exact ⟨0, Nat.zero_le _, rfl, Below.refl _ _, fun j z hj => absurd hj (by omega)⟩
  case round =>
    obtain ⟨k, hk, rfl, hB, hN⟩ := hrel
    by_cases hlt : k < l.length
    · have hx : l[k]? = some l[k] := List.getElem?_eq_getElem hlt
      obtain ⟨y, hY⟩ : ∃ y, y = l[k] := ⟨_, rfl⟩
      rw [← hY] at hx
      clear hY
      obtain ⟨_, m, b, o, sa, cap', t, _, rfl, hp, rfl, _, _, _, hsv, _⟩ := Nds.at HL.out hx
      have HX := Lib.hid hx
      obtain ⟨c0, c1, c2, c3, c4, c5, c6⟩ := hsv.kept (fun i => hB.out.cell (p := ⟨b, i, none⟩) hp.lt)
      have hk0 : (0 : Int) ≤ (k : Int) := by omega
      have hk1 : (k : Int) < (l.length : Int) := by omega
      have hs0 := hB.out.size
      clear hx hsv
      go_upto_region 4 with fail
      obtain ⟨W, hW⟩ : ∃ W, W = wr.alloc (nbxx y sa cap') := ⟨_, rfl⟩
      rw [show World.alloc wr _ = W from hW.symm]
      have hb : W.heap[wr.heap.size]? = some (nbxx y sa cap') := by rw [hW]; exact heap_alloc_new _ _
      have HBW : Hid (Below w.heap.size w W) := hB.out.trans (by rw [hW]; exact (below_box _ _).mono hs0)
      obtain ⟨d0, d1, d2, d3, d4, d5, d6⟩ := cells7 hb
      clear hW hb c0 c1 c2 c3 c4 c5 c6
      by_cases h1 : y.s ≤ off
      · by_cases h2 : off < y.e
        · have hz : childZ off l = (k : Int) := by unfold childZ; rw [childI_some HX.out ⟨h1, h2⟩ hN.out]
          have HZ := Lib.hid hz
          clear hz
          go_wp2_with fail
          go_ret
          exact ⟨by rw [HZ.out]; rfl, HBW.out⟩
        · have h2' : ¬ off < y.e := h2
          go_wp2_with fail
          go_round
          case rel => exact ⟨k + 1, by omega, by go_num, HBW, fun j z hj hz => by
            by_cases hjk : j < k
            · exact hN.out j z hjk hz
            · have : j = k := by omega
              subst this
              rw [HX.out] at hz
              cases hz
              exact fun q => h2' q.2⟩
          case measure => simp [intOf]; omega
      · have h1' : ¬ y.s ≤ off := h1
        go_wp2_with fail
        go_round
        case rel => exact ⟨k + 1, by omega, by go_num, HBW, fun j z hj hz => by
          by_cases hjk : j < k
          · exact hN.out j z hjk hz
          · have : j = k := by omega
            subst this
            rw [HX.out] at hz
            cases hz
            exact fun q => h1' q.1⟩
        case measure => simp [intOf]; omega
    · have hz : childZ off l = -1 := by
        unfold childZ
        rw [childI_none fun z hz => ?_]
        obtain ⟨j, hj⟩ := List.getElem?_of_mem hz
        exact hN.out j z (by have := (List.getElem?_eq_some_iff.1 hj).1; omega) hj
      have HZ := Lib.hid hz
      clear hz
      go_wp2_with fail
      go_ret
      exact ⟨by rw [HZ.out]; rfl, hB.out⟩
end Go.Proofs.YtcpojagfnpajeaaGreatDoorR.Ps

namespace Go.Proofs.YtcpojagfnpajeaaGreatDoorR.Ps
open Go.RowKit

def kidsAt (l : List Nd) (i : Nat) : List Nd := match l[i]? with | some y => y.c | none => []
def pathN (off : Int) : Nat → List Nd → List Nat
  | 0, _ => []
  | n + 1, l => match childI off l with | none => [] | some i => i :: pathN off n (kidsAt l i)
theorem pathN_len (off : Int) : ∀ n l, (pathN off n l).length ≤ n
  | 0, _ => Nat.le_refl _
  | n + 1, l => by
    unfold pathN
    split
    · simp
    · rename_i i _
      have := pathN_len off n (kidsAt l i)
      simp only [List.length_cons]
      omega
def slLen : Value → Nat
  | .slice _ n _ => n
  | _ => 0

theorem ownsI_sl {w : World} {B : Nat} {v : Value} {zs : List Int} (h : OwnsI w B v zs) : ∃ a c, v = .slice a zs.length c := by
  rcases h.2 with ⟨e, h0⟩ | ⟨g, cap, cur, e, _⟩
  · exact ⟨none, 0, by rw [e, h0]⟩
  · exact ⟨_, cap, e⟩

structure PathI (w : World) (off : Int) (mb F : Nat) (full : List Nat) (cur : List Nd) (m : Nat) (ca : Option Addr) (pre : List Nat) (vis : List Addr) (f : Nat) (pv : Value) (wr : World) : Prop where
  kids : Nds w (NS w) TEx m ca cur
  len : cur.length ≤ maxLen
  own : OwnsI wr w.heap.size pv (usI pre)
  map : PMP wr mb vis
  old : ∀ p ∈ vis, ∃ n z, NA w n p z ∧ nheights cur < z.height
  path : pre ++ pathN off f cur = full
  ht : nheights cur < f
  fuel : f + pre.length = F
  low : Below w.heap.size w wr
  ne : pv.ownBlock ≠ some mb
  mb : w.heap.size ≤ mb

set_option maxRecDepth 100000 in
set_option maxHeartbeats 4000000 in
theorem path_any (w : World) (off : Int) {n : Nat} {x : Nd} {sa : Option Addr} {cap : Nat} (hx : NdV w n x sa cap) (hh : nheights x.c ≤ 40000) :
    Calls Tryz.prog 46 #[nvx x sa cap, .int .i64 off] w fun e w' => ∃ v, e = .returned v ∧ Hid (OwnsI w' w.heap.size v (usI (pathN off (nheights x.c + 1) x.c))) ∧ Hid (Below w.heap.size w w') := by
  obtain ⟨i0, hi, hz0, hz1, hz2⟩ := info_parts info_int
  obtain ⟨full, hF⟩ : ∃ full, full = pathN off (nheights x.c + 1) x.c := ⟨_, rfl⟩
  rw [← hF]
  obtain ⟨F, hFF⟩ : ∃ F, F = nheights x.c + 1 := ⟨_, rfl⟩
  have hF4 : F ≤ 40001 := by omega
  obtain ⟨W, hW⟩ : ∃ W, W = w.alloc (nbxx x sa cap) := ⟨_, rfl⟩
  have hB : Below w.heap.size w W := by rw [hW]; exact below_box _ _
  have hsW : W.heap.size = w.heap.size + 1 := by rw [hW]; simp
  have hb : W.heap[w.heap.size]? = some (nbxx x sa cap) := by rw [hW]; exact heap_alloc_new _ _
  obtain ⟨W1, hW1⟩ : ∃ W1, W1 = W.alloc (.map #[] 0) := ⟨_, rfl⟩
  have hmm : (Instr.makeMap 149 none).run Tryz.prog W = .ok (.map (some W.heap.size)) W1 := by rw [hW1]; exact run_makeMap _ _
  have hB1 : Below W.heap.size W W1 := by rw [hW1]; exact (Below.refl _ _).alloc (Nat.le_refl _) _
  have hM : PMP W1 W.heap.size [] := by rw [hW1]; exact PMP.made W
  have hBW1 : Below w.heap.size w W1 := hB.trans (hB1.mono hB.size)
  have HI0 : Hid (PathI w off W.heap.size F full x.c n sa [] [] F (.slice none 0 0) W1) :=
    ⟨hx.kids, hx.ok.2.2.2.2.2.2, OwnsI.nil _ _, hM, fun p hp => by simp at hp, by rw [hF, hFF]; rfl, by omega, by simp, hBW1, by simp [Value.ownBlock], by omega⟩
  have hb1 : W1.heap[w.heap.size]? = some (nbxx x sa cap) := (hB1.block _ (by omega)).trans hb
  obtain ⟨b0, b1, b2, b3, b4, b5, b6⟩ := cells7 hb1
  obtain ⟨mb, hmb⟩ : ∃ mb, mb = W.heap.size := ⟨_, rfl⟩
  rw [← hmb] at HI0 hmm
  clear hb hB hB1 hM hBW1 hx hh hF hFF hb1 hsW hmb hW1
  go_enter Tryz.func46, Tryz.ntmps46
  go_upto_region 2 with fail
  rw [show World.alloc w _ = W from hW.symm]
  clear hW
  go_wp2_with fail
  clear hmm b0 b1 b2 b3 b4 b5 b6
  go_loopw [5, 7] (fun pv cv wr => ∃ (cur : List Nd) (m : Nat) (ca : Option Addr) (cc : Nat) (pre : List Nat) (vis : List Addr) (f : Nat), cv = .slice ca cur.length cc ∧ Hid (PathI w off mb F full cur m ca pre vis f pv wr))
    (fun pv _ _ => F - slLen pv)
  case atStart => exact ⟨x.c, n, sa, cap, [], [], F, rfl, HI0⟩
  case round =>
    obtain ⟨cur, m, ca, cc, pre, vis, f, rfl, hI⟩ := hrel
    have K := Lib.hid (child_any wr off (n := m) (a := ca) (l := cur) (cap := cc) ((hI.out.kids.kept fun j _ _ hj => World.cell?_of_block (hI.out.low.block j hj.lt)).up (fun j _ hj => hj.below hI.out.low) (fun _ _ h => h) (Nat.le_refl _)) hI.out.len)
    have hsr := hI.out.low.size
    have hfu := hI.out.fuel
    have hht := hI.out.ht
    cases hch : childI off cur with
    | none =>
      have hz : childZ off cur = -1 := by unfold childZ; rw [hch]
      rw [hz] at K
      have hfull : full = pre := by
        rw [← hI.out.path]
        cases f with
        | zero => omega
        | succ f => unfold pathN; rw [hch]; simp
      have HFULL := Lib.hid hfull
      clear hz hch hfull
      go_wp2_with (go_at_call 90; refine K.out.mono ?_; rintro e w1 ⟨rfl, hb1⟩; have HB1 := Lib.hid hb1; clear hb1)
      go_ret
      exact ⟨_, rfl, by show OwnsI _ _ _ _; rw [HFULL.out]; exact owns_of_block hI.out.own fun g hg => HB1.out.block g (World.ownsRow.lt hI.out.own g hg).2, hI.out.low.trans (HB1.out.mono hsr)⟩
    | some i =>
      have hz : childZ off cur = (i : Int) := by unfold childZ; rw [hch]
      rw [hz] at K
      obtain ⟨y, hy, hcov⟩ := childI_is hch
      have hlt := (List.getElem?_eq_some_iff.1 hy).1
      obtain ⟨_, my, b, o, ya, yc, _, _, rfl, hp, rfl, _, _, _, hsv, hyk⟩ := Nds.at hI.out.kids hy
      obtain ⟨m', hm', hna⟩ := Nds.na hI.out.kids hy
      have hyh := nheight_of (List.mem_of_getElem? hy)
      have hyhh := nd_height y
      have hlen := hI.out.len
      unfold maxLen at hlen
      have hi0 : (0 : Int) ≤ (i : Int) := by omega
      have hi1 : (i : Int) < (cur.length : Int) := by omega
      have hi2 : ¬ (i : Int) < 0 := by omega
      have hnv : (⟨b, o + i * 7, none⟩ : Addr) ∉ vis := fun hv => by
        obtain ⟨n2, z, hz1, hz2⟩ := hI.out.old _ hv
        have := hz1.one hna
        subst this
        omega
      have hpath : pre ++ i :: pathN off (f - 1) y.c = full := by
        rw [← hI.out.path]
        cases f with
        | zero => omega
        | succ f =>
          conv => rhs; unfold pathN
          rw [hch]
          simp [kidsAt, hy]
      have HNA := Lib.hid hna
      have HNV := Lib.hid hnv
      have HP := Lib.hid hp
      have HSV := Lib.hid hsv
      have HYK := Lib.hid hyk
      have HY := Lib.hid hy
      have HPATH := Lib.hid hpath
      have HYH : Hid (y.height ≤ nheights cur) := hyh
      have HYL : Hid (y.c.length ≤ maxLen) := hna.1.2.2.2.2.2.2
      clear hz hch hy hcov hsv hyk hna hnv hpath hlt hyh
      go_upto_region 5 with (go_at_call 90; refine K.out.mono ?_; rintro e w1 ⟨rfl, hb1⟩)
      have hm1 : PMP w1 mb vis := hI.out.map.to hb1
      have hlow1 : Below w.heap.size w w1 := hI.out.low.trans (hb1.mono hsr)
      have hp1 : Pl w1 b := HP.out.below hlow1
      have hlook := hm1.look (a := ⟨b, o + i * 7, none⟩) hp1
      rw [decide_eq_false HNV.out] at hlook
      obtain ⟨w2, hst, hm2, htn⟩ := hm1.store (a := ⟨b, o + i * 7, none⟩) hp1 HNV.out
      have hg2 := htn.grown
      have hmbs := hI.out.mb
      have hlow2 : Below w.heap.size w w2 := hlow1.trans ⟨hg2.os, hg2.tape, hg2.output, hg2.size, fun k hk => hg2.block k (Nat.lt_of_lt_of_le hk hlow1.size) (by intro e; have := Option.some.inj e; omega)⟩
      have hown2 : OwnsI w2 w.heap.size u5 (usI pre) := owns_of_block hI.out.own fun g hg => by
        have hgl := (World.ownsRow.lt hI.out.own g hg).2
        rw [hg2.block g (Nat.lt_of_lt_of_le hgl hb1.size) (fun e => hI.out.ne (by rw [hg, e])), hb1.block g hgl]
      have HM2 := Lib.hid hm2
      have HLOW2 := Lib.hid hlow2
      have HOWN2 := Lib.hid hown2
      have hs2 := hlow2.size
      have hprl : pre.length ≤ 40000 := by omega
      have hul := usI_length pre
      clear htn hg2 hm1 hm2 hown2 hlow1 hlow2 hp1 hb1
      go_upto_region 11 with fail
      go_wp2_with (at_builtin; refine wpList_append_src rfl _ _ 83 rfl w.heap.size 3 i0 (.int .i64 0) 1 8 Tryz.underlying83 hi hz0 hz1 hz2 rfl (by decide) _ _ _ rfl (HOWN2.out.alloc _) _ 1 [.int .i64 i] rfl (src_lit w2 [.int .i64 i] 3 1 1 1 rfl (fun u hu => by simp at hu; subst hu; rfl)) ?c3 ?c4 ?c5 ?_)
      case c3 => unfold maxLen; omega
      case c4 => omega
      case c5 => simp; omega
      intro v' w3 hown3 hgr hrow
      have hlow3 : Below w.heap.size w w3 := (HLOW2.out.alloc hs2 _).grown hgr (by simp; omega) (fun j hj => (World.ownsRow.lt HOWN2.out j hj).1)
      have HLOW3 := Lib.hid hlow3
      have HOWN3 : Hid (OwnsI w3 w.heap.size v' (usI (pre ++ [i]))) := by
        show World.ownsRow _ _ _ _ _ _ _
        rw [usI_snoc, iCells_append, List.length_append, usI_length]
        exact hown3
      have HM3 : Hid (PMP w3 mb (vis ++ [⟨b, o + i * 7, none⟩])) := by
        obtain ⟨es, clock, h0, h1, h2⟩ := HM2.out
        have hlt := HM2.out.lt
        have hkeep : ∀ j, j < w2.heap.size → u5.ownBlock ≠ some j → w3.heap[j]? = w2.heap[j]? := fun j hj hne => by
          rw [hgr.block j (by simp; omega) (fun e => hne e.symm), Lib.alloc_old w2 _ j hj]
        refine ⟨es, clock, (hkeep mb hlt hI.out.ne).trans h0, h1, fun p hp => ?_⟩
        rcases List.mem_append.1 hp with hp' | hp'
        · obtain ⟨n2, z, hz1, _⟩ := hI.out.old p hp'
          obtain ⟨_, b2, o2, _, _, e, hpl, _⟩ := hz1
          rw [e]
          exact hpl.below HLOW3.out
        · rw [List.mem_singleton.1 hp']
          exact HP.out.below HLOW3.out
      have HNE3 : Hid (v'.ownBlock ≠ some mb) := by
        show _ ≠ _
        rcases hrow with e | e
        · rw [e]; exact hI.out.ne
        · rw [e]; have := HM2.out.lt; simp; omega
      obtain ⟨a3, c3, rfl⟩ := ownsI_sl HOWN3.out
      rw [usI_length] at *
      have k6 : w3.cell? ⟨b, o + i * 7 + 6, none⟩ = some (.slice ya y.c.length yc) := (HLOW3.out.cell (p := ⟨b, _, none⟩) HP.out.lt).trans HSV.out.c6
      clear hown3 hgr hrow hlow3 hlook hst
      go_wp2_with fail
      go_round
      case rel =>
        refine ⟨y.c, my, ya, yc, pre ++ [i], vis ++ [⟨b, o + i * 7, none⟩], f - 1, rfl, ?_⟩
        have := HYH.out
        exact ⟨HYK.out, HYL.out, HOWN3.out, HM3.out, fun p hp => by
          rcases List.mem_append.1 hp with hp' | hp'
          · obtain ⟨n2, z, hz1, hz2⟩ := hI.out.old p hp'
            exact ⟨n2, z, hz1, by omega⟩
          · rw [List.mem_singleton.1 hp']
            exact ⟨_, y, HNA.out, by omega⟩, by rw [← HPATH.out]; simp, by omega, by simp only [List.length_append, List.length_singleton]; omega, HLOW3.out, HNE3.out, hI.out.mb⟩
      case measure =>
        have hsl : slLen u5 = pre.length := by
          obtain ⟨a5, c5, e5⟩ := ownsI_sl hI.out.own
          rw [e5, usI_length]
          rfl
        rw [hsl]
        show F - (pre ++ [i]).length < F - pre.length
        simp only [List.length_append, List.length_singleton]
        omega
end Go.Proofs.YtcpojagfnpajeaaGreatDoorR.Ps
