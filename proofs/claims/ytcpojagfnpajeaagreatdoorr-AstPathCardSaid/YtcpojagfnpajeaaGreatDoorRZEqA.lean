/-
  The map of compared pairs, in memory: what it answers, and what a store makes of it.
  Nodes of two trees in memory: each address reads as one node; what the map of compared pairs says.
  equal where two nodes differ themselves.
  equal: two nodes of two trees, with a map of the pairs that have been compared; its contract.
  equal and Equal: their contracts.
-/
import Derived.Test.YtcpojagfnpajeaaGreatDoorRZAsEnd
import Derived.LaidEql
import Derived.Laws.StructEq
import Derived.Test.YtcpojagfnpajeaaGreatDoorRZAsPrint
import Derived.Deep.QuietTactic
import Derived.BigQuiet
import Derived.StillTailTactics
import Derived.Carry
namespace Go.Proofs.YtcpojagfnpajeaaGreatDoorR.Ps
open Go.RowKit

abbrev pairV (k : Addr × Addr) : Value := .agg #[.pointer (some k.1), .pointer (some k.2)]
theorem info_node : (Tryz.prog.info? 36).map (fun i => i.size) = some 7 := by kernel_rfl

theorem eqp (d : Nat) (w : World) {a b : Addr} (ha : Pl w a.block) (hb : Pl w b.block) : (Op.equalIn (d + 1) 107 (.pointer (some a)) (.pointer (some b))).run Tryz.prog w = .ok (decide (a = b)) w := by
  obtain ⟨i, hi, hi2⟩ := Option.map_eq_some_iff.1 info_node
  have hsz : i.size ≠ 0 := by rw [hi2]; decide
  by_cases hab : a = b
  · subst hab
    simp [Op.equalIn, run_underlying Tryz.underlying107, sizeOf, typeInfo, hi, run_sameAddr_same]
  · obtain ⟨ca, ta, ha⟩ := ha
    obtain ⟨cb, tb, hb⟩ := hb
    simp [Op.equalIn, run_underlying Tryz.underlying107, sizeOf, typeInfo, hi, hsz, run_sameAddr_other w hab ha hb, hab]

/-- Both blocks are plain. -/
def Pl2 (w : World) (k : Addr × Addr) : Prop := Pl w k.1.block ∧ Pl w k.2.block

theorem pair_fields : (Tryz.prog.fieldsOf 112).toList.map (fun f => (f.name, f.type, f.offset)) = [("a", 107, 0), ("b", 107, 1)] := by kernel_rfl
theorem pair_under : Tryz.prog.underlying 112 = some (.struct (Tryz.prog.fieldsOf 112)) := by kernel_rfl

theorem eq_pair (w : World) {k q : Addr × Addr} (hk : Pl2 w k) (hq : Pl2 w q) : (Op.equal 112 (pairV k) (pairV q)).run Tryz.prog w = .ok (decide (k = q)) w := by
  obtain ⟨a, b⟩ := k
  obtain ⟨c, d⟩ := q
  have h : ∀ n : Nat, (Op.equalIn (n + 1 + 1) 112 (pairV (a, b)) (pairV (c, d))).run Tryz.prog w = .ok (decide ((a, b) = (c, d))) w := fun n => by
    rw [run_equalIn_struct w (n + 1) 112 _ _ pair_under (by kernel_rfl)]
    have e1 := eqp n w hk.1 hq.1
    have e2 := eqp n w hk.2 hq.2
    have hf := pair_fields
    generalize (Tryz.prog.fieldsOf 112).toList = L at hf ⊢
    rcases L with _ | ⟨f, _ | ⟨g, _ | ⟨y, r⟩⟩⟩ <;> simp at hf
    obtain ⟨⟨f1, f2, f3⟩, g1, g2, g3⟩ := hf
    simp only at e1 e2
    by_cases hac : a = c
    · subst hac
      by_cases hbd : b = d
      · subst hbd
        simp [Op.eqFields, f1, f2, f3, g1, g2, g3, part, isAgg, run_underlying Tryz.underlying107, Result.andThen, e1, e2]
      · simp [Op.eqFields, f1, f2, f3, g1, g2, g3, part, isAgg, run_underlying Tryz.underlying107, Result.andThen, e1, e2, hbd]
    · simp [Op.eqFields, f1, f2, f3, g1, g2, g3, part, isAgg, run_underlying Tryz.underlying107, Result.andThen, e1, hac]
  exact h 9998

abbrev kv (p : Addr × Addr) : Value × Value := (pairV p, .bool true)
/-- The map in block b has the keys m, each with true; the keys lie in plain blocks. -/
def PM2 (w : World) (b : Nat) (m : List (Addr × Addr)) : Prop :=
  ∃ es clock, w.heap[b]? = some (.map es clock) ∧ es.toList.map (fun e => (e.key, e.val)) = m.map kv ∧ ∀ p ∈ m, Pl2 w p

def fnd2 (a : Addr × Addr) : List (Addr × Addr) → Nat → Option Nat
  | [], _ => none
  | p :: r, i => if a = p then some i else fnd2 a r (i + 1)
theorem fnd2_mem (a : Addr × Addr) : ∀ (m : List (Addr × Addr)) (i : Nat), (fnd2 a m i).isSome = decide (a ∈ m)
  | [], _ => by simp [fnd2]
  | p :: r, i => by
    unfold fnd2
    split
    · rename_i h; simp [h]
    · rename_i h
      rw [fnd2_mem a r (i + 1)]
      simp [h]

theorem find_pair (w : World) {a : Addr × Addr} (ha : Pl2 w a) : ∀ (L : List MapEntry) (m : List (Addr × Addr)) (i : Nat), L.map (fun e => (e.key, e.val)) = m.map kv → (∀ p ∈ m, Pl2 w p) →
    (Instr.findAsking 112 (pairV a) L i).run Tryz.prog w = .ok ((fnd2 a m i).map fun q => (q, .bool true)) w
  | [], m, i, h, _ => by
    cases m with
    | nil => rfl
    | cons p r => simp at h
  | e :: L, m, i, h, hp => by
    cases m with
    | nil => simp at h
    | cons p r =>
      simp only [List.map_cons, List.cons.injEq, Prod.mk.injEq] at h
      obtain ⟨⟨h1, h2⟩, h3⟩ := h
      unfold Instr.findAsking fnd2
      rw [h1]
      simp only [Sem.run_bind, eq_pair w ha (hp p (by simp)), Result.andThen]
      by_cases hap : a = p
      · simp [hap, h2]
      · simp only [hap, decide_false, Bool.false_eq_true, if_false]
        exact find_pair w ha L r (i + 1) h3 (fun q hq => hp q (by simp [hq]))

theorem findKey_pair (w : World) {a : Addr × Addr} (ha : Pl2 w a) (L : List MapEntry) (m : List (Addr × Addr)) (h : L.map (fun e => (e.key, e.val)) = m.map kv) (hp : ∀ p ∈ m, Pl2 w p) :
    (Instr.findKey 112 (pairV a) L).run Tryz.prog w = .ok ((fnd2 a m 0).map fun q => (q, .bool true)) w := by
  unfold Instr.findKey
  simp only [Sem.run_bind, run_underlying pair_under, Result.andThen]
  cases L with
  | nil =>
    cases m with
    | nil => simp [Instr.findNow, fnd2]
    | cons p r => simp at h
  | cons e L =>
    have : Instr.findNow (.struct (Tryz.prog.fieldsOf 112)) (pairV a) (e :: L) 0 = none := by
      unfold Instr.findNow
      have : Instr.sameNow (.struct (Tryz.prog.fieldsOf 112)) (pairV a) e.key = none := by unfold Instr.sameNow; split <;> simp_all
      rw [this]
    rw [this]
    exact find_pair w ha (e :: L) m 0 h hp

theorem check_p (w : World) (em : Bool) (n : Nat) (a : Addr) : (Instr.checkKey em (n + 1) 107 (.pointer (some a))).run Tryz.prog w = .ok () w := by
  unfold Instr.checkKey
  simp [run_underlying Tryz.underlying107, Result.andThen]
theorem check_pair (w : World) (em : Bool) (a : Addr × Addr) : (Instr.checkKey em 10000 112 (pairV a)).run Tryz.prog w = .ok () w := by
  have h : ∀ n, (Instr.checkKey em (n + 1 + 1) 112 (pairV a)).run Tryz.prog w = .ok () w := fun n => by
    unfold Instr.checkKey
    simp only [Sem.run_bind, run_underlying pair_under, Result.andThen]
    rw [← Array.forIn_toList]
    have hf := pair_fields
    generalize (Tryz.prog.fieldsOf 112).toList = L at hf ⊢
    rcases L with _ | ⟨f, _ | ⟨g, _ | ⟨y, r⟩⟩⟩ <;> simp at hf
    obtain ⟨⟨f1, f2, f3⟩, g1, g2, g3⟩ := hf
    simp [f1, f2, f3, g1, g2, g3, part, isAgg, run_underlying Tryz.underlying107, Result.andThen, check_p]
  exact h 9998

theorem PM2.look {w : World} {b : Nat} {m : List (Addr × Addr)} (h : PM2 w b m) {a : Addr × Addr} (ha : Pl2 w a) :
    (Instr.lookup 113 (.map (some b)) (pairV a) false).run Tryz.prog w = .ok (.bool (decide (a ∈ m))) w := by
  obtain ⟨es, clock, hb, h1, h2⟩ := h
  have hf := findKey_pair w ha es.toList m h1 h2
  have hm := fnd2_mem a m 0
  cases hc : fnd2 a m 0 with
  | none =>
    rw [hc] at hf hm
    simp at hm
    simp [Instr.lookup, run_underlying Tryz.underlying113, MapKept.run_getObj_map hb, check_pair, hf, Result.andThen, hm]
  | some q =>
    rw [hc] at hf hm
    simp at hm
    simp [Instr.lookup, run_underlying Tryz.underlying113, MapKept.run_getObj_map hb, check_pair, hf, Result.andThen, hm]

theorem pl_put {w : World} {b : Nat} {es : Array MapEntry} {clock : Nat} (hb : w.heap[b]? = some (.map es clock)) (o : Obj) {j : Nat} (hj : Pl w j) : Pl (ChangeMaps.setBlock w b o) j := by
  refine hj.of_block (ChangeMaps.heap_setBlock_other hb _ ?_)
  intro e
  obtain ⟨c, t, hc⟩ := hj
  rw [e, hb] at hc
  cases hc

theorem PM2.store {w : World} {b : Nat} {m : List (Addr × Addr)} (h : PM2 w b m) {a : Addr × Addr} (ha : Pl2 w a) (hn : a ∉ m) :
    ∃ w', (Instr.mapUpdate 113 (.map (some b)) (pairV a) (.bool true)).run Tryz.prog w = .ok () w' ∧ PM2 w' b (m ++ [a]) ∧ w.mapTurned w' b := by
  obtain ⟨es, clock, hb, h1, h2⟩ := h
  have hf := findKey_pair w ha es.toList m h1 h2
  have hm := fnd2_mem a m 0
  cases hc : fnd2 a m 0 with
  | some q =>
    rw [hc] at hm
    simp at hm
    exact absurd hm hn
  | none =>
    rw [hc] at hf
    refine ⟨ChangeMaps.setBlock w b (.map (es.push ⟨pairV a, .bool true, clock⟩) (clock + 1)), ?_, ⟨_, _, ChangeMaps.heap_setBlock_same hb _, ?_, ?_⟩, ⟨es, clock, _, _, hb, rfl⟩⟩
    · simp [Instr.mapUpdate, run_underlying Tryz.underlying113, MapKept.run_getObj_map hb, check_pair, hf, MapKept.run_setObj_map _ hb, Result.andThen, ChangeMaps.setBlock]
    · simp [h1]
    · intro p hp
      rcases List.mem_append.1 hp with hp | hp
      · exact ⟨pl_put hb _ (h2 p hp).1, pl_put hb _ (h2 p hp).2⟩
      · rw [List.mem_singleton.1 hp]; exact ⟨pl_put hb _ ha.1, pl_put hb _ ha.2⟩

theorem PM2.lt {w : World} {b : Nat} {m : List (Addr × Addr)} (h : PM2 w b m) : b < w.heap.size := by
  obtain ⟨es, clock, hb, _⟩ := h
  exact (Array.getElem?_eq_some_iff.1 hb).1
theorem PM2.ne {w : World} {b j : Nat} {m : List (Addr × Addr)} (h : PM2 w b m) (hj : Pl w j) : j ≠ b := by
  obtain ⟨es, clock, hb, _⟩ := h
  obtain ⟨c, t, hc⟩ := hj
  intro e
  rw [e, hb] at hc
  cases hc
theorem PM2.to {w w' : World} {b : Nat} {m : List (Addr × Addr)} (h : PM2 w b m) (hb : Below w.heap.size w w') : PM2 w' b m := by
  have hl := h.lt
  obtain ⟨es, clock, h0, h1, h2⟩ := h
  exact ⟨es, clock, (hb.block b hl).trans h0, h1, fun p hp => ⟨(h2 p hp).1.below hb, (h2 p hp).2.below hb⟩⟩
theorem PM2.made (w : World) : PM2 (w.alloc (.map #[] 0)) w.heap.size [] := ⟨#[], 0, heap_alloc_new w _, rfl, fun p hp => by simp at hp⟩
end Go.Proofs.YtcpojagfnpajeaaGreatDoorR.Ps

namespace Go.Proofs.YtcpojagfnpajeaaGreatDoorR.Ps
open Go.RowKit

abbrev NS (w : World) : Nat → Nat → Prop := fun j _ => Pl w j
/-- At address p in w stands the node x, no higher than n; all blocks are plain. -/
def NA (w : World) (n : Nat) (p : Addr) (x : Nd) : Prop :=
  x.ok ∧ ∃ b o sa cap, p = ⟨b, o, none⟩ ∧ Pl w b ∧ x.c.length ≤ cap ∧ cap ≤ maxLen ∧ (sa = none → cap = 0) ∧ Seven w b o x x.t sa cap ∧ Nds w (NS w) TEx n sa x.c

theorem Nds.na {w : World} {n : Nat} {b o : Nat} {l : List Nd} (h : Nds w (NS w) TEx n (some ⟨b, o, none⟩) l) {i : Nat} {x : Nd} (hx : l[i]? = some x) : ∃ m, m < n ∧ NA w m ⟨b, o + i * 7, none⟩ x := by
  obtain ⟨h0, m, b', o', sa, cap, t, hm, e, h2, h3, h4, h5, h6, h7, h8⟩ := Nds.at h hx
  cases e
  cases h3
  exact ⟨m, hm, h0, b, o + i * 7, sa, cap, rfl, h2, h4, h5, h6, h7, h8⟩

theorem NA.kept {w w' : World} {n : Nat} {p : Addr} {x : Nd} (h : NA w n p x) (hb : ∀ j, Pl w j → w'.heap[j]? = w.heap[j]?) : NA w' n p x := by
  obtain ⟨h0, b, o, sa, cap, e, h1, h2, h3, h4, h5, h6⟩ := h
  refine ⟨h0, b, o, sa, cap, e, h1.of_block (hb b h1), h2, h3, h4, h5.kept (fun i => World.cell?_of_block (hb b h1)), ?_⟩
  exact (h6.kept fun j _ _ hj => World.cell?_of_block (hb j hj)).up (fun j _ hj => hj.of_block (hb j hj)) (fun _ _ h => h) (Nat.le_refl _)

theorem bs_inj {s t : List UInt8} (h : Lx.bs s = Lx.bs t) : s = t := by
  have := congrArg Lx.L h
  rwa [Lx.L_bs, Lx.L_bs] at this

theorem nd_all (x : Nd) : x = .mk x.k x.v x.t x.s x.e x.ns x.c := by cases x; rfl
theorem nd_ext {x y : Nd} (h1 : x.k = y.k) (h2 : x.v = y.v) (h3 : x.t = y.t) (h4 : x.s = y.s) (h5 : x.e = y.e) (h6 : x.ns = y.ns) (h7 : x.c = y.c) : x = y := by
  rw [nd_all x, nd_all y, h1, h2, h3, h4, h5, h6, h7]

theorem seven_one {w : World} {b o : Nat} {x y : Nd} {sa sa' : Option Addr} {cap cap' : Nat} (p : Seven w b o x x.t sa cap) (q : Seven w b o y y.t sa' cap') :
    x.k = y.k ∧ x.v = y.v ∧ x.t = y.t ∧ x.s = y.s ∧ x.e = y.e ∧ x.ns = y.ns ∧ sa = sa' ∧ x.c.length = y.c.length := by
  have e0 := Option.some.inj (p.c0.symm.trans q.c0)
  have e1 := Option.some.inj (p.c1.symm.trans q.c1)
  have e2 := Option.some.inj (p.c2.symm.trans q.c2)
  have e3 := Option.some.inj (p.c3.symm.trans q.c3)
  have e4 := Option.some.inj (p.c4.symm.trans q.c4)
  have e5 := Option.some.inj (p.c5.symm.trans q.c5)
  have e6 := Value.slice.inj (Option.some.inj (p.c6.symm.trans q.c6))
  refine ⟨by simpa using e0, by simpa using e1, bs_inj (by simpa using e2), by simpa using e3, by simpa using e4, by simpa using e5, e6.1, e6.2.1⟩

theorem nds_one {w : World} {S T : Nat → Nat → Prop} : ∀ {n m : Nat} {a : Option Addr} {l k : List Nd}, Nds w S TEx n a l → Nds w T TEx m a k → l.length = k.length → l = k
  | 0, _, _, l, k, h, _, hl => by
    have : l = [] := h
    subst this
    exact (List.eq_nil_of_length_eq_zero hl.symm).symm
  | n + 1, m, a, l, k, h, h', hl => by
    apply List.ext_getElem?
    intro i
    cases hx : l[i]? with
    | none =>
      rw [List.getElem?_eq_none_iff] at hx
      exact (List.getElem?_eq_none (by omega)).symm
    | some x =>
      have hi : i < k.length := by have := (List.getElem?_eq_some_iff.1 hx).1; omega
      obtain ⟨y, hy⟩ : ∃ y, k[i]? = some y := ⟨_, List.getElem?_eq_getElem hi⟩
      obtain ⟨_, b, o, sa, cap, t, e1, _, rfl, _, _, _, p, hk⟩ := h i x hx
      obtain ⟨_, m', b', o', sa', cap', t', _, e2, _, rfl, _, _, _, q, hk'⟩ := Nds.at h' hy
      rw [e1] at e2
      cases e2
      obtain ⟨q0, q1, q2, q3, q4, q5, q6, q7⟩ := seven_one p q
      rw [hy, nd_ext q0 q1 q2 q3 q4 q5 (nds_one hk (by rw [q6]; exact hk') q7)]

theorem NA.one {w : World} {n m : Nat} {p : Addr} {x y : Nd} (h : NA w n p x) (h' : NA w m p y) : x = y := by
  obtain ⟨_, b, o, sa, cap, e1, _, _, _, _, p, hk⟩ := h
  obtain ⟨_, b', o', sa', cap', e2, _, _, _, _, q, hk'⟩ := h'
  rw [e1] at e2
  cases e2
  obtain ⟨q0, q1, q2, q3, q4, q5, q6, q7⟩ := seven_one p q
  exact nd_ext q0 q1 q2 q3 q4 q5 (nds_one hk (by rw [q6]; exact hk') q7)

/-- The nodes at a pair are equal, whatever they are. -/
def EqAt (w : World) (k : Addr × Addr) : Prop := ∀ n x n' y, NA w n k.1 x → NA w n' k.2 y → eqN x y = true
/-- What the map says of nodes no higher than h is so. -/
def Know2 (w : World) (h : Nat) (m : List (Addr × Addr)) : Prop := ∀ k n x, k ∈ m → NA w n k.1 x → x.height ≤ h → EqAt w k
def Grew2 (w : World) (m m' : List (Addr × Addr)) : Prop := ∀ k, k ∈ m' → k ∈ m ∨ EqAt w k
theorem Grew2.refl (w : World) (m : List (Addr × Addr)) : Grew2 w m m := fun _ h => Or.inl h
theorem Grew2.trans {w : World} {a b c : List (Addr × Addr)} (h : Grew2 w a b) (h' : Grew2 w b c) : Grew2 w a c := fun k hk => by
  rcases h' k hk with h1 | h1
  · exact h k h1
  · exact Or.inr h1
theorem Know2.grew {w : World} {h : Nat} {m m' : List (Addr × Addr)} (hk : Know2 w h m) (hg : Grew2 w m m') : Know2 w h m' := fun k n x hm hx hh => by
  rcases hg k hm with h1 | h1
  · exact hk k n x h1 hx hh
  · exact h1
theorem Know2.less {w : World} {h h' : Nat} {m : List (Addr × Addr)} (hk : Know2 w h m) (hle : h' ≤ h) : Know2 w h' m := fun k n x hm hx hh => hk k n x hm hx (by omega)
theorem nd_h1 (x : Nd) : 1 ≤ x.height := by have := nd_height x; omega
theorem Know2.begun {w : World} {m : List (Addr × Addr)} {k : Addr × Addr} {x : Nd} {n : Nat} (ht : NA w n k.1 x) (hk : Know2 w x.height m) : Know2 w (x.height - 1) (m ++ [k]) := fun q n' y hm hy hh => by
  have := nd_h1 x
  rcases List.mem_append.1 hm with h1 | h1
  · exact hk q n' y h1 hy (by omega)
  · rw [List.mem_singleton.1 h1] at hy
    have := hy.one ht
    subst this
    omega
theorem Grew2.done {w : World} {m m' : List (Addr × Addr)} {k : Addr × Addr} {x y : Nd} {n n' : Nat} (hx : NA w n k.1 x) (hy : NA w n' k.2 y) (he : eqN x y = true) (hg : Grew2 w (m ++ [k]) m') : Grew2 w m m' := fun q hq => by
  rcases hg q hq with h1 | h1
  · rcases List.mem_append.1 h1 with h2 | h2
    · exact Or.inl h2
    · rw [List.mem_singleton.1 h2]
      refine Or.inr fun n1 x1 n2 y1 h3 h4 => ?_
      rw [h3.one hx, h4.one hy]
      exact he
  · exact Or.inr h1

theorem eqN_eq (x y : Nd) : eqN x y = (x.k == y.k && x.v == y.v && x.t == y.t && eqNs x.c y.c) := by cases x; cases y; rfl
theorem eqNs_len : ∀ {c d : List Nd}, eqNs c d = true → c.length = d.length
  | [], [], _ => rfl
  | [], _ :: _, h => by simp [eqNs] at h
  | _ :: _, [], h => by simp [eqNs] at h
  | x :: c, y :: d, h => by
    simp only [eqNs, Bool.and_eq_true] at h
    simp [eqNs_len h.2]
/-- The first k children are equal. -/
theorem eqNs_take {c d : List Nd} {x y : Nd} {k : Nat} (hx : c[k]? = some x) (hy : d[k]? = some y) : eqNs (c.take (k + 1)) (d.take (k + 1)) = (eqNs (c.take k) (d.take k) && eqN x y) := by
  induction k generalizing c d with
  | zero =>
    cases c with
    | nil => cases hx
    | cons a c => cases d with
      | nil => cases hy
      | cons b d =>
        simp at hx hy
        subst hx hy
        simp [eqNs]
  | succ k ih =>
    cases c with
    | nil => cases hx
    | cons a c => cases d with
      | nil => cases hy
      | cons b d =>
        simp at hx hy
        simp only [List.take_succ_cons, eqNs, ih hx hy, Bool.and_assoc]
theorem eqNs_no {c d : List Nd} {x y : Nd} {k : Nat} (hx : c[k]? = some x) (hy : d[k]? = some y) (h : eqN x y = false) : eqNs c d = false := by
  induction k generalizing c d with
  | zero =>
    cases c with
    | nil => cases hx
    | cons a c => cases d with
      | nil => cases hy
      | cons b d =>
        simp at hx hy
        subst hx hy
        simp [eqNs, h]
  | succ k ih =>
    cases c with
    | nil => cases hx
    | cons a c => cases d with
      | nil => cases hy
      | cons b d =>
        simp at hx hy
        simp [eqNs, ih hx hy]
end Go.Proofs.YtcpojagfnpajeaaGreatDoorR.Ps

namespace Go.Proofs.YtcpojagfnpajeaaGreatDoorR.Ps
open Go.RowKit

abbrev pbx (p q : Addr) : Obj := .cells #[.pointer (some p), .pointer (some q)] 112
/-- What two nodes have of their own, in memory. -/
structure Two (w : World) (b o b' o' : Nat) (kd vl : Int) (tx : ByteArray) (n : Nat) (a : Option Addr) (cap : Nat) (kd' vl' : Int) (tx' : ByteArray) (n' : Nat) (a' : Option Addr) (cap' : Nat) : Prop where
  p0 : w.cell? ⟨b, o, none⟩ = some (.int .i64 kd)
  p1 : w.cell? ⟨b, o + 1, none⟩ = some (.int .i64 vl)
  p2 : w.cell? ⟨b, o + 2, none⟩ = some (.string tx)
  p6 : w.cell? ⟨b, o + 6, none⟩ = some (.slice a n cap)
  q0 : w.cell? ⟨b', o', none⟩ = some (.int .i64 kd')
  q1 : w.cell? ⟨b', o' + 1, none⟩ = some (.int .i64 vl')
  q2 : w.cell? ⟨b', o' + 2, none⟩ = some (.string tx')
  q6 : w.cell? ⟨b', o' + 6, none⟩ = some (.slice a' n' cap')
  lp : b < w.heap.size
  lq : b' < w.heap.size
theorem Two.below {w w' : World} {b o b' o' : Nat} {kd vl : Int} {tx : ByteArray} {n : Nat} {a : Option Addr} {cap : Nat} {kd' vl' : Int} {tx' : ByteArray} {n' : Nat} {a' : Option Addr} {cap' : Nat} (h : Two w b o b' o' kd vl tx n a cap kd' vl' tx' n' a' cap') (hb : Below w.heap.size w w') : Two w' b o b' o' kd vl tx n a cap kd' vl' tx' n' a' cap' :=
  ⟨(hb.cell (p := ⟨b, _, none⟩) h.lp).trans h.p0, (hb.cell (p := ⟨b, _, none⟩) h.lp).trans h.p1, (hb.cell (p := ⟨b, _, none⟩) h.lp).trans h.p2, (hb.cell (p := ⟨b, _, none⟩) h.lp).trans h.p6,
   (hb.cell (p := ⟨b', _, none⟩) h.lq).trans h.q0, (hb.cell (p := ⟨b', _, none⟩) h.lq).trans h.q1, (hb.cell (p := ⟨b', _, none⟩) h.lq).trans h.q2, (hb.cell (p := ⟨b', _, none⟩) h.lq).trans h.q6, Nat.lt_of_lt_of_le h.lp hb.size, Nat.lt_of_lt_of_le h.lq hb.size⟩

theorem toList_ne {s t : ByteArray} (h : ¬ s = t) : (s.toList == t.toList) = false := by
  apply beq_eq_false_iff_ne.2
  intro e
  rw [ByteArray.toList_eq, ByteArray.toList_eq] at e
  cases s; cases t
  exact h (congrArg ByteArray.mk (Array.toList_inj.1 e))
section
variable {w : World} {b o b' o' : Nat} {kd vl : Int} {tx : ByteArray} {n : Nat} {a : Option Addr} {cap : Nat} {kd' vl' : Int} {tx' : ByteArray} {n' : Nat} {a' : Option Addr} {cap' : Nat} {mb : Nat}
abbrev EqNo (w : World) (b o b' o' mb : Nat) : Prop := Calls Tryz.prog 60 #[.agg #[.pointer (some ⟨b, o, none⟩), .pointer (some ⟨b', o', none⟩)], .map (some mb)] w fun e w' => e = .returned (.bool false) ∧ Below w.heap.size w w'

set_option maxHeartbeats 2000000 in
set_option maxHeartbeats 2000000 in
theorem no_k (h : Two w b o b' o' kd vl tx n a cap kd' vl' tx' n' a' cap') (hne : ¬ kd = kd') : EqNo w b o b' o' mb := by
  obtain ⟨W, hW⟩ : ∃ W, W = w.alloc (pbx ⟨b, o, none⟩ ⟨b', o', none⟩) := ⟨_, rfl⟩
  have hB : Below w.heap.size w W := by rw [hW]; exact below_box _ _
  obtain ⟨p0, p1, p2, p6, q0, q1, q2, q6, lp, lq⟩ := h.below hB
  have hb : W.heap[w.heap.size]? = some (pbx ⟨b, o, none⟩ ⟨b', o', none⟩) := by rw [hW]; exact heap_alloc_new w _
  have x0 : W.cell? ⟨w.heap.size, 0, none⟩ = some (.pointer (some ⟨b, o, none⟩)) := by rw [Lib.cell_of_heap hb]; rfl
  have x1 : W.cell? ⟨w.heap.size, 1, none⟩ = some (.pointer (some ⟨b', o', none⟩)) := by rw [Lib.cell_of_heap hb]; rfl
  have d1 : (kd != kd') = true := by simp [hne]
  clear h hb
  have HB := Lib.hid hB
  clear hB
  go_enter Tryz.func60, Tryz.ntmps60
  go_upto_region 1 with fail
  rw [show World.alloc w _ = W from hW.symm]
  go_quiet (fail)
  obtain ⟨W1, hW1⟩ : ∃ W1, W1 = World.drewN W nq := ⟨_, rfl⟩
  rw [← hW1]
  have hc : ∀ p, W1.cell? p = W.cell? p := by rw [hW1]; exact fun _ => rfl
  have hB1 : Below w.heap.size w W1 := by rw [hW1]; exact ⟨HB.out.os, HB.out.tape, HB.out.output, HB.out.size, HB.out.block⟩
  have HB1 := Lib.hid hB1
  clear hB1
  have p0 := (hc _).trans p0
  have p1 := (hc _).trans p1
  have p2 := (hc _).trans p2
  have p6 := (hc _).trans p6
  have q0 := (hc _).trans q0
  have q1 := (hc _).trans q1
  have q2 := (hc _).trans q2
  have q6 := (hc _).trans q6
  clear hW1 hc
  go_wp2_with fail
  go_quiet (fail)
  go_wp2_with fail
  go_ret
  exact ⟨rfl, HB1.out.trans ⟨rfl, rfl, rfl, Nat.le_refl _, fun _ _ => rfl⟩⟩
set_option maxHeartbeats 2000000 in
theorem no_v (h : Two w b o b' o' kd vl tx n a cap kd vl' tx' n' a' cap') (hne : ¬ vl = vl') : EqNo w b o b' o' mb := by
  obtain ⟨W, hW⟩ : ∃ W, W = w.alloc (pbx ⟨b, o, none⟩ ⟨b', o', none⟩) := ⟨_, rfl⟩
  have hB : Below w.heap.size w W := by rw [hW]; exact below_box _ _
  obtain ⟨p0, p1, p2, p6, q0, q1, q2, q6, lp, lq⟩ := h.below hB
  have hb : W.heap[w.heap.size]? = some (pbx ⟨b, o, none⟩ ⟨b', o', none⟩) := by rw [hW]; exact heap_alloc_new w _
  have x0 : W.cell? ⟨w.heap.size, 0, none⟩ = some (.pointer (some ⟨b, o, none⟩)) := by rw [Lib.cell_of_heap hb]; rfl
  have x1 : W.cell? ⟨w.heap.size, 1, none⟩ = some (.pointer (some ⟨b', o', none⟩)) := by rw [Lib.cell_of_heap hb]; rfl
  have d1 : (vl != vl') = true := by simp [hne]
  clear h hb
  have HB := Lib.hid hB
  clear hB
  go_enter Tryz.func60, Tryz.ntmps60
  go_upto_region 1 with fail
  rw [show World.alloc w _ = W from hW.symm]
  go_quiet (fail)
  obtain ⟨W1, hW1⟩ : ∃ W1, W1 = World.drewN W nq := ⟨_, rfl⟩
  rw [← hW1]
  have hc : ∀ p, W1.cell? p = W.cell? p := by rw [hW1]; exact fun _ => rfl
  have hB1 : Below w.heap.size w W1 := by rw [hW1]; exact ⟨HB.out.os, HB.out.tape, HB.out.output, HB.out.size, HB.out.block⟩
  have HB1 := Lib.hid hB1
  clear hB1
  have p0 := (hc _).trans p0
  have p1 := (hc _).trans p1
  have p2 := (hc _).trans p2
  have p6 := (hc _).trans p6
  have q0 := (hc _).trans q0
  have q1 := (hc _).trans q1
  have q2 := (hc _).trans q2
  have q6 := (hc _).trans q6
  clear hW1 hc
  go_wp2_with fail
  go_quiet (fail)
  go_wp2_with fail
  go_ret
  exact ⟨rfl, HB1.out.trans ⟨rfl, rfl, rfl, Nat.le_refl _, fun _ _ => rfl⟩⟩
set_option maxHeartbeats 2000000 in
theorem no_t (h : Two w b o b' o' kd vl tx n a cap kd vl tx' n' a' cap') (hne : ¬ tx = tx') : EqNo w b o b' o' mb := by
  obtain ⟨W, hW⟩ : ∃ W, W = w.alloc (pbx ⟨b, o, none⟩ ⟨b', o', none⟩) := ⟨_, rfl⟩
  have hB : Below w.heap.size w W := by rw [hW]; exact below_box _ _
  obtain ⟨p0, p1, p2, p6, q0, q1, q2, q6, lp, lq⟩ := h.below hB
  have hb : W.heap[w.heap.size]? = some (pbx ⟨b, o, none⟩ ⟨b', o', none⟩) := by rw [hW]; exact heap_alloc_new w _
  have x0 : W.cell? ⟨w.heap.size, 0, none⟩ = some (.pointer (some ⟨b, o, none⟩)) := by rw [Lib.cell_of_heap hb]; rfl
  have x1 : W.cell? ⟨w.heap.size, 1, none⟩ = some (.pointer (some ⟨b', o', none⟩)) := by rw [Lib.cell_of_heap hb]; rfl
  have d1 : (tx.toList == tx'.toList) = false := toList_ne hne
  clear h hb
  have HB := Lib.hid hB
  clear hB
  go_enter Tryz.func60, Tryz.ntmps60
  go_upto_region 1 with fail
  rw [show World.alloc w _ = W from hW.symm]
  go_quiet (fail)
  obtain ⟨W1, hW1⟩ : ∃ W1, W1 = World.drewN W nq := ⟨_, rfl⟩
  rw [← hW1]
  have hc : ∀ p, W1.cell? p = W.cell? p := by rw [hW1]; exact fun _ => rfl
  have hB1 : Below w.heap.size w W1 := by rw [hW1]; exact ⟨HB.out.os, HB.out.tape, HB.out.output, HB.out.size, HB.out.block⟩
  have HB1 := Lib.hid hB1
  clear hB1
  have p0 := (hc _).trans p0
  have p1 := (hc _).trans p1
  have p2 := (hc _).trans p2
  have p6 := (hc _).trans p6
  have q0 := (hc _).trans q0
  have q1 := (hc _).trans q1
  have q2 := (hc _).trans q2
  have q6 := (hc _).trans q6
  clear hW1 hc
  go_wp2_with fail
  go_quiet (fail)
  go_wp2_with fail
  go_ret
  exact ⟨rfl, HB1.out.trans ⟨rfl, rfl, rfl, Nat.le_refl _, fun _ _ => rfl⟩⟩
set_option maxHeartbeats 2000000 in
theorem no_n (h : Two w b o b' o' kd vl tx n a cap kd vl tx n' a' cap') (hne : ¬ n = n') : EqNo w b o b' o' mb := by
  obtain ⟨W, hW⟩ : ∃ W, W = w.alloc (pbx ⟨b, o, none⟩ ⟨b', o', none⟩) := ⟨_, rfl⟩
  have hB : Below w.heap.size w W := by rw [hW]; exact below_box _ _
  obtain ⟨p0, p1, p2, p6, q0, q1, q2, q6, lp, lq⟩ := h.below hB
  have hb : W.heap[w.heap.size]? = some (pbx ⟨b, o, none⟩ ⟨b', o', none⟩) := by rw [hW]; exact heap_alloc_new w _
  have x0 : W.cell? ⟨w.heap.size, 0, none⟩ = some (.pointer (some ⟨b, o, none⟩)) := by rw [Lib.cell_of_heap hb]; rfl
  have x1 : W.cell? ⟨w.heap.size, 1, none⟩ = some (.pointer (some ⟨b', o', none⟩)) := by rw [Lib.cell_of_heap hb]; rfl
  have d1 : ((n : Int) != (n' : Int)) = true := by simp; omega
  clear h hb
  have HB := Lib.hid hB
  clear hB
  go_enter Tryz.func60, Tryz.ntmps60
  go_upto_region 1 with fail
  rw [show World.alloc w _ = W from hW.symm]
  go_quiet (fail)
  obtain ⟨W1, hW1⟩ : ∃ W1, W1 = World.drewN W nq := ⟨_, rfl⟩
  rw [← hW1]
  have hc : ∀ p, W1.cell? p = W.cell? p := by rw [hW1]; exact fun _ => rfl
  have hB1 : Below w.heap.size w W1 := by rw [hW1]; exact ⟨HB.out.os, HB.out.tape, HB.out.output, HB.out.size, HB.out.block⟩
  have HB1 := Lib.hid hB1
  clear hB1
  have p0 := (hc _).trans p0
  have p1 := (hc _).trans p1
  have p2 := (hc _).trans p2
  have p6 := (hc _).trans p6
  have q0 := (hc _).trans q0
  have q1 := (hc _).trans q1
  have q2 := (hc _).trans q2
  have q6 := (hc _).trans q6
  clear hW1 hc
  go_wp2_with fail
  go_quiet (fail)
  go_wp2_with fail
  go_ret
  exact ⟨rfl, HB1.out.trans ⟨rfl, rfl, rfl, Nat.le_refl _, fun _ _ => rfl⟩⟩
end
end Go.Proofs.YtcpojagfnpajeaaGreatDoorR.Ps

namespace Go.Proofs.YtcpojagfnpajeaaGreatDoorR.Ps
open Go.RowKit

set_option maxHeartbeats 2000000 in
theorem eq_known {w : World} {b o b' o' : Nat} {kd vl : Int} {tx : ByteArray} {n : Nat} {a : Option Addr} {cap : Nat} {a' : Option Addr} {cap' : Nat} {mb : Nat} (h : Two w b o b' o' kd vl tx n a cap kd vl tx n a' cap')
    (hl : ∀ W, Below w.heap.size w W → (Instr.lookup 113 (.map (some mb)) (.agg #[.pointer (some ⟨b, o, none⟩), .pointer (some ⟨b', o', none⟩)]) false).run Tryz.prog W = .ok (.bool true) W) :
    Calls Tryz.prog 60 #[.agg #[.pointer (some ⟨b, o, none⟩), .pointer (some ⟨b', o', none⟩)], .map (some mb)] w fun e w' => e = .returned (.bool true) ∧ Below w.heap.size w w' := by
  obtain ⟨W, hW⟩ : ∃ W, W = w.alloc (pbx ⟨b, o, none⟩ ⟨b', o', none⟩) := ⟨_, rfl⟩
  have hB : Below w.heap.size w W := by rw [hW]; exact below_box _ _
  obtain ⟨p0, p1, p2, p6, q0, q1, q2, q6, lp, lq⟩ := h.below hB
  have hb : W.heap[w.heap.size]? = some (pbx ⟨b, o, none⟩ ⟨b', o', none⟩) := by rw [hW]; exact heap_alloc_new w _
  have x0 : W.cell? ⟨w.heap.size, 0, none⟩ = some (.pointer (some ⟨b, o, none⟩)) := by rw [Lib.cell_of_heap hb]; rfl
  have x1 : W.cell? ⟨w.heap.size, 1, none⟩ = some (.pointer (some ⟨b', o', none⟩)) := by rw [Lib.cell_of_heap hb]; rfl
  have hb0 := hb
  have HL := Lib.hid hl
  clear h hl
  have HB := Lib.hid hB
  clear hB
  go_enter Tryz.func60, Tryz.ntmps60
  go_upto_region 1 with fail
  rw [show World.alloc w _ = W from hW.symm]
  go_quiet (fail)
  obtain ⟨W1, hW1⟩ : ∃ W1, W1 = World.drewN W nq := ⟨_, rfl⟩
  rw [← hW1]
  have hc : ∀ p, W1.cell? p = W.cell? p := by rw [hW1]; exact fun _ => rfl
  have hB1 : Below w.heap.size w W1 := by rw [hW1]; exact ⟨HB.out.os, HB.out.tape, HB.out.output, HB.out.size, HB.out.block⟩
  have HB1 := Lib.hid hB1
  clear hB1
  have p0 := (hc _).trans p0
  have p1 := (hc _).trans p1
  have p2 := (hc _).trans p2
  have p6 := (hc _).trans p6
  have q0 := (hc _).trans q0
  have q1 := (hc _).trans q1
  have q2 := (hc _).trans q2
  have q6 := (hc _).trans q6
  have hb1 : W1.heap[w.heap.size]? = some (pbx ⟨b, o, none⟩ ⟨b', o', none⟩) := by rw [hW1]; exact hb0
  have x0 := (hc _).trans x0
  have x1 := (hc _).trans x1
  clear hW1 hc
  go_wp2_with fail
  go_quiet (fail)
  obtain ⟨W2, hW2⟩ : ∃ W2, W2 = World.drewN W1 nq := ⟨_, rfl⟩
  rw [← hW2]
  have HB2 : Hid (Below w.heap.size w W2) := by rw [hW2]; exact ⟨HB1.out.os, HB1.out.tape, HB1.out.output, HB1.out.size, HB1.out.block⟩
  have x0 : W2.cell? ⟨w.heap.size, 0, none⟩ = some (.pointer (some ⟨b, o, none⟩)) := by rw [hW2]; exact x0
  have x1 : W2.cell? ⟨w.heap.size, 1, none⟩ = some (.pointer (some ⟨b', o', none⟩)) := by rw [hW2]; exact x1
  have hb2 : W2.heap[w.heap.size]? = some (pbx ⟨b, o, none⟩ ⟨b', o', none⟩) := by rw [hW2]; exact hb1
  have hlook := HL.out W2 HB2.out
  clear hW2
  go_wp2_with fail
  go_ret
  exact ⟨rfl, HB2.out⟩

structure EqPost (w0 : World) (mb : Nat) (m : List (Addr × Addr)) (x y : Nd) (w : World) (e : Ending) (w' : World) : Prop where
  ret : e = .returned (.bool (eqN x y))
  gr : w.grownBy w' (some mb)
  yes : eqN x y = true → ∃ m', PM2 w' mb m' ∧ Grew2 w0 m m'
theorem EqPost.drew {w0 : World} {mb : Nat} {m : List (Addr × Addr)} {x y : Nd} {w : World} {e : Ending} {w' : World} (h : EqPost w0 mb m x y w.drew e w') : EqPost w0 mb m x y w e w' := ⟨h.ret, ⟨h.gr.os, h.gr.tape, h.gr.output, h.gr.size, h.gr.block⟩, h.yes⟩
theorem PM2.drew {w : World} {mb : Nat} {m : List (Addr × Addr)} (h : PM2 w mb m) : PM2 w.drew mb m := h
theorem grown_of {w w' : World} {r : Option Nat} (h : Below w.heap.size w w') : w.grownBy w' r := ⟨h.os, h.tape, h.output, h.size, fun k hk _ => h.block k hk⟩

set_option maxRecDepth 100000 in
set_option maxHeartbeats 4000000 in
theorem eq_new {w0 : World} {mb : Nat} {n : Nat} (ih : ∀ k, k < n → ∀ (x y : Nd) (p q : Addr) (n' : Nat) (m : List (Addr × Addr)) (w : World), NA w0 k p x → NA w0 n' q y → (∀ j, Pl w0 j → w.heap[j]? = w0.heap[j]?) → PM2 w mb m → Know2 w0 x.height m →
      Calls Tryz.prog 60 #[pairV (p, q), .map (some mb)] w (EqPost w0 mb m x y w))
    {w : World} {b o b' o' : Nat} {kd vl : Int} {tx : ByteArray} {c d : List Nd} {a : Option Addr} {cap : Nat} {a' : Option Addr} {cap' : Nat} {m : List (Addr × Addr)} {n' ht : Nat}
    (h : Two w b o b' o' kd vl tx c.length a cap kd vl tx c.length a' cap') (hcd : c.length = d.length) (hm : PM2 w mb m) (hnm : (⟨b, o, none⟩, ⟨b', o', none⟩) ∉ m) (hp : Pl w0 b) (hq : Pl w0 b') (hlen : c.length ≤ maxLen)
    (hs : ∀ j, Pl w0 j → w.heap[j]? = w0.heap[j]?) (hkc : Nds w0 (NS w0) TEx n a c) (hkd : Nds w0 (NS w0) TEx n' a' d) (hht : ∀ y, y ∈ c → y.height ≤ ht) (hkn : Know2 w0 ht (m ++ [(⟨b, o, none⟩, ⟨b', o', none⟩)])) :
    Calls Tryz.prog 60 #[.agg #[.pointer (some ⟨b, o, none⟩), .pointer (some ⟨b', o', none⟩)], .map (some mb)] w fun e w' => e = .returned (.bool (eqNs c d)) ∧ w.grownBy w' (some mb) ∧ (eqNs c d = true → ∃ m', PM2 w' mb m' ∧ Grew2 w0 (m ++ [(⟨b, o, none⟩, ⟨b', o', none⟩)]) m') := by
  obtain ⟨W, hW⟩ : ∃ W, W = w.alloc (pbx ⟨b, o, none⟩ ⟨b', o', none⟩) := ⟨_, rfl⟩
  have hB : Below w.heap.size w W := by rw [hW]; exact below_box _ _
  obtain ⟨p0, p1, p2, p6, q0, q1, q2, q6, lp, lq⟩ := h.below hB
  have hb : W.heap[w.heap.size]? = some (pbx ⟨b, o, none⟩ ⟨b', o', none⟩) := by rw [hW]; exact heap_alloc_new w _
  have x0 : W.cell? ⟨w.heap.size, 0, none⟩ = some (.pointer (some ⟨b, o, none⟩)) := by rw [Lib.cell_of_heap hb]; rfl
  have x1 : W.cell? ⟨w.heap.size, 1, none⟩ = some (.pointer (some ⟨b', o', none⟩)) := by rw [Lib.cell_of_heap hb]; rfl
  have hb0 := hb
  unfold maxLen at hlen
  have HM := Lib.hid hm
  have HNM := Lib.hid hnm
  have HP := Lib.hid hp
  have HQ := Lib.hid hq
  have HS := Lib.hid hs
  have HKC := Lib.hid hkc
  have HKD := Lib.hid hkd
  have HHT := Lib.hid hht
  have HKN := Lib.hid hkn
  have HCD := Lib.hid hcd
  have HTWO := Lib.hid h
  clear h hm hnm hp hq hs hkc hkd hht hkn hcd
  have HB := Lib.hid hB
  clear hB
  go_enter Tryz.func60, Tryz.ntmps60
  go_upto_region 1 with fail
  rw [show World.alloc w _ = W from hW.symm]
  go_quiet (fail)
  obtain ⟨W1, hW1⟩ : ∃ W1, W1 = World.drewN W nq := ⟨_, rfl⟩
  rw [← hW1]
  have hc : ∀ p, W1.cell? p = W.cell? p := by rw [hW1]; exact fun _ => rfl
  have hB1 : Below w.heap.size w W1 := by rw [hW1]; exact ⟨HB.out.os, HB.out.tape, HB.out.output, HB.out.size, HB.out.block⟩
  have HB1 := Lib.hid hB1
  clear hB1
  have p0 := (hc _).trans p0
  have p1 := (hc _).trans p1
  have p2 := (hc _).trans p2
  have p6 := (hc _).trans p6
  have q0 := (hc _).trans q0
  have q1 := (hc _).trans q1
  have q2 := (hc _).trans q2
  have q6 := (hc _).trans q6
  have hb1 : W1.heap[w.heap.size]? = some (pbx ⟨b, o, none⟩ ⟨b', o', none⟩) := by rw [hW1]; exact hb0
  have x0 := (hc _).trans x0
  have x1 := (hc _).trans x1
  clear hW1 hc
  go_wp2_with fail
  go_quiet (fail)
  obtain ⟨W2, hW2⟩ : ∃ W2, W2 = World.drewN W1 nq := ⟨_, rfl⟩
  rw [← hW2]
  have HB2 : Hid (Below w.heap.size w W2) := by rw [hW2]; exact ⟨HB1.out.os, HB1.out.tape, HB1.out.output, HB1.out.size, HB1.out.block⟩
  have x0 : W2.cell? ⟨w.heap.size, 0, none⟩ = some (.pointer (some ⟨b, o, none⟩)) := by rw [hW2]; exact x0
  have x1 : W2.cell? ⟨w.heap.size, 1, none⟩ = some (.pointer (some ⟨b', o', none⟩)) := by rw [hW2]; exact x1
  have hb2 : W2.heap[w.heap.size]? = some (pbx ⟨b, o, none⟩ ⟨b', o', none⟩) := by rw [hW2]; exact hb1
  have HS2 : Hid (∀ j, Pl w0 j → W2.heap[j]? = w0.heap[j]?) := fun j hj => (HB2.out.block j (hj.of_block (HS.out j hj)).lt).trans (HS.out j hj)
  have HM2 : Hid (PM2 W2 mb m) := HM.out.to HB2.out
  have hpl2 : Pl2 W2 (⟨b, o, none⟩, ⟨b', o', none⟩) := ⟨HP.out.of_block (HS2.out _ HP.out), HQ.out.of_block (HS2.out _ HQ.out)⟩
  have hlook := HM2.out.look hpl2
  rw [decide_eq_false HNM.out] at hlook
  obtain ⟨w3, hst, hm3, htn⟩ := HM2.out.store hpl2 HNM.out
  have HG3 : Hid (W2.grownBy w3 (some mb)) := htn.grown
  have HM3 := Lib.hid hm3
  have HS3 : Hid (∀ j, Pl w0 j → w3.heap[j]? = w0.heap[j]?) := fun j hj => by
    have h1 : Pl W2 j := hj.of_block (HS2.out j hj)
    rw [HG3.out.block j h1.lt (fun e => HM2.out.ne h1 (Option.some.inj e)), HS2.out j hj]
  have HC : Hid (∀ W : World, (∀ j, Pl w0 j → W.heap[j]? = w0.heap[j]?) → W.cell? ⟨b, o + 6, none⟩ = some (.slice a c.length cap) ∧ W.cell? ⟨b', o' + 6, none⟩ = some (.slice a' c.length cap')) := fun W hW =>
    ⟨(World.cell?_of_block ((hW b HP.out).trans (HS.out b HP.out).symm)).trans HTWO.out.p6, (World.cell?_of_block ((hW b' HQ.out).trans (HS.out b' HQ.out).symm)).trans HTWO.out.q6⟩
  obtain ⟨hc3, hd3⟩ := HC.out w3 HS3.out
  clear hW2 htn hm3 hpl2
  go_wp2_with fail
  go_loopw [66] (fun i wr => ∃ (k : Nat) (mk : List (Addr × Addr)), k ≤ c.length ∧ i = .int .i64 k ∧ Hid (PM2 wr mb mk) ∧ Hid (Grew2 w0 (m ++ [(⟨b, o, none⟩, ⟨b', o', none⟩)]) mk) ∧ Hid (w3.grownBy wr (some mb)) ∧ Hid (eqNs (c.take k) (d.take k) = true))
    (fun i _ => c.length - (intOf i).toNat)
  case atStart => exact ⟨0, _, Nat.zero_le _, rfl, HM3, Grew2.refl _ _, ⟨rfl, rfl, rfl, Nat.le_refl _, fun _ _ _ => rfl⟩, by show _ = _; simp [eqNs]⟩
  case round =>
    obtain ⟨k, mk, hk, rfl, hPM, hGR, hGB, hEQ⟩ := hrel
    have HSR : Hid (∀ j, Pl w0 j → wr.heap[j]? = w0.heap[j]?) := fun j hj => by
      have h1 : Pl w3 j := hj.of_block (HS3.out j hj)
      rw [hGB.out.block j h1.lt (fun e => HM3.out.ne h1 (Option.some.inj e)), HS3.out j hj]
    obtain ⟨hcr, hdr⟩ := HC.out wr HSR.out
    by_cases hlt : k < c.length
    · have hx : c[k]? = some c[k] := List.getElem?_eq_getElem hlt
      obtain ⟨x, hX⟩ : ∃ x, x = c[k] := ⟨_, rfl⟩
      rw [← hX] at hx
      have hltd : k < d.length := by have := HCD.out; omega
      have hy : d[k]? = some d[k] := List.getElem?_eq_getElem hltd
      obtain ⟨y, hY⟩ : ∃ y, y = d[k] := ⟨_, rfl⟩
      rw [← hY] at hy
      clear hX hY hltd
      obtain ⟨_, _, b1, o1, _, _, _, _, rfl, _⟩ := Nds.at HKC.out hx
      obtain ⟨_, _, b2, o2, _, _, _, _, rfl, _⟩ := Nds.at HKD.out hy
      obtain ⟨m1, hm1, hna⟩ := Nds.na HKC.out hx
      obtain ⟨m2, _, hnb⟩ := Nds.na HKD.out hy
      have HNA := Lib.hid hna
      have HNB := Lib.hid hnb
      have HX := Lib.hid hx
      have HY := Lib.hid hy
      have HKY : Hid (Know2 w0 x.height mk) := (HKN.out.grew hGR.out).less (HHT.out x (List.mem_of_getElem? hx))
      clear hx hy hna hnb
      have hk0 : (0 : Int) ≤ (k : Int) := by omega
      have hk1 : (k : Int) < (c.length : Int) := by omega
      go_wp2_with fail
      go_still_tail 14, (by kernel_rfl)
      change wpList _ _ _ _ _ wr.drew
      go_upto_region 11 with fail
      ((go_at_call 60; (refine (ih m1 hm1 x y _ _ m2 mk wr.drew HNA.out HNB.out HSR.out hPM.out.drew HKY.out).mono ?_); intro e w' hp; obtain ⟨rfl, hgr0, hyes⟩ := hp.drew; have HGR0 := Lib.hid hgr0; have HYES := Lib.hid hyes; clear hp hgr0 hyes; obtain ⟨r, hR⟩ : ∃ r, r = eqN x y := ⟨_, rfl⟩; rw [← hR]; rw [← hR] at HYES; have HR := Lib.hid hR; clear hR))
      go_upto_region 11 with fail
      case roundEnd =>
        have hrt : r = true := by cases r <;> simp_all
        obtain ⟨m3, hp3, hg3⟩ := HYES.out hrt
        exact ⟨⟨k + 1, m3, by omega, by go_num, hp3, hGR.out.trans hg3, hGB.out.trans HGR0.out, by show _ = _; rw [eqNs_take HX.out HY.out, hEQ.out, ← HR.out, hrt]; rfl⟩, by simp [intOf]; omega⟩
      have hrf : r = false := by cases r <;> simp_all
      have HF : Hid (eqNs c d = false) := eqNs_no HX.out HY.out (HR.out.symm.trans hrf)
      go_wp2_with fail
      go_ret
      exact ⟨by rw [HF.out]; rfl, ((grown_of HB2.out).trans HG3.out).trans (hGB.out.trans HGR0.out), fun h => by rw [HF.out] at h; cases h⟩
    · have hkl : k = c.length := by omega
      have HT : Hid (eqNs c d = true) := by
        have := hEQ.out
        rwa [hkl, List.take_length, HCD.out, List.take_length] at this
      clear hkl
      go_wp2_with fail
      go_ret
      exact ⟨by rw [HT.out]; rfl, ((grown_of HB2.out).trans HG3.out).trans hGB.out, fun _ => ⟨mk, hPM.out, hGR.out⟩⟩
end Go.Proofs.YtcpojagfnpajeaaGreatDoorR.Ps

namespace Go.Proofs.YtcpojagfnpajeaaGreatDoorR.Ps
open Go.RowKit

theorem eq_off {w0 : World} {mb : Nat} {m : List (Addr × Addr)} {x y : Nd} {w : World} {e : Ending} {w' : World} (he : eqN x y = false) (h : e = .returned (.bool false) ∧ Below w.heap.size w w') : EqPost w0 mb m x y w e w' :=
  ⟨by rw [h.1, he], grown_of h.2, fun q => by rw [he] at q; cases q⟩

/-- equal: whether two nodes are, where the map knows only what is so. -/
theorem equal_any (w0 : World) (mb : Nat) : ∀ (n : Nat) (x y : Nd) (p q : Addr) (n' : Nat) (m : List (Addr × Addr)) (w : World), NA w0 n p x → NA w0 n' q y → (∀ j, Pl w0 j → w.heap[j]? = w0.heap[j]?) → PM2 w mb m → Know2 w0 x.height m →
    Calls Tryz.prog 60 #[pairV (p, q), .map (some mb)] w (EqPost w0 mb m x y w) := by
  intro n
  induction n using Nat.strongRecOn with
  | ind n ih =>
  intro x y p q n' m w hx hy hs hm hk
  obtain ⟨hok, b, o, sa, cap, rfl, hpb, hc1, hc2, hc3, hsv, hkd⟩ := hx.kept hs
  obtain ⟨hok', b', o', sa', cap', rfl, hpb', hc1', hc2', hc3', hsv', hkd'⟩ := hy.kept hs
  have htwo : Two w b o b' o' x.k x.v (Lx.bs x.t) x.c.length sa cap y.k y.v (Lx.bs y.t) y.c.length sa' cap' := ⟨hsv.c0, hsv.c1, hsv.c2, hsv.c6, hsv'.c0, hsv'.c1, hsv'.c2, hsv'.c6, hpb.lt, hpb'.lt⟩
  by_cases hkk : x.k = y.k
  case neg => exact (no_k htwo hkk).mono fun e w' h => eq_off (by rw [eqN_eq]; simp [hkk]) h
  rw [← hkk] at htwo
  by_cases hvv : x.v = y.v
  case neg => exact (no_v htwo hvv).mono fun e w' h => eq_off (by rw [eqN_eq]; simp [hvv]) h
  rw [← hvv] at htwo
  by_cases htt : x.t = y.t
  case neg => exact (no_t htwo (fun q => htt (bs_inj q))).mono fun e w' h => eq_off (by rw [eqN_eq]; simp [htt]) h
  rw [← htt] at htwo
  by_cases hll : x.c.length = y.c.length
  case neg => exact (no_n htwo hll).mono fun e w' h => eq_off (by rw [eqN_eq]; have : eqNs x.c y.c = false := Bool.eq_false_iff.2 fun q => hll (eqNs_len q); simp [this]) h
  rw [← hll] at htwo
  have hek : eqN x y = eqNs x.c y.c := by rw [eqN_eq]; simp [hkk, hvv, htt]
  by_cases hmem : ((⟨b, o, none⟩, ⟨b', o', none⟩) : Addr × Addr) ∈ m
  · have he : eqN x y = true := hk _ _ _ hmem hx (Nat.le_refl _) _ _ _ _ hx hy
    refine (eq_known htwo fun W hW => ?_).mono fun e w' h => ⟨by rw [h.1, he], grown_of h.2, fun _ => ⟨m, hm.to h.2, Grew2.refl _ _⟩⟩
    have := (hm.to hW).look (a := (⟨b, o, none⟩, ⟨b', o', none⟩)) ⟨hpb.below hW, hpb'.below hW⟩
    rw [decide_eq_true hmem] at this
    exact this
  · have h0 : Pl w0 b := by
      obtain ⟨_, b2, o2, _, _, e, h, _⟩ := hx
      cases e
      exact h
    have h0' : Pl w0 b' := by
      obtain ⟨_, b2, o2, _, _, e, h, _⟩ := hy
      cases e
      exact h
    have hkc : Nds w0 (NS w0) TEx n sa x.c := by
      obtain ⟨_, b2, o2, _, _, e, hp2, _, _, _, hs2, hk2⟩ := hx
      cases e
      have := Value.slice.inj (Option.some.inj (((World.cell?_of_block (hs b hp2)).trans hs2.c6).symm.trans hsv.c6))
      rw [← this.1]
      exact hk2
    have hkc' : Nds w0 (NS w0) TEx n' sa' y.c := by
      obtain ⟨_, b2, o2, _, _, e, hp2, _, _, _, hs2, hk2⟩ := hy
      cases e
      have := Value.slice.inj (Option.some.inj (((World.cell?_of_block (hs b' hp2)).trans hs2.c6).symm.trans hsv'.c6))
      rw [← this.1]
      exact hk2
    have hh := nd_height x
    refine (eq_new ih htwo hll hm hmem h0 h0' hok.2.2.2.2.2.2 hs hkc hkc' (ht := x.height - 1) (fun z hz => by have := nheight_of hz; omega) (Know2.begun (k := (⟨b, o, none⟩, ⟨b', o', none⟩)) hx hk)).mono ?_
    rintro e w' ⟨rfl, hg, hyes⟩
    refine ⟨by rw [hek], hg, fun he => ?_⟩
    obtain ⟨m', h1, h2⟩ := hyes (hek ▸ he)
    exact ⟨m', h1, Grew2.done (k := (⟨b, o, none⟩, ⟨b', o', none⟩)) hx hy he h2⟩

abbrev nvx (x : Nd) (sa : Option Addr) (cap : Nat) : Value := .agg #[.int .i64 x.k, .int .i64 x.v, .string (Lx.bs x.t), .int .i64 x.s, .int .i64 x.e, .int .i64 x.ns, .slice sa x.c.length cap]
abbrev nbxx (x : Nd) (sa : Option Addr) (cap : Nat) : Obj := .cells #[.int .i64 x.k, .int .i64 x.v, .string (Lx.bs x.t), .int .i64 x.s, .int .i64 x.e, .int .i64 x.ns, .slice sa x.c.length cap] 36
/-- A node that is handed over, its children in plain blocks. -/
structure NdV (w : World) (n : Nat) (x : Nd) (sa : Option Addr) (cap : Nat) : Prop where
  ok : x.ok
  c1 : x.c.length ≤ cap
  c2 : cap ≤ maxLen
  c3 : sa = none → cap = 0
  kids : Nds w (NS w) TEx n sa x.c
theorem NdV.to {w w' : World} {n : Nat} {x : Nd} {sa : Option Addr} {cap : Nat} (h : NdV w n x sa cap) (hb : Below w.heap.size w w') : NdV w' n x sa cap :=
  ⟨h.ok, h.c1, h.c2, h.c3, (h.kids.kept fun j _ _ hj => World.cell?_of_block (hb.block j hj.lt)).up (fun _ _ hj => hj.below hb) (fun _ _ h => h) (Nat.le_refl _)⟩
theorem NdV.boxed {w : World} {n : Nat} {x : Nd} {sa : Option Addr} {cap : Nat} (h : NdV w n x sa cap) {b : Nat} (hb : w.heap[b]? = some (nbxx x sa cap)) : NA w n ⟨b, 0, none⟩ x := by
  refine ⟨h.ok, b, 0, sa, cap, rfl, ⟨_, _, hb⟩, h.c1, h.c2, h.c3, ⟨?_, ?_, ?_, ?_, ?_, ?_, ?_⟩, h.kids⟩ <;> (rw [Lib.cell_of_heap hb]; rfl)

set_option maxHeartbeats 1000000 in
/-- Equal: whether two trees are equal but for the positions. -/
theorem Equal_any (w : World) {n n' : Nat} {x y : Nd} {sa sa' : Option Addr} {cap cap' : Nat} (hx : NdV w n x sa cap) (hy : NdV w n' y sa' cap') :
    Calls Tryz.prog 21 #[nvx x sa cap, nvx y sa' cap'] w fun e w' => e = .returned (.bool (eqN x y)) ∧ Below w.heap.size w w' := by
  obtain ⟨W, hW⟩ : ∃ W, W = (w.alloc (nbxx x sa cap)).alloc (nbxx y sa' cap') := ⟨_, rfl⟩
  have hB : Below w.heap.size w W := by rw [hW]; exact ((Below.refl _ _).alloc (Nat.le_refl _) _).alloc (by simp) _
  have hs : W.heap.size = w.heap.size + 2 := by rw [hW]; simp
  have h1 : W.heap[w.heap.size]? = some (nbxx x sa cap) := by rw [hW, Below.heap_alloc _ _ _ (by simp)]; exact heap_alloc_new w _
  have h2 : W.heap[w.heap.size + 1]? = some (nbxx y sa' cap') := by
    have := heap_alloc_new (w.alloc (nbxx x sa cap)) (nbxx y sa' cap')
    rw [hW]
    simpa using this
  obtain ⟨W3, hW3⟩ : ∃ W3, W3 = W.alloc (.map #[] 0) := ⟨_, rfl⟩
  have hB3 : Below W.heap.size W W3 := by rw [hW3]; exact (Below.refl _ _).alloc (Nat.le_refl _) _
  have hB03 : Below w.heap.size w W3 := hB.trans (hB3.mono hB.size)
  have hM : PM2 W3 W.heap.size [] := by rw [hW3]; exact PM2.made W
  have ha : NA W3 n ⟨w.heap.size, 0, none⟩ x := (hx.to hB03).boxed ((hB3.block _ (by omega)).trans h1)
  have hb : NA W3 n' ⟨w.heap.size + 1, 0, none⟩ y := (hy.to hB03).boxed ((hB3.block _ (by omega)).trans h2)
  have K := Lib.hid (equal_any W3 W.heap.size n x y _ _ n' [] W3 ha hb (fun _ _ => rfl) hM (fun _ _ _ h => by cases h))
  have HB03 := Lib.hid hB03
  have HS : Hid (w.heap.size ≤ W.heap.size) := hB.size
  rw [hs] at K HS
  clear ha hb hM hB3 hB03 hB h1 h2 hx hy
  go_enter Tryz.func21, Tryz.ntmps21
  go_upto_region 1 with fail
  rw [show World.alloc (World.alloc w _) _ = W from hW.symm]
  have hmm : (Instr.makeMap 113 none).run Tryz.prog W = .ok (.map (some (w.heap.size + 2))) W3 := by rw [hW3, ← hs]; exact run_makeMap _ _
  clear hW hW3 hs
  go_wp2_with fail
  refine K.out.mono ?_
  rintro e w' ⟨rfl, hg, _⟩
  go_wp2_with fail
  go_ret
  exact ⟨rfl, HB03.out.trans ⟨hg.os, hg.tape, hg.output, hg.size, fun k hk => hg.block k (Nat.lt_of_lt_of_le hk HB03.out.size) (by intro e; have := Option.some.inj e; have := HS.out; omega)⟩⟩
end Go.Proofs.YtcpojagfnpajeaaGreatDoorR.Ps
