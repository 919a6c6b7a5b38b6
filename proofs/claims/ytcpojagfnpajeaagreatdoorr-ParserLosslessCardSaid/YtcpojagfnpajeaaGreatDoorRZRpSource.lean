/-
  A map whose keys are pointers to trees, in memory: what it answers, and what a store makes of it.
  lengthOf: how long the source of a tree is, with a map of what is known; its contract.
  lengthOf: how long the source of a tree is, with a map of what is known; its contract.
  writeSource and Source: the source of a tree, by their contracts.
-/
import Derived.Test.YtcpojagfnpajeaaGreatDoorRZPsBase
import Derived.LaidEql
import Derived.Test.YtcpojagfnpajeaaGreatDoorRZRpCore
import Derived.Test.YtcpojagfnpajeaaGreatDoorRZGtSlim
import Derived.Test.YtcpojagfnpajeaaGreatDoorRZTeAll
import Derived.Carry
namespace Go.Proofs.YtcpojagfnpajeaaGreatDoorR.Ps
open Go.RowKit

/-- Where the key stands first, and its value. -/
def fnd (a : Addr) : List (Addr × Int) → Nat → Option (Nat × Int)
  | [], _ => none
  | p :: r, i => if a = p.1 then some (i, p.2) else fnd a r (i + 1)
def get (m : List (Addr × Int)) (a : Addr) : Option Int := (fnd a m 0).map Prod.snd
/-- The value of a is v. -/
def put (a : Addr) (v : Int) : List (Addr × Int) → List (Addr × Int)
  | [] => [(a, v)]
  | p :: r => if a = p.1 then (a, v) :: r else p :: put a v r

theorem fnd_shift (a : Addr) : ∀ (m : List (Addr × Int)) (i : Nat), (fnd a m i).map Prod.snd = (fnd a m 0).map Prod.snd
  | [], _ => rfl
  | p :: r, i => by
    unfold fnd
    split
    · rfl
    · rw [fnd_shift a r (i + 1), fnd_shift a r (0 + 1)]
theorem get_cons (p : Addr × Int) (r : List (Addr × Int)) (a : Addr) : get (p :: r) a = if a = p.1 then some p.2 else get r a := by
  unfold get
  rw [fnd]
  split
  · rfl
  · exact fnd_shift a r _
theorem get_put (a : Addr) (v : Int) (q : Addr) : ∀ m : List (Addr × Int), get (put a v m) q = if q = a then some v else get m q
  | [] => by
    unfold put
    rw [get_cons]
  | p :: r => by
    unfold put
    by_cases h : a = p.1
    · rw [if_pos h, get_cons, get_cons]
      by_cases hq : q = a
      · rw [if_pos hq, if_pos hq]
      · rw [if_neg hq, if_neg hq, if_neg (by rw [← h]; exact hq)]
    · rw [if_neg h, get_cons, get_cons, get_put a v q r]
      by_cases hq : q = a
      · rw [if_pos hq, if_neg (by rw [hq]; exact h), if_pos hq]
      · rw [if_neg hq]
        split
        · rfl
        · rfl
theorem get_mem {m : List (Addr × Int)} {a : Addr} {v : Int} (h : get m a = some v) : ∃ p ∈ m, p.1 = a := by
  induction m with
  | nil => cases h
  | cons p r ih =>
    rw [get_cons] at h
    split at h
    · rename_i e; exact ⟨p, by simp, e.symm⟩
    · obtain ⟨q, h1, h2⟩ := ih h; exact ⟨q, by simp [h1], h2⟩
theorem put_mem {a : Addr} {v : Int} {p : Addr × Int} : ∀ {m : List (Addr × Int)}, p ∈ put a v m → p.1 = a ∨ p ∈ m
  | [], h => by simp [put] at h; exact Or.inl (by rw [h])
  | q :: r, h => by
    unfold put at h
    split at h
    · rcases List.mem_cons.1 h with rfl | h
      · exact Or.inl rfl
      · exact Or.inr (by simp [h])
    · rcases List.mem_cons.1 h with rfl | h
      · exact Or.inr (by simp)
      · rcases put_mem h with h | h
        · exact Or.inl h
        · exact Or.inr (by simp [h])

abbrev pv (p : Addr × Int) : Value × Value := (.pointer (some p.1), .int .i64 p.2)
/-- The map in block b has the entries m; the keys lie in plain blocks. -/
def PM (w : World) (b : Nat) (m : List (Addr × Int)) : Prop :=
  ∃ es clock, w.heap[b]? = some (.map es clock) ∧ es.toList.map (fun e => (e.key, e.val)) = m.map pv ∧ ∀ p ∈ m, Pl w p.1.block

theorem eq_ptr (w : World) {a b : Addr} (ha : Pl w a.block) (hb : Pl w b.block) : (Op.equal 95 (.pointer (some a)) (.pointer (some b))).run Tryz.prog w = .ok (decide (a = b)) w := by
  obtain ⟨i, hi, hi2⟩ := Option.map_eq_some_iff.1 info_tree
  have hsz : i.size ≠ 0 := by
    have := congrArg (fun x => x.2.1) hi2
    simp only at this
    rw [this]
    decide
  have h : ∀ d : Nat, (Op.equalIn (d + 1) 95 (.pointer (some a)) (.pointer (some b))).run Tryz.prog w = .ok (decide (a = b)) w := fun d => by
    by_cases hab : a = b
    · subst hab
      simp [Op.equalIn, run_underlying Tryz.underlying95, sizeOf, typeInfo, hi, run_sameAddr_same]
    · obtain ⟨ca, ta, ha⟩ := ha
      obtain ⟨cb, tb, hb⟩ := hb
      simp [Op.equalIn, run_underlying Tryz.underlying95, sizeOf, typeInfo, hi, hsz, run_sameAddr_other w hab ha hb, hab]
  exact h 9999

theorem find_ptr (w : World) {a : Addr} (ha : Pl w a.block) : ∀ (L : List MapEntry) (m : List (Addr × Int)) (i : Nat), L.map (fun e => (e.key, e.val)) = m.map pv → (∀ p ∈ m, Pl w p.1.block) →
    (Instr.findAsking 95 (.pointer (some a)) L i).run Tryz.prog w = .ok ((fnd a m i).map fun q => (q.1, .int .i64 q.2)) w
  | [], m, i, h, _ => by
    cases m with
    | nil => rfl
    | cons p r => simp at h
  | e :: L, m, i, h, hp => by
    cases m with
    | nil => simp at h
    | cons p r =>
      simp only [List.map_cons, List.cons.injEq, Prod.mk.injEq] at h
      obtain ⟨⟨h1, h2⟩, h3⟩ := h
      unfold Instr.findAsking fnd
      rw [h1]
      simp only [Sem.run_bind, eq_ptr w ha (hp p (by simp)), Result.andThen]
      by_cases hap : a = p.1
      · simp [hap, h2]
      · simp only [hap, decide_false, Bool.false_eq_true, if_false]
        exact find_ptr w ha L r (i + 1) h3 (fun q hq => hp q (by simp [hq]))

theorem findKey_ptr (w : World) {a : Addr} (ha : Pl w a.block) (L : List MapEntry) (m : List (Addr × Int)) (h : L.map (fun e => (e.key, e.val)) = m.map pv) (hp : ∀ p ∈ m, Pl w p.1.block) :
    (Instr.findKey 95 (.pointer (some a)) L).run Tryz.prog w = .ok ((fnd a m 0).map fun q => (q.1, .int .i64 q.2)) w := by
  unfold Instr.findKey
  simp only [Sem.run_bind, run_underlying Tryz.underlying95, Result.andThen]
  cases L with
  | nil =>
    cases m with
    | nil => simp [Instr.findNow, fnd]
    | cons p r => simp at h
  | cons e L =>
    have : Instr.findNow (.pointer 25) (.pointer (some a)) (e :: L) 0 = none := by
      unfold Instr.findNow
      have : Instr.sameNow (.pointer 25) (.pointer (some a)) e.key = none := by unfold Instr.sameNow; split <;> simp_all
      rw [this]
    rw [this]
    exact find_ptr w ha (e :: L) m 0 h hp

theorem check_ptr (w : World) (em : Bool) (a : Addr) : (Instr.checkKey em 10000 95 (.pointer (some a))).run Tryz.prog w = .ok () w := by
  unfold Instr.checkKey
  simp [run_underlying Tryz.underlying95, Result.andThen]

theorem PM.look {w : World} {b : Nat} {m : List (Addr × Int)} (h : PM w b m) {a : Addr} (ha : Pl w a.block) :
    (Instr.lookup 93 (.map (some b)) (.pointer (some a)) true).run Tryz.prog w = .ok (.tuple #[.int .i64 ((get m a).getD 0), .bool (get m a).isSome]) w := by
  obtain ⟨es, clock, hb, h1, h2⟩ := h
  have hf := findKey_ptr w ha es.toList m h1 h2
  unfold get
  cases hc : fnd a m 0 with
  | none =>
    rw [hc] at hf
    simp [Instr.lookup, run_underlying Tryz.underlying93, MapKept.run_getObj_map hb, check_ptr, hf, Result.andThen]
  | some q =>
    rw [hc] at hf
    simp [Instr.lookup, run_underlying Tryz.underlying93, MapKept.run_getObj_map hb, check_ptr, hf, Result.andThen]
theorem PM.look1 {w : World} {b : Nat} {m : List (Addr × Int)} (h : PM w b m) {a : Addr} (ha : Pl w a.block) :
    (Instr.lookup 93 (.map (some b)) (.pointer (some a)) false).run Tryz.prog w = .ok (.int .i64 ((get m a).getD 0)) w := by
  obtain ⟨es, clock, hb, h1, h2⟩ := h
  have hf := findKey_ptr w ha es.toList m h1 h2
  unfold get
  cases hc : fnd a m 0 with
  | none =>
    rw [hc] at hf
    simp [Instr.lookup, run_underlying Tryz.underlying93, MapKept.run_getObj_map hb, check_ptr, hf, Result.andThen]
  | some q =>
    rw [hc] at hf
    simp [Instr.lookup, run_underlying Tryz.underlying93, MapKept.run_getObj_map hb, check_ptr, hf, Result.andThen]

theorem fnd_at {a : Addr} : ∀ {m : List (Addr × Int)} {i j : Nat} {v : Int}, fnd a m i = some (j, v) → ∃ k, j = i + k ∧ m[k]? = some (a, v) ∧ ∀ u, put a u m = m.set k (a, u)
  | [], _, _, _, h => by cases h
  | p :: r, i, j, v, h => by
    unfold fnd at h
    split at h
    · rename_i e
      cases h
      refine ⟨0, rfl, by rw [e]; rfl, fun u => ?_⟩
      unfold put
      rw [if_pos e]; rfl
    · rename_i e
      obtain ⟨k, h1, h2, h3⟩ := fnd_at h
      refine ⟨k + 1, by omega, by simpa using h2, fun u => ?_⟩
      unfold put
      rw [if_neg e, h3]; rfl
theorem fnd_no {a : Addr} : ∀ {m : List (Addr × Int)} {i : Nat}, fnd a m i = none → ∀ u, put a u m = m ++ [(a, u)]
  | [], _, _, _ => rfl
  | p :: r, i, h, u => by
    unfold fnd at h
    split at h
    · cases h
    · rename_i e
      unfold put
      rw [if_neg e, fnd_no h u]; rfl

theorem PM.store {w : World} {b : Nat} {m : List (Addr × Int)} (h : PM w b m) {a : Addr} (ha : Pl w a.block) (v : Int) :
    ∃ w', (Instr.mapUpdate 93 (.map (some b)) (.pointer (some a)) (.int .i64 v)).run Tryz.prog w = .ok () w' ∧ PM w' b (put a v m) ∧ w.mapTurned w' b := by
  obtain ⟨es, clock, hb, h1, h2⟩ := h
  have hf := findKey_ptr w ha es.toList m h1 h2
  have hpl : ∀ (o : Obj) (j : Nat), Pl w j → Pl (ChangeMaps.setBlock w b o) j := fun o j hj => by
    refine hj.of_block (ChangeMaps.heap_setBlock_other hb _ ?_)
    intro e
    obtain ⟨c, t, hc⟩ := hj
    rw [e, hb] at hc
    cases hc
  cases hc : fnd a m 0 with
  | none =>
    rw [hc] at hf
    refine ⟨ChangeMaps.setBlock w b (.map (es.push ⟨.pointer (some a), .int .i64 v, clock⟩) (clock + 1)), ?_, ⟨_, _, ChangeMaps.heap_setBlock_same hb _, ?_, ?_⟩, ⟨es, clock, _, _, hb, rfl⟩⟩
    · simp [Instr.mapUpdate, run_underlying Tryz.underlying93, MapKept.run_getObj_map hb, check_ptr, hf, MapKept.run_setObj_map _ hb, Result.andThen, ChangeMaps.setBlock]
    · rw [fnd_no hc]
      simp [h1]
    · intro p hp
      rcases put_mem hp with e | hp
      · rw [e]; exact hpl _ _ ha
      · exact hpl _ _ (h2 p hp)
  | some q =>
    rw [hc] at hf
    obtain ⟨j, u⟩ := q
    obtain ⟨k, hk, hm, hput⟩ := fnd_at hc
    rw [Nat.zero_add] at hk
    subst hk
    have hlen : es.toList.length = m.length := by have := congrArg List.length h1; simpa using this
    have hlt : j < es.toList.length := by rw [hlen]; exact (List.getElem?_eq_some_iff.1 hm).1
    have hj : es[j]? = some es.toList[j] := by
      rw [← Array.getElem?_toList, List.getElem?_eq_getElem hlt]
    have hkey : es.toList[j].key = .pointer (some a) := by
      have := congrArg (fun l => l[j]?) h1
      simp only [List.getElem?_map, hm, List.getElem?_eq_getElem hlt, Option.map_some, Option.some.injEq, Prod.mk.injEq] at this
      exact this.1
    have hkey2 : (es[j]'(by simpa using hlt)).key = .pointer (some a) := by simpa using hkey
    have hst : (Instr.keyThatStays (.pointer (some a)) (.pointer (some a))).run Tryz.prog w = .ok (.pointer (some a)) w := by
      unfold Instr.keyThatStays Instr.sameBits
      simp
    refine ⟨ChangeMaps.setBlock w b (.map (es.modify j fun e => { e with key := .pointer (some a), val := .int .i64 v }) clock), ?_, ⟨_, _, ChangeMaps.heap_setBlock_same hb _, ?_, ?_⟩, ⟨es, clock, _, _, hb, rfl⟩⟩
    · simp [Instr.mapUpdate, run_underlying Tryz.underlying93, MapKept.run_getObj_map hb, check_ptr, hf, hj, hkey2, hst, MapKept.run_setObj_map _ hb, Result.andThen, ChangeMaps.setBlock]
    · rw [hput]
      apply List.ext_getElem?
      intro i
      have hi := congrArg (fun l => l[i]?) h1
      simp only [List.getElem?_map] at hi
      simp only [List.getElem?_map, Array.getElem?_toList, Array.getElem?_modify, List.getElem?_set]
      rw [← Array.getElem?_toList]
      by_cases hij : j = i
      · subst hij
        rw [if_pos rfl, if_pos rfl, if_pos (by rw [← hlen]; exact hlt), List.getElem?_eq_getElem hlt]
        rfl
      · rw [if_neg hij, if_neg hij]
        exact hi
    · intro p hp
      rcases put_mem hp with e | hp
      · rw [e]; exact hpl _ _ ha
      · exact hpl _ _ (h2 p hp)

theorem PM.lt {w : World} {b : Nat} {m : List (Addr × Int)} (h : PM w b m) : b < w.heap.size := by
  obtain ⟨es, clock, hb, _⟩ := h
  exact (Array.getElem?_eq_some_iff.1 hb).1
theorem PM.ne {w : World} {b j : Nat} {m : List (Addr × Int)} (h : PM w b m) (hj : Pl w j) : j ≠ b := by
  obtain ⟨es, clock, hb, _⟩ := h
  obtain ⟨c, t, hc⟩ := hj
  intro e
  rw [e, hb] at hc
  cases hc
theorem PM.to {w w' : World} {b : Nat} {m : List (Addr × Int)} (h : PM w b m) (hb : Below w.heap.size w w') : PM w' b m := by
  have hl := h.lt
  obtain ⟨es, clock, h0, h1, h2⟩ := h
  exact ⟨es, clock, (hb.block b hl).trans h0, h1, fun p hp => (h2 p hp).below hb⟩
theorem PM.made (w : World) : PM (w.alloc (.map #[] 0)) w.heap.size [] := ⟨#[], 0, heap_alloc_new w _, rfl, fun p hp => by simp at hp⟩
end Go.Proofs.YtcpojagfnpajeaaGreatDoorR.Ps

namespace Go.Proofs.YtcpojagfnpajeaaGreatDoorR.Ps
open Go.RowKit

/-- At address p in w stands the tree x, no higher than n; all blocks are plain. -/
def TreeAt (w : World) (n : Nat) (p : Addr) (x : Tree) : Prop :=
  x.ok ∧ ∃ b o sa cap, p = ⟨b, o, none⟩ ∧ Pl w b ∧ w.cell? ⟨b, o, none⟩ = some (.int .i64 x.k) ∧ w.cell? ⟨b, o + 1, none⟩ = some (.string x.t) ∧ w.cell? ⟨b, o + 2, none⟩ = some (.slice sa x.c.length cap) ∧ Kids w (Pl w) n sa x.c

theorem Kids.tree {w : World} {n : Nat} {b o : Nat} {l : List Tree} (h : Kids w (Pl w) n (some ⟨b, o, none⟩) l) {i : Nat} {x : Tree} (hx : l[i]? = some x) : ∃ m, m < n ∧ TreeAt w m ⟨b, o + i * 3, none⟩ x := by
  obtain ⟨h0, m, b', o', sa, cap, hm, e, h1, h2, h3, h4, h5⟩ := Kids.at h hx
  cases e
  exact ⟨m, hm, h0, b, o + i * 3, sa, cap, rfl, h1, h2, h3, h4, h5⟩

theorem TreeAt.kept {w w' : World} {n : Nat} {p : Addr} {x : Tree} (h : TreeAt w n p x) (hb : ∀ j, Pl w j → w'.heap[j]? = w.heap[j]?) : TreeAt w' n p x := by
  obtain ⟨h0, b, o, sa, cap, e, h1, h2, h3, h4, h5⟩ := h
  refine ⟨h0, b, o, sa, cap, e, h1.of_block (hb b h1), (World.cell?_of_block (hb b h1)).trans h2, (World.cell?_of_block (hb b h1)).trans h3, (World.cell?_of_block (hb b h1)).trans h4, ?_⟩
  exact (h5.kept fun j _ hj => World.cell?_of_block (hb j hj)).up (fun j hj => hj.of_block (hb j hj)) (Nat.le_refl _)

theorem kids_one {w : World} {S T : Nat → Prop} : ∀ {n m : Nat} {a : Option Addr} {l k : List Tree}, Kids w S n a l → Kids w T m a k → l.length = k.length → l = k
  | 0, _, _, l, k, h, _, hl => by
    have : l = [] := h
    subst this
    exact (List.eq_nil_of_length_eq_zero hl.symm).symm
  | n + 1, m, a, l, k, h, h', hl => by
    apply List.ext_getElem? 
    intro i
    cases hx : l[i]? with
    | none =>
      rw [List.getElem?_eq_none_iff] at hx
      exact (List.getElem?_eq_none (by omega)).symm
    | some x =>
      have hi : i < k.length := by have := (List.getElem?_eq_some_iff.1 hx).1; omega
      obtain ⟨y, hy⟩ : ∃ y, k[i]? = some y := ⟨_, List.getElem?_eq_getElem hi⟩
      obtain ⟨_, b, o, sa, cap, e1, _, p0, p1, p2, hk⟩ := h i x hx
      obtain ⟨_, m', b', o', sa', cap', _, e2, _, q0, q1, q2, hk'⟩ := Kids.at h' hy
      rw [e1] at e2
      cases e2
      rw [p0] at q0
      rw [p1] at q1
      rw [p2] at q2
      have ek : x.k = y.k := by simpa using q0
      have et : x.t = y.t := by simpa using q1
      have es := Value.slice.inj (Option.some.inj q2)
      have ec : x.c = y.c := kids_one hk (by rw [es.1]; exact hk') es.2.1
      rw [hy, tree_ext2 ek et ec]
where
  tree_ext2 {x y : Tree} (hk : x.k = y.k) (ht : x.t = y.t) (hc : x.c = y.c) : x = y := by rw [Tree.eta x, Tree.eta y, hk, ht, hc]

theorem TreeAt.one {w : World} {n m : Nat} {p : Addr} {x y : Tree} (h : TreeAt w n p x) (h' : TreeAt w m p y) : x = y := by
  obtain ⟨_, b, o, sa, cap, e1, _, p0, p1, p2, hk⟩ := h
  obtain ⟨_, b', o', sa', cap', e2, _, q0, q1, q2, hk'⟩ := h'
  rw [e1] at e2
  cases e2
  rw [p0] at q0
  rw [p1] at q1
  rw [p2] at q2
  have ek : x.k = y.k := by simpa using q0
  have et : x.t = y.t := by simpa using q1
  have es := Value.slice.inj (Option.some.inj q2)
  have ec : x.c = y.c := kids_one hk (by rw [es.1]; exact hk') es.2.1
  rw [Tree.eta x, Tree.eta y, ek, et, ec]

/-- How long the source of a tree is. -/
def len (x : Tree) : Nat := (srcT x).length
theorem len_eq (x : Tree) : len x = (if x.k < 100 then 0 else x.t.size) + (srcs x.c).length := by
  unfold len
  rw [srcT_eq, List.length_append]
  split
  · rfl
  · rw [Lx.L_len]
theorem srcs_take {c : List Tree} {k : Nat} {y : Tree} (h : c[k]? = some y) : (srcs (c.take (k + 1))).length = (srcs (c.take k)).length + len y := by
  rw [List.take_add_one, h, srcs_append, List.length_append]
  simp [srcs, len]
theorem srcs_take_le (c : List Tree) (k : Nat) : (srcs (c.take k)).length ≤ (srcs c).length := by
  have h := congrArg List.length (srcs_append (c.take k) (c.drop k))
  rw [List.take_append_drop, List.length_append] at h
  omega
theorem len_le {c : List Tree} {k : Nat} {y : Tree} (h : c[k]? = some y) : len y ≤ (srcs c).length := by
  have h1 := srcs_take h
  have h2 := srcs_take_le c (k + 1)
  omega

/-- The map m knows the tree x at p and all below it. -/
inductive Full (w : World) (m : List (Addr × Int)) : Addr → Tree → Prop
  | mk {b o : Nat} {x : Tree} {n : Nat} (ht : TreeAt w n ⟨b, o, none⟩ x) (hl : len x ≤ 2000000) (hg : get m ⟨b, o, none⟩ = some (len x : Int))
      (hk : ∀ i c b' o' cap, x.c[i]? = some c → w.cell? ⟨b, o + 2, none⟩ = some (.slice (some ⟨b', o', none⟩) x.c.length cap) → Full w m ⟨b', o' + i * 3, none⟩ c) : Full w m ⟨b, o, none⟩ x

theorem Full.get {w : World} {m : List (Addr × Int)} {p : Addr} {x : Tree} (h : Full w m p x) : Ps.get m p = some (len x : Int) := by
  cases h with | mk ht hl hg hk => exact hg
theorem Full.at {w : World} {m : List (Addr × Int)} {p : Addr} {x : Tree} (h : Full w m p x) : ∃ n, TreeAt w n p x := by
  cases h with | mk ht hl hg hk => exact ⟨_, ht⟩
/-- More entries, none lost but one that is not yet known. -/
theorem Full.more {w : World} {m m' : List (Addr × Int)} {p : Addr} {x : Tree} (h : Full w m p x) (hm : ∀ q v, Ps.get m q = some v → v ≠ 2147483647 → Ps.get m' q = some v) : Full w m' p x := by
  induction h with
  | mk ht hl hg hk ih => exact .mk ht hl (hm _ _ hg (by omega)) (fun i c b' o' cap h1 h2 => ih i c b' o' cap h1 h2)

theorem Full.put {w : World} {m : List (Addr × Int)} {p q : Addr} {y : Tree} (h : Full w m q y) (hp : Ps.get m p = some 2147483647) (v : Int) : Full w (put p v m) q y := by
  refine h.more fun r u hr hne => ?_
  rw [get_put]
  split
  · rename_i e; rw [e, hp] at hr; exact absurd (Option.some.inj hr).symm hne
  · exact hr

/-- What the map m says of trees no higher than h is known all below. -/
def Know (w : World) (h : Nat) (m : List (Addr × Int)) : Prop := ∀ p n x v, TreeAt w n p x → x.height ≤ h → Ps.get m p = some v → Full w m p x
/-- m' is m and trees that are known. -/
def Grew (w : World) (m m' : List (Addr × Int)) : Prop := (∀ q v, Ps.get m q = some v → Ps.get m' q = some v) ∧ ∀ q v, Ps.get m' q = some v → Ps.get m q = some v ∨ ∃ y, Full w m' q y
theorem Grew.refl (w : World) (m : List (Addr × Int)) : Grew w m m := ⟨fun _ _ h => h, fun _ _ h => Or.inl h⟩
theorem Grew.trans {w : World} {a b c : List (Addr × Int)} (h : Grew w a b) (h' : Grew w b c) : Grew w a c := by
  refine ⟨fun q v hq => h'.1 q v (h.1 q v hq), fun q v hq => ?_⟩
  rcases h'.2 q v hq with h1 | h1
  · rcases h.2 q v h1 with h2 | ⟨y, h2⟩
    · exact Or.inl h2
    · exact Or.inr ⟨y, h2.more fun r u hr _ => h'.1 r u hr⟩
  · exact Or.inr h1
theorem Know.grew {w : World} {h : Nat} {m m' : List (Addr × Int)} (hk : Know w h m) (hg : Grew w m m') : Know w h m' := by
  intro p n x v ht hh hv
  rcases hg.2 p v hv with h1 | ⟨y, h1⟩
  · exact (hk p n x v ht hh h1).more fun r u hr _ => hg.1 r u hr
  · obtain ⟨n', hy⟩ := h1.at
    rw [ht.one hy]
    exact h1
theorem Know.less {w : World} {h h' : Nat} {m : List (Addr × Int)} (hk : Know w h m) (hle : h' ≤ h) : Know w h' m := fun p n x v ht hh hv => hk p n x v ht (by omega) hv

/-- A tree is begun: it stands in the map without a length. -/
theorem Know.begun {w : World} {m : List (Addr × Int)} {p : Addr} {x : Tree} {n : Nat} (ht : TreeAt w n p x) (hk : Know w x.height m) (hn : Ps.get m p = none) : Know w (x.height - 1) (put p 2147483647 m) := by
  intro q n' y v hy hh hv
  rw [get_put] at hv
  split at hv
  · rename_i e
    rw [e] at hy
    have := hy.one ht
    have := height_eq x
    subst y
    omega
  · refine (hk q n' y v hy (by omega) hv).more fun r u hr _ => ?_
    rw [get_put]
    split
    · rename_i e; rw [e, hn] at hr; cases hr
    · exact hr

/-- .. and complete. -/
theorem Grew.done {w : World} {m mk : List (Addr × Int)} {p : Addr} {x : Tree} (hn : Ps.get m p = none) (hg : Grew w (put p 2147483647 m) mk) (hx : Full w (put p (len x : Int) mk) p x) : Grew w m (put p (len x : Int) mk) := by
  have hp : Ps.get mk p = some 2147483647 := hg.1 p _ (by rw [get_put, if_pos rfl])
  have hmore : ∀ q v, Ps.get mk q = some v → v ≠ 2147483647 → Ps.get (put p (len x : Int) mk) q = some v := fun q v hq hne => by
    rw [get_put]
    split
    · rename_i e; rw [e, hp] at hq; exact absurd (Option.some.inj hq).symm hne
    · exact hq
  refine ⟨fun q v hq => ?_, fun q v hq => ?_⟩
  · have hne : q ≠ p := fun e => by rw [e, hn] at hq; cases hq
    rw [get_put, if_neg hne]
    exact hg.1 q v (by rw [get_put, if_neg hne]; exact hq)
  · by_cases hne : q = p
    · exact Or.inr ⟨x, by rw [hne]; exact hx⟩
    · rw [get_put, if_neg hne] at hq
      rcases hg.2 q v hq with h1 | ⟨y, h1⟩
      · rw [get_put, if_neg hne] at h1; exact Or.inl h1
      · exact Or.inr ⟨y, h1.more hmore⟩

set_option maxHeartbeats 1000000 in
theorem text_any (p : Addr) (x : Tree) (n : Nat) (w : World) (h : TreeAt w n p x) : Calls Tryz.prog 101 #[.pointer (some p)] w fun e w' => e = .returned (.string (if x.k < 100 then ⟨#[]⟩ else x.t)) ∧ w' = w := by
  obtain ⟨_, b, o, sa, cap, rfl, _, h0, h1, _, _⟩ := h
  generalize x.k = k at *
  generalize x.t = t at *
  by_cases hk : k < 100
  · go_enter Tryz.func101, Tryz.ntmps101
    go_wp2_with fail
    go_ret
    exact ⟨rfl, rfl⟩
  · go_enter Tryz.func101, Tryz.ntmps101
    go_wp2_with fail
    go_ret
    exact ⟨rfl, rfl⟩
end Go.Proofs.YtcpojagfnpajeaaGreatDoorR.Ps

namespace Go.Proofs.YtcpojagfnpajeaaGreatDoorR.Ps
open Go.RowKit

/-- What lengthOf leaves. -/
def LenPost (w0 : World) (mb : Nat) (m : List (Addr × Int)) (p : Addr) (x : Tree) (w : World) (e : Ending) (w' : World) : Prop :=
  e = .returned (.int .i64 (len x : Int)) ∧ ∃ m', PM w' mb m' ∧ Grew w0 m m' ∧ Full w0 m' p x ∧ w.grownBy w' (some mb)

theorem same_grown {w0 w w' : World} {mb : Nat} {m : List (Addr × Int)} (hs : ∀ j, Pl w0 j → w.heap[j]? = w0.heap[j]?) (hm : PM w mb m) (hg : w.grownBy w' (some mb)) : ∀ j, Pl w0 j → w'.heap[j]? = w0.heap[j]? := fun j hj => by
  have h1 : Pl w j := hj.of_block (hs j hj)
  rw [hg.block j h1.lt (fun e => hm.ne h1 (Option.some.inj e)), hs j hj]

set_option maxRecDepth 100000 in
set_option maxHeartbeats 4000000 in
theorem len_any (w0 : World) (mb : Nat) : ∀ (n : Nat) (x : Tree) (p : Addr) (m : List (Addr × Int)) (w : World), TreeAt w0 n p x → (∀ j, Pl w0 j → w.heap[j]? = w0.heap[j]?) → PM w mb m → Know w0 x.height m → len x ≤ 2000000 →
    Calls Tryz.prog 51 #[.pointer (some p), .map (some mb)] w (LenPost w0 mb m p x w) := by
  intro n
  induction n using Nat.strongRecOn with
  | ind n ih =>
  intro x p m w ht hs hm hk hl
  have HT0 := Lib.hid ht
  have HS := Lib.hid hs
  have HM := Lib.hid hm
  have HK := Lib.hid hk
  have HL := Lib.hid hl
  have htw := ht.kept hs
  have HTW := Lib.hid htw
  obtain ⟨hok, b, o, sa, cap, rfl, hpl, _, _, h2, hkids⟩ := htw
  have HPL := Lib.hid hpl
  cases hg : Ps.get m ⟨b, o, none⟩ with
  | some v =>
    have hf := hk _ _ _ _ ht (Nat.le_refl _) hg
    have hv : v = (len x : Int) := by have := hf.get; rw [hg] at this; exact Option.some.inj this
    have hlook := hm.look (a := ⟨b, o, none⟩) hpl
    rw [hg] at hlook
    simp only [Option.getD_some, Option.isSome_some] at hlook
    have HF := Lib.hid hf
    rw [hv] at hlook
    clear hs hm hk hf hkids hv hg ht hpl h2
    go_enter Tryz.func51, Tryz.ntmps51
    go_wp2_with fail
    go_ret
    exact ⟨rfl, m, HM.out, Grew.refl _ _, HF.out, ⟨rfl, rfl, rfl, Nat.le_refl _, fun _ _ _ => rfl⟩⟩
  | none =>
    have hlook := hm.look (a := ⟨b, o, none⟩) hpl
    rw [hg] at hlook
    simp only [Option.getD_none, Option.isSome_none] at hlook
    obtain ⟨w1, hst, hm1, htn⟩ := hm.store (a := ⟨b, o, none⟩) hpl 2147483647
    have hgr1 := htn.grown
    have HM1 := Lib.hid hm1
    have HG1 := Lib.hid hgr1
    have HB := Lib.hid (Know.begun ht hk hg)
    have HN := Lib.hid hg
    have HS1 : Hid (∀ j, Pl w0 j → w1.heap[j]? = w0.heap[j]?) := same_grown hs hm hgr1
    have HT1 := Lib.hid (ht.kept HS1.out)
    have h21 : w1.cell? ⟨b, o + 2, none⟩ = some (.slice sa x.c.length cap) := (World.cell?_of_block (hgr1.block b hpl.lt (fun e => hm.ne hpl (Option.some.inj e)))).trans h2
    have HC0 : Hid (w0.cell? ⟨b, o + 2, none⟩ = some (.slice sa x.c.length cap)) := by
      obtain ⟨_, b', o', sa', cap', e, hp0, _, _, hc, _⟩ := ht
      cases e
      exact (World.cell?_of_block (HS.out b hp0)).symm.trans h2
    have hlx := HL.out
    rw [len_eq] at hlx
    have HLE : Hid (len x = (if x.k < 100 then 0 else x.t.size) + (srcs x.c).length) := len_eq x
    have HK0 : Hid (Kids w0 (Pl w0) n sa x.c) := by
      obtain ⟨_, b', o', sa', cap', e, hp0, _, _, hc, hk0⟩ := ht
      cases e
      have := Option.some.inj (hc.symm.trans HC0.out)
      rw [(Value.slice.inj this).1] at hk0
      exact hk0
    have HP0 : Hid (Pl w0 b) := by
      obtain ⟨_, b', o', sa', cap', e, hp0, _⟩ := ht
      cases e
      exact hp0
    have hlen : x.c.length ≤ maxLen := hok.2.2
    unfold maxLen at hlen
    clear hs hm hk hg htn hgr1 hm1 ht h2
    go_enter Tryz.func51, Tryz.ntmps51
    go_wp2_with fail
    refine (text_any _ x n w1 HT1.out).mono ?_
    rintro e w2 ⟨rfl, rfl⟩
    obtain ⟨t0, hT0⟩ : ∃ t0 : ByteArray, t0 = (if x.k < 100 then ⟨#[]⟩ else x.t) := ⟨_, rfl⟩
    have hsz : t0.size = (if x.k < 100 then 0 else x.t.size) := by rw [hT0]; split <;> rfl
    rw [← hT0]
    rw [← hsz] at hlx HLE
    clear hT0 hsz
    have hmin : min (2147483647 : Int) (t0.size : Int) = t0.size := by omega
    generalize hcc : x.c = c at *
    go_wp2_with fail
    go_loopw [7, 28] (fun s i wr => ∃ (k : Nat) (mk : List (Addr × Int)), k ≤ c.length ∧ i = .int .i64 k ∧ s = .int .i64 ((t0.size : Int) + ((srcs (c.take k)).length : Nat)) ∧ Hid (PM wr mb mk) ∧ Hid (Grew w0 (put ⟨b, o, none⟩ 2147483647 m) mk) ∧ Hid (w2.grownBy wr (some mb)) ∧
        Hid (∀ i y b' o', i < k → c[i]? = some y → sa = some ⟨b', o', none⟩ → Full w0 mk ⟨b', o' + i * 3, none⟩ y))
      (fun _ i _ => c.length - (intOf i).toNat)
    case atStart => exact ⟨0, _, Nat.zero_le _, rfl, by simp [srcs], HM1, Grew.refl _ _, ⟨rfl, rfl, rfl, Nat.le_refl _, fun _ _ _ => rfl⟩, fun i y b' o' hi => absurd hi (by omega)⟩
    case round =>
      obtain ⟨k, mk, hk, rfl, rfl, hPM, hGR, hGB, hFU⟩ := hrel
      have h2r : wr.cell? ⟨b, o + 2, none⟩ = some (.slice sa c.length cap) := by
        have hp2 : Pl w2 b := HP0.out.of_block (HS1.out b HP0.out)
        exact (World.cell?_of_block (hGB.out.block b hp2.lt (fun e => HM1.out.ne hp2 (Option.some.inj e)))).trans h21
      have HSR : Hid (∀ j, Pl w0 j → wr.heap[j]? = w0.heap[j]?) := same_grown HS1.out HM1.out hGB.out
      by_cases hlt : k < c.length
      · have hx : c[k]? = some c[k] := List.getElem?_eq_getElem hlt
        obtain ⟨y, hY⟩ : ∃ y, y = c[k] := ⟨_, rfl⟩
        rw [← hY] at hx
        clear hY
        obtain ⟨_, _, b', o', _, _, _, rfl, _⟩ := Kids.at HK0.out hx
        obtain ⟨m', hm', ht'⟩ := Kids.tree HK0.out hx
        have HT' := Lib.hid ht'
        have hly := len_le hx
        have hst1 := Lib.hid (srcs_take hx)
        have hle := srcs_take_le c (k + 1)
        have HX := Lib.hid hx
        have hh := height_le_of hx
        have hhx := height_eq x
        rw [hcc] at hhx
        have HKN : Hid (Know w0 y.height mk) := (HB.out.grew hGR.out).less (by omega)
        have hst1' := hst1.out
        clear hx ht' hh hhx
        have hk0 : (0 : Int) ≤ (k : Int) := by omega
        have hk1 : (k : Int) < (c.length : Int) := by omega
        go_wp2_with (go_at_call 51; refine (ih m' hm' y _ mk wr HT'.out HSR.out hPM.out HKN.out (by omega)).mono ?_; rintro e w3 ⟨rfl, m3, hp3, hg3, hf3, hb3⟩)
        case roundEnd =>
          refine ⟨⟨k + 1, m3, by omega, by go_num, ?_, hp3, hGR.out.trans hg3, hGB.out.trans hb3, fun i y' b'' o'' hi hy e => ?_⟩, by simp [intOf]; omega⟩
          · rw [hst1']
            simp
            omega
          · by_cases hik : i < k
            · exact (hFU.out i y' b'' o'' hik hy e).more fun q v hq _ => hg3.1 q v hq
            · have : i = k := by omega
              subst this
              rw [HX.out] at hy
              cases hy
              cases e
              exact hf3
      · have hkl : k = c.length := by omega
        have hval : (t0.size : Int) + ((srcs (c.take k)).length : Nat) = (len x : Int) := by
          rw [hkl, List.take_length, HLE.out]; omega
        rw [hval]
        have hpr : Pl wr b := HP0.out.of_block (HSR.out b HP0.out)
        obtain ⟨w4, hst4, hm4, htn4⟩ := hPM.out.store (a := ⟨b, o, none⟩) hpr (len x : Int)
        have hgr4 := Lib.hid htn4.grown
        have HM4 := Lib.hid hm4
        clear htn4 hm4
        go_wp2_with fail
        go_ret
        have hp : Ps.get mk ⟨b, o, none⟩ = some 2147483647 := hGR.out.1 _ _ (by rw [get_put, if_pos rfl])
        have hfull : Full w0 (put ⟨b, o, none⟩ (len x : Int) mk) ⟨b, o, none⟩ x := by
          refine .mk HT0.out HL.out (by rw [get_put, if_pos rfl]) (fun i y b' o' cap' h1 h2 => ?_)
          rw [hcc] at h1 h2
          rw [HC0.out] at h2
          have e := (Value.slice.inj (Option.some.inj h2)).1
          exact (hFU.out i y b' o' (by have := (List.getElem?_eq_some_iff.1 h1).1; omega) h1 e).put hp _
        exact ⟨rfl, _, HM4.out, Grew.done HN.out hGR.out hfull, hfull, (HG1.out.trans hGB.out).trans hgr4.out⟩
end Go.Proofs.YtcpojagfnpajeaaGreatDoorR.Ps

namespace Go.Proofs.YtcpojagfnpajeaaGreatDoorR.Ps
open Go.RowKit

theorem mem_get {m : List (Addr × Int)} {p : Addr × Int} (h : p ∈ m) : ∃ v, get m p.1 = some v := by
  induction m with
  | nil => simp at h
  | cons q r ih =>
    rw [get_cons]
    split
    · exact ⟨_, rfl⟩
    · rcases List.mem_cons.1 h with rfl | h
      · rename_i e; exact absurd rfl e
      · exact ih h
theorem PM.low {w w' : World} {b B : Nat} {m : List (Addr × Int)} (h : PM w b m) (hb : b < B) (hk : ∀ q v, get m q = some v → q.block < B) (hB : Below B w w') : PM w' b m := by
  obtain ⟨es, clock, h0, h1, h2⟩ := h
  refine ⟨es, clock, (hB.block b hb).trans h0, h1, fun p hp => ?_⟩
  obtain ⟨v, hv⟩ := mem_get hp
  exact (h2 p hp).of_block (hB.block _ (hk _ _ hv))

set_option maxRecDepth 100000 in
set_option maxHeartbeats 4000000 in
theorem wsrc_any (w0 : World) (mb bb B : Nat) (m : List (Addr × Int)) (hB0 : w0.heap.size ≤ B) (hmb : mb < B) (hkeys : ∀ q v, get m q = some v → q.block < B) : ∀ (n : Nat) (x : Tree) (p : Addr) (acc : List UInt8) (w : World), TreeAt w0 n p x → Full w0 m p x → (∀ j, Pl w0 j → w.heap[j]? = w0.heap[j]?) → PM w mb m →
    B ≤ w.heap.size → Hid (Lib.IsBuilder 99 5 B bb (Lib.byteCells acc) w) → acc.length + len x ≤ 4000000 →
    Calls Tryz.prog 53 #[.pointer (some ⟨bb, 0, none⟩), .pointer (some p), .map (some mb)] w fun e w' => e = .returned (.tuple #[]) ∧ Hid (Lib.IsBuilder 99 5 B bb (Lib.byteCells (acc ++ srcT x)) w') ∧ Below B w w' := by
  intro n
  induction n using Nat.strongRecOn with
  | ind n ih =>
  intro x p acc w ht hf hs hm hBw hbd hl
  have HS := Lib.hid hs
  have HM := Lib.hid hm
  have HT0 := Lib.hid ht
  have htw := ht.kept hs
  have HTW := Lib.hid htw
  have HMore : Hid (∀ W, Below B w W → (∀ j, Pl w0 j → W.heap[j]? = w0.heap[j]?) ∧ PM W mb m) := fun W hW => ⟨fun j hj => (hW.block j (by have := hj.lt; omega)).trans (HS.out j hj), HM.out.low hmb hkeys hW⟩
  obtain ⟨hok, b, o, sa, cap, rfl, hpl, _, _, h2, hkids⟩ := htw
  have hlen : x.c.length ≤ maxLen := hok.2.2
  unfold maxLen at hlen
  have hlook := hm.look1 (a := ⟨b, o, none⟩) hpl
  rw [hf.get] at hlook
  simp only [Option.getD_some] at hlook
  cases hf with
  | mk ht2 hl2 hg hkk =>
  have HKK := Lib.hid hkk
  clear hkk ht2 hg hs hm
  by_cases h0 : len x = 0
  · have hsrc : Hid (srcT x = []) := List.eq_nil_of_length_eq_zero h0
    rw [h0] at hlook
    have hlook' : (Instr.lookup 93 (.map (some mb)) (.pointer (some ⟨b, o, none⟩)) false).run Tryz.prog w = .ok (.int .i64 0) w := hlook
    clear hlook hl hl2 h0 hkids ht h2
    go_enter Tryz.func53, Tryz.ntmps53
    go_wp2_with fail
    first | go_end0 | refine bodyPost_ret (results_none rfl _ _ _) rfl ?_
    exact ⟨rfl, by rw [hsrc.out, List.append_nil]; exact hbd, Below.refl _ _⟩
  · have hpos : (0 : Int) < (len x : Int) := by omega
    have hll := hl
    rw [len_eq] at hll
    have HC0 : Hid (w0.cell? ⟨b, o + 2, none⟩ = some (.slice sa x.c.length cap)) := by
      obtain ⟨_, b', o', sa', cap', e, hp0, _, _, hc, _⟩ := ht
      cases e
      exact (World.cell?_of_block (HS.out b hp0)).symm.trans h2
    have HK0 : Hid (Kids w0 (Pl w0) n sa x.c) := by
      obtain ⟨_, b', o', sa', cap', e, hp0, _, _, hc, hk0⟩ := ht
      cases e
      have := Option.some.inj (hc.symm.trans HC0.out)
      rw [(Value.slice.inj this).1] at hk0
      exact hk0
    have HSRC : Hid (srcT x = (if x.k < 100 then (⟨#[]⟩ : ByteArray) else x.t).data.toList ++ srcs x.c) := by
      show _ = _
      rw [srcT_eq]
      split <;> rfl
    have hplB : b < B := by
      obtain ⟨_, b', o', sa', cap', e, hp0, _⟩ := ht
      cases e
      have := hp0.lt
      omega
    clear ht hkids hl hl2 h0
    go_enter Tryz.func53, Tryz.ntmps53
    go_wp2_with fail
    refine (text_any _ x n w HTW.out).mono ?_
    rintro e w2 ⟨rfl, rfl⟩
    obtain ⟨t0, hT0⟩ : ∃ t0 : ByteArray, t0 = (if x.k < 100 then ⟨#[]⟩ else x.t) := ⟨_, rfl⟩
    have hsz : t0.size = (if x.k < 100 then 0 else x.t.size) := by rw [hT0]; split <;> rfl
    rw [← hT0] at HSRC ⊢
    rw [← hsz] at hll
    clear hT0 hsz
    generalize hcc : x.c = c at *
    go_wp2_with fail
    refine (Te.write_bytes B bb acc t0 w2 hbd (by omega) hBw).mono ?_
    rintro e w3 ⟨rfl, hbd3, hb3, _⟩
    have hB3 : B ≤ w3.heap.size := Nat.le_trans hBw hb3.size
    have h23 : w3.cell? ⟨b, o + 2, none⟩ = some (.slice sa c.length cap) := (hb3.cell (p := ⟨b, o + 2, none⟩) hplB).trans h2
    clear hlook h2
    go_wp2_with fail
    go_loopw [20] (fun i wr => ∃ k : Nat, k ≤ c.length ∧ i = .int .i64 k ∧ Hid (Lib.IsBuilder 99 5 B bb (Lib.byteCells (acc ++ t0.data.toList ++ srcs (c.take k))) wr) ∧ Below B w2 wr)
      (fun i _ => c.length - (intOf i).toNat)
    case atStart => exact ⟨0, Nat.zero_le _, rfl, by simpa [srcs] using hbd3, hb3⟩
    case round =>
      obtain ⟨k, hk, rfl, hbk, hbw⟩ := hrel
      have h2r : wr.cell? ⟨b, o + 2, none⟩ = some (.slice sa c.length cap) := by
        have h2 : w2.cell? ⟨b, o + 2, none⟩ = some (.slice sa c.length cap) := (hb3.cell (p := ⟨b, o + 2, none⟩) hplB).symm.trans h23
        exact (hbw.cell (p := ⟨b, o + 2, none⟩) hplB).trans h2
      have HW := Lib.hid (HMore.out wr hbw)
      have hBr : B ≤ wr.heap.size := Nat.le_trans hBw hbw.size
      by_cases hlt : k < c.length
      · have hx : c[k]? = some c[k] := List.getElem?_eq_getElem hlt
        obtain ⟨y, hY⟩ : ∃ y, y = c[k] := ⟨_, rfl⟩
        rw [← hY] at hx
        clear hY
        obtain ⟨_, _, b', o', _, _, _, rfl, _⟩ := Kids.at HK0.out hx
        obtain ⟨m', hm', ht'⟩ := Kids.tree HK0.out hx
        have HT' := Lib.hid ht'
        have HF' := Lib.hid (HKK.out k y b' o' cap hx HC0.out)
        have hst := srcs_take hx
        have hle := srcs_take_le c (k + 1)
        have HST : Hid (srcs (c.take (k + 1)) = srcs (c.take k) ++ srcT y) := by show _ = _; rw [List.take_add_one, hx, srcs_append]; simp [srcs]
        have hroom : (acc ++ t0.data.toList ++ srcs (c.take k)).length + len y ≤ 4000000 := by
          have : t0.data.toList.length = t0.size := by simp
          simp only [List.length_append, this]
          omega
        clear hx ht' hst hle
        have hk0 : (0 : Int) ≤ (k : Int) := by omega
        have hk1 : (k : Int) < (c.length : Int) := by omega
        go_wp2_with (go_at_call 53; refine (ih m' hm' y _ (acc ++ t0.data.toList ++ srcs (c.take k)) wr HT'.out HF'.out HW.out.1 HW.out.2 hBr hbk hroom).mono ?_; rintro e w4 ⟨rfl, hb4, hbl4⟩)
        case roundEnd =>
          refine ⟨⟨k + 1, by omega, by go_num, ?_, hbw.trans hbl4⟩, by simp [intOf]; omega⟩
          rw [HST.out]
          rw [List.append_assoc] at hb4
          exact hb4
      · have hkl : k = c.length := by omega
        have hfin : Hid (acc ++ t0.data.toList ++ srcs (c.take k) = acc ++ srcT x) := by
          show _ = _
          rw [hkl, List.take_length, HSRC.out, List.append_assoc]
        rw [hfin.out] at hbk
        go_wp2_with fail
        first | go_end0 | refine bodyPost_ret (results_none rfl _ _ _) rfl ?_
        exact ⟨rfl, hbk, hbw⟩

set_option maxRecDepth 100000 in
set_option maxHeartbeats 4000000 in
theorem source_any (x : Tree) (sa : Option Addr) (cap n : Nat) (w : World) (hok : x.ok) (hk : Kids w (Pl w) n sa x.c) (hl : len x ≤ 1000000) :
    Calls Tryz.prog 17 #[tv x sa cap] w fun e w' => e = .returned (.string (Lx.bs (srcT x))) ∧ Below w.heap.size w w' := by
  obtain ⟨w2, hw2⟩ : ∃ w2, w2 = (w.alloc (.cells #[.int .i64 x.k, .string x.t, .slice sa x.c.length cap] 25)).alloc (.map #[] 0) := ⟨_, rfl⟩
  have HB2 : Hid (Below w.heap.size w w2) := by rw [hw2]; exact ((Below.refl _ _).alloc (Nat.le_refl _) _).alloc (by simp) _
  have hsz2 : w2.heap.size = w.heap.size + 2 := by rw [hw2]; simp
  have hm2 : PM w2 (w.heap.size + 1) [] := by rw [hw2]; have := PM.made (w.alloc (.cells #[.int .i64 x.k, .string x.t, .slice sa x.c.length cap] 25)); simpa using this
  have hbox : w2.heap[w.heap.size]? = some (.cells #[.int .i64 x.k, .string x.t, .slice sa x.c.length cap] 25 (0, 0)) := by rw [hw2]; exact alloc_keeps _ (heap_alloc_new w _)
  obtain ⟨c0, c1, c2, _⟩ := three_facts hbox
  have ht2 : TreeAt w2 n ⟨w.heap.size, 0, none⟩ x := by
    refine ⟨hok, w.heap.size, 0, sa, cap, rfl, ⟨_, _, hbox⟩, c0, c1, c2, ?_⟩
    exact (hk.kept (kept_of_below HB2.out fun j hj => hj.lt)).up (fun j hj => hj.below HB2.out) (Nat.le_refl _)
  have HT2 := Lib.hid ht2
  have HL := Lib.hid (len_any w2 (w.heap.size + 1) n x ⟨w.heap.size, 0, none⟩ [] w2 ht2 (fun _ _ => rfl) hm2 (fun p n x v _ _ h => by cases h) (by omega))
  clear hk ht2 hm2 hok hbox c0 c1 c2
  have hmm := @run_makeMap Tryz.prog
  show Calls Tryz.prog 17 #[.agg #[.int .i64 x.k, .string x.t, .slice sa x.c.length cap]] w _
  go_enter Tryz.func17, Tryz.ntmps17
  go_wp2_with fail
  rw [← hw2]
  refine HL.out.mono ?_
  rintro e w3 ⟨rfl, m', hp3, hg3, hf3, hb3⟩
  have hs3 := hb3.size
  have HB3 : Hid (Below w.heap.size w w3) := ⟨hb3.os.trans HB2.out.os, hb3.tape.trans HB2.out.tape, hb3.output.trans HB2.out.output, Nat.le_trans HB2.out.size hs3, fun j hj => by
    rw [hb3.block j (by omega) (fun e => by have := Option.some.inj e; omega)]; exact HB2.out.block j hj⟩
  obtain ⟨N, hN⟩ : ∃ N, N = len x := ⟨_, rfl⟩
  rw [← hN]
  rw [← hN] at hl
  obtain ⟨v, hv⟩ : ∃ v : Int, v = (N : Int) := ⟨_, rfl⟩
  rw [← hv]
  have hne : ¬ (v = 2147483647) := by omega
  have HN := Lib.hid hN
  clear hN
  have HKEYS : Hid (∀ q v, get m' q = some v → q.block < w3.heap.size) := fun q v hq => by
    rcases hg3.2 q v hq with h1 | ⟨y, h1⟩
    · cases h1
    · obtain ⟨n', _, b', o', _, _, e, hp, _⟩ := h1.at
      rw [e]
      have := hp.lt
      show b' < _
      omega
  have HF3 := Lib.hid hf3
  have HP3 := Lib.hid hp3
  have HS3 : Hid (∀ j, Pl w2 j → w3.heap[j]? = w2.heap[j]?) := fun j hj => hb3.block j hj.lt (fun e => by
    have hj' : Pl w3 j ∨ True := Or.inr trivial
    obtain ⟨es, clock, hmap, _⟩ := hp3
    have := Option.some.inj e
    subst this
    obtain ⟨c, t, hc⟩ := hj
    rw [hw2] at hc
    have hnew := heap_alloc_new (w.alloc (.cells #[.int .i64 x.k, .string x.t, .slice sa x.c.length cap] 25)) (.map #[] 0)
    rw [show (w.alloc (.cells #[.int .i64 x.k, .string x.t, .slice sa x.c.length cap] 25)).heap.size = w.heap.size + 1 from by simp] at hnew
    rw [hnew] at hc
    cases hc)
  clear hg3 hf3 hp3 hb3 HL hmm hw2
  have HV := Lib.hid hv
  clear hv
  go_wp2_with fail
  rw [HV.out]
  have hg4 := heap_alloc_new w3 (.cells #[.pointer none, .slice none 0 0] 99)
  have hn4 : N ≤ 281474976710656 := by omega
  have HGR := Tryz.Builder_Grow_fresh w3.heap.size w3.heap.size N _ (Nat.le_refl _) hg4 (by simp) hn4
  refine HGR.mono ?_
  rintro e w5 ⟨rfl, hba, hb5⟩
  have hb35 : Hid (Below w3.heap.size w3 w5) := ((Below.refl _ _).alloc (Nat.le_refl _) _).trans hb5
  have HBD : Hid (Lib.IsBuilder 99 5 w3.heap.size w3.heap.size (Lib.byteCells []) w5) := Or.inr hba
  have hs5 := hb35.out.size
  have HP5 : Hid (PM w5 (w.heap.size + 1) m') := HP3.out.low (by omega) HKEYS.out hb35.out
  have HS5 : Hid (∀ j, Pl w2 j → w5.heap[j]? = w2.heap[j]?) := fun j hj => (hb35.out.block j (by have := hj.lt; omega)).trans (HS3.out j hj)
  clear hg4 hba hb5
  go_wp2_with fail
  refine (wsrc_any w2 (w.heap.size + 1) w3.heap.size w3.heap.size m' hs3 (by omega) HKEYS.out n x ⟨w.heap.size, 0, none⟩ [] w5 HT2.out HF3.out HS5.out HP5.out hs5 HBD (by have := HN.out; simp; omega)).mono ?_
  rintro e w6 ⟨rfl, hb6, hbl6⟩
  rw [List.nil_append] at hb6
  have hs6 := hbl6.size
  go_wp2_with fail
  refine (Tryz.Builder_String_any w3.heap.size w3.heap.size (srcT x) w6 hb6.out (by omega)).mono ?_
  rintro e w7 ⟨rfl, hb7⟩
  go_wp2_with fail
  go_ret
  refine ⟨rfl, (HB3.out.trans ((hb35.out.trans hbl6).mono (by omega))).trans (hb7.mono (by omega))⟩
end Go.Proofs.YtcpojagfnpajeaaGreatDoorR.Ps
