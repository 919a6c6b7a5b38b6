/-
  A map whose keys are pointers to trees, in memory: what it answers, and what a store makes of it.
-/
import Derived.Test.YtbomilleckgalaaGreatPsBase
import Derived.LaidEql
namespace Go.Proofs.YtbomilleckgalaaGreat.Ps
open Go.RowKit

/-- Where the key stands first, and its value. -/
def fnd (a : Addr) : List (Addr × Int) → Nat → Option (Nat × Int)
  | [], _ => none
  | p :: r, i => if a = p.1 then some (i, p.2) else fnd a r (i + 1)
def get (m : List (Addr × Int)) (a : Addr) : Option Int := (fnd a m 0).map Prod.snd
/-- The value of a is v. -/
def put (a : Addr) (v : Int) : List (Addr × Int) → List (Addr × Int)
  | [] => [(a, v)]
  | p :: r => if a = p.1 then (a, v) :: r else p :: put a v r

theorem fnd_shift (a : Addr) : ∀ (m : List (Addr × Int)) (i : Nat), (fnd a m i).map Prod.snd = (fnd a m 0).map Prod.snd
  | [], _ => rfl
  | p :: r, i => by
    unfold fnd
    split
    · rfl
    · rw [fnd_shift a r (i + 1), fnd_shift a r (0 + 1)]
theorem get_cons (p : Addr × Int) (r : List (Addr × Int)) (a : Addr) : get (p :: r) a = if a = p.1 then some p.2 else get r a := by
  unfold get
  rw [fnd]
  split
  · rfl
  · exact fnd_shift a r _
theorem get_put (a : Addr) (v : Int) (q : Addr) : ∀ m : List (Addr × Int), get (put a v m) q = if q = a then some v else get m q
  | [] => by
    unfold put
    rw [get_cons]
  | p :: r => by
    unfold put
    by_cases h : a = p.1
    · rw [if_pos h, get_cons, get_cons]
      by_cases hq : q = a
      · rw [if_pos hq, if_pos hq]
      · rw [if_neg hq, if_neg hq, if_neg (by rw [← h]; exact hq)]
    · rw [if_neg h, get_cons, get_cons, get_put a v q r]
      by_cases hq : q = a
      · rw [if_pos hq, if_neg (by rw [hq]; exact h), if_pos hq]
      · rw [if_neg hq]
        split
        · rfl
        · rfl
theorem get_mem {m : List (Addr × Int)} {a : Addr} {v : Int} (h : get m a = some v) : ∃ p ∈ m, p.1 = a := by
  induction m with
  | nil => cases h
  | cons p r ih =>
    rw [get_cons] at h
    split at h
    · rename_i e; exact ⟨p, by simp, e.symm⟩
    · obtain ⟨q, h1, h2⟩ := ih h; exact ⟨q, by simp [h1], h2⟩
theorem put_mem {a : Addr} {v : Int} {p : Addr × Int} : ∀ {m : List (Addr × Int)}, p ∈ put a v m → p.1 = a ∨ p ∈ m
  | [], h => by simp [put] at h; exact Or.inl (by rw [h])
  | q :: r, h => by
    unfold put at h
    split at h
    · rcases List.mem_cons.1 h with rfl | h
      · exact Or.inl rfl
      · exact Or.inr (by simp [h])
    · rcases List.mem_cons.1 h with rfl | h
      · exact Or.inr (by simp)
      · rcases put_mem h with h | h
        · exact Or.inl h
        · exact Or.inr (by simp [h])

abbrev pv (p : Addr × Int) : Value × Value := (.pointer (some p.1), .int .i64 p.2)
/-- The map in block b has the entries m; the keys lie in plain blocks. -/
def PM (w : World) (b : Nat) (m : List (Addr × Int)) : Prop :=
  ∃ es clock, w.heap[b]? = some (.map es clock) ∧ es.toList.map (fun e => (e.key, e.val)) = m.map pv ∧ ∀ p ∈ m, Pl w p.1.block

theorem eq_ptr (w : World) {a b : Addr} (ha : Pl w a.block) (hb : Pl w b.block) : (Op.equal 72 (.pointer (some a)) (.pointer (some b))).run Tryz.prog w = .ok (decide (a = b)) w := by
  obtain ⟨i, hi, hi2⟩ := Option.map_eq_some_iff.1 info_tree
  have hsz : i.size ≠ 0 := by
    have := congrArg (fun x => x.2.1) hi2
    simp only at this
    rw [this]
    decide
  have h : ∀ d : Nat, (Op.equalIn (d + 1) 72 (.pointer (some a)) (.pointer (some b))).run Tryz.prog w = .ok (decide (a = b)) w := fun d => by
    by_cases hab : a = b
    · subst hab
      simp [Op.equalIn, run_underlying Tryz.underlying72, sizeOf, typeInfo, hi, run_sameAddr_same]
    · obtain ⟨ca, ta, ha⟩ := ha
      obtain ⟨cb, tb, hb⟩ := hb
      simp [Op.equalIn, run_underlying Tryz.underlying72, sizeOf, typeInfo, hi, hsz, run_sameAddr_other w hab ha hb, hab]
  exact h 9999

theorem find_ptr (w : World) {a : Addr} (ha : Pl w a.block) : ∀ (L : List MapEntry) (m : List (Addr × Int)) (i : Nat), L.map (fun e => (e.key, e.val)) = m.map pv → (∀ p ∈ m, Pl w p.1.block) →
    (Instr.findAsking 72 (.pointer (some a)) L i).run Tryz.prog w = .ok ((fnd a m i).map fun q => (q.1, .int .i64 q.2)) w
  | [], m, i, h, _ => by
    cases m with
    | nil => rfl
    | cons p r => simp at h
  | e :: L, m, i, h, hp => by
    cases m with
    | nil => simp at h
    | cons p r =>
      simp only [List.map_cons, List.cons.injEq, Prod.mk.injEq] at h
      obtain ⟨⟨h1, h2⟩, h3⟩ := h
      unfold Instr.findAsking fnd
      rw [h1]
      simp only [Sem.run_bind, eq_ptr w ha (hp p (by simp)), Result.andThen]
      by_cases hap : a = p.1
      · simp [hap, h2]
      · simp only [hap, decide_false, Bool.false_eq_true, if_false]
        exact find_ptr w ha L r (i + 1) h3 (fun q hq => hp q (by simp [hq]))

theorem findKey_ptr (w : World) {a : Addr} (ha : Pl w a.block) (L : List MapEntry) (m : List (Addr × Int)) (h : L.map (fun e => (e.key, e.val)) = m.map pv) (hp : ∀ p ∈ m, Pl w p.1.block) :
    (Instr.findKey 72 (.pointer (some a)) L).run Tryz.prog w = .ok ((fnd a m 0).map fun q => (q.1, .int .i64 q.2)) w := by
  unfold Instr.findKey
  simp only [Sem.run_bind, run_underlying Tryz.underlying72, Result.andThen]
  cases L with
  | nil =>
    cases m with
    | nil => simp [Instr.findNow, fnd]
    | cons p r => simp at h
  | cons e L =>
    have : Instr.findNow (.pointer 40) (.pointer (some a)) (e :: L) 0 = none := by
      unfold Instr.findNow
      have : Instr.sameNow (.pointer 40) (.pointer (some a)) e.key = none := by unfold Instr.sameNow; split <;> simp_all
      rw [this]
    rw [this]
    exact find_ptr w ha (e :: L) m 0 h hp

theorem check_ptr (w : World) (em : Bool) (a : Addr) : (Instr.checkKey em 10000 72 (.pointer (some a))).run Tryz.prog w = .ok () w := by
  unfold Instr.checkKey
  simp [run_underlying Tryz.underlying72, Result.andThen]

theorem PM.look {w : World} {b : Nat} {m : List (Addr × Int)} (h : PM w b m) {a : Addr} (ha : Pl w a.block) :
    (Instr.lookup 70 (.map (some b)) (.pointer (some a)) true).run Tryz.prog w = .ok (.tuple #[.int .i64 ((get m a).getD 0), .bool (get m a).isSome]) w := by
  obtain ⟨es, clock, hb, h1, h2⟩ := h
  have hf := findKey_ptr w ha es.toList m h1 h2
  unfold get
  cases hc : fnd a m 0 with
  | none =>
    rw [hc] at hf
    simp [Instr.lookup, run_underlying Tryz.underlying70, MapKept.run_getObj_map hb, check_ptr, hf, Result.andThen]
  | some q =>
    rw [hc] at hf
    simp [Instr.lookup, run_underlying Tryz.underlying70, MapKept.run_getObj_map hb, check_ptr, hf, Result.andThen]
theorem PM.look1 {w : World} {b : Nat} {m : List (Addr × Int)} (h : PM w b m) {a : Addr} (ha : Pl w a.block) :
    (Instr.lookup 70 (.map (some b)) (.pointer (some a)) false).run Tryz.prog w = .ok (.int .i64 ((get m a).getD 0)) w := by
  obtain ⟨es, clock, hb, h1, h2⟩ := h
  have hf := findKey_ptr w ha es.toList m h1 h2
  unfold get
  cases hc : fnd a m 0 with
  | none =>
    rw [hc] at hf
    simp [Instr.lookup, run_underlying Tryz.underlying70, MapKept.run_getObj_map hb, check_ptr, hf, Result.andThen]
  | some q =>
    rw [hc] at hf
    simp [Instr.lookup, run_underlying Tryz.underlying70, MapKept.run_getObj_map hb, check_ptr, hf, Result.andThen]

theorem fnd_at {a : Addr} : ∀ {m : List (Addr × Int)} {i j : Nat} {v : Int}, fnd a m i = some (j, v) → ∃ k, j = i + k ∧ m[k]? = some (a, v) ∧ ∀ u, put a u m = m.set k (a, u)
  | [], _, _, _, h => by cases h
  | p :: r, i, j, v, h => by
    unfold fnd at h
    split at h
    · rename_i e
      cases h
      refine ⟨0, rfl, by rw [e]; rfl, fun u => ?_⟩
      unfold put
      rw [if_pos e]; rfl
    · rename_i e
      obtain ⟨k, h1, h2, h3⟩ := fnd_at h
      refine ⟨k + 1, by omega, by simpa using h2, fun u => ?_⟩
      unfold put
      rw [if_neg e, h3]; rfl
theorem fnd_no {a : Addr} : ∀ {m : List (Addr × Int)} {i : Nat}, fnd a m i = none → ∀ u, put a u m = m ++ [(a, u)]
  | [], _, _, _ => rfl
  | p :: r, i, h, u => by
    unfold fnd at h
    split at h
    · cases h
    · rename_i e
      unfold put
      rw [if_neg e, fnd_no h u]; rfl

theorem PM.store {w : World} {b : Nat} {m : List (Addr × Int)} (h : PM w b m) {a : Addr} (ha : Pl w a.block) (v : Int) :
    ∃ w', (Instr.mapUpdate 70 (.map (some b)) (.pointer (some a)) (.int .i64 v)).run Tryz.prog w = .ok () w' ∧ PM w' b (put a v m) ∧ w.mapTurned w' b := by
  obtain ⟨es, clock, hb, h1, h2⟩ := h
  have hf := findKey_ptr w ha es.toList m h1 h2
  have hpl : ∀ (o : Obj) (j : Nat), Pl w j → Pl (ChangeMaps.setBlock w b o) j := fun o j hj => by
    refine hj.of_block (ChangeMaps.heap_setBlock_other hb _ ?_)
    intro e
    obtain ⟨c, t, hc⟩ := hj
    rw [e, hb] at hc
    cases hc
  cases hc : fnd a m 0 with
  | none =>
    rw [hc] at hf
    refine ⟨ChangeMaps.setBlock w b (.map (es.push ⟨.pointer (some a), .int .i64 v, clock⟩) (clock + 1)), ?_, ⟨_, _, ChangeMaps.heap_setBlock_same hb _, ?_, ?_⟩, ⟨es, clock, _, _, hb, rfl⟩⟩
    · simp [Instr.mapUpdate, run_underlying Tryz.underlying70, MapKept.run_getObj_map hb, check_ptr, hf, MapKept.run_setObj_map _ hb, Result.andThen, ChangeMaps.setBlock]
    · rw [fnd_no hc]
      simp [h1]
    · intro p hp
      rcases put_mem hp with e | hp
      · rw [e]; exact hpl _ _ ha
      · exact hpl _ _ (h2 p hp)
  | some q =>
    rw [hc] at hf
    obtain ⟨j, u⟩ := q
    obtain ⟨k, hk, hm, hput⟩ := fnd_at hc
    rw [Nat.zero_add] at hk
    subst hk
    have hlen : es.toList.length = m.length := by have := congrArg List.length h1; simpa using this
    have hlt : j < es.toList.length := by rw [hlen]; exact (List.getElem?_eq_some_iff.1 hm).1
    have hj : es[j]? = some es.toList[j] := by
      rw [← Array.getElem?_toList, List.getElem?_eq_getElem hlt]
    have hkey : es.toList[j].key = .pointer (some a) := by
      have := congrArg (fun l => l[j]?) h1
      simp only [List.getElem?_map, hm, List.getElem?_eq_getElem hlt, Option.map_some, Option.some.injEq, Prod.mk.injEq] at this
      exact this.1
    have hkey2 : (es[j]'(by simpa using hlt)).key = .pointer (some a) := by simpa using hkey
    have hst : (Instr.keyThatStays (.pointer (some a)) (.pointer (some a))).run Tryz.prog w = .ok (.pointer (some a)) w := by
      unfold Instr.keyThatStays Instr.sameBits
      simp
    refine ⟨ChangeMaps.setBlock w b (.map (es.modify j fun e => { e with key := .pointer (some a), val := .int .i64 v }) clock), ?_, ⟨_, _, ChangeMaps.heap_setBlock_same hb _, ?_, ?_⟩, ⟨es, clock, _, _, hb, rfl⟩⟩
    · simp [Instr.mapUpdate, run_underlying Tryz.underlying70, MapKept.run_getObj_map hb, check_ptr, hf, hj, hkey2, hst, MapKept.run_setObj_map _ hb, Result.andThen, ChangeMaps.setBlock]
    · rw [hput]
      apply List.ext_getElem?
      intro i
      have hi := congrArg (fun l => l[i]?) h1
      simp only [List.getElem?_map] at hi
      simp only [List.getElem?_map, Array.getElem?_toList, Array.getElem?_modify, List.getElem?_set]
      rw [← Array.getElem?_toList]
      by_cases hij : j = i
      · subst hij
        rw [if_pos rfl, if_pos rfl, if_pos (by rw [← hlen]; exact hlt), List.getElem?_eq_getElem hlt]
        rfl
      · rw [if_neg hij, if_neg hij]
        exact hi
    · intro p hp
      rcases put_mem hp with e | hp
      · rw [e]; exact hpl _ _ ha
      · exact hpl _ _ (h2 p hp)

theorem PM.lt {w : World} {b : Nat} {m : List (Addr × Int)} (h : PM w b m) : b < w.heap.size := by
  obtain ⟨es, clock, hb, _⟩ := h
  exact (Array.getElem?_eq_some_iff.1 hb).1
theorem PM.ne {w : World} {b j : Nat} {m : List (Addr × Int)} (h : PM w b m) (hj : Pl w j) : j ≠ b := by
  obtain ⟨es, clock, hb, _⟩ := h
  obtain ⟨c, t, hc⟩ := hj
  intro e
  rw [e, hb] at hc
  cases hc
theorem PM.to {w w' : World} {b : Nat} {m : List (Addr × Int)} (h : PM w b m) (hb : Below w.heap.size w w') : PM w' b m := by
  have hl := h.lt
  obtain ⟨es, clock, h0, h1, h2⟩ := h
  exact ⟨es, clock, (hb.block b hl).trans h0, h1, fun p hp => (h2 p hp).below hb⟩
theorem PM.made (w : World) : PM (w.alloc (.map #[] 0)) w.heap.size [] := ⟨#[], 0, heap_alloc_new w _, rfl, fun p hp => by simp at hp⟩
end Go.Proofs.YtbomilleckgalaaGreat.Ps
