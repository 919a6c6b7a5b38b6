/-
  The map from contents to indices, as it stands in memory: what it answers, what a store makes of it.
-/
import Derived.Test.YtbgahkicinkgfaaGreatGtKey
namespace Go.Proofs.YtbgahkicinkgfaaGreat
open Go.RowKit

theorem cells62 : Tryz.prog.cellsOf 81 = 3 := by kernel_rfl
theorem cells3 : Tryz.prog.cellsOf 3 = 1 := by kernel_rfl
theorem cells9 : Tryz.prog.cellsOf 9 = 1 := by kernel_rfl
theorem isKey62 : Tryz.prog.keyType 81 = true := by kernel_rfl

set_option maxRecDepth 100000 in
theorem keyLits_is (m : Nat) {k : Int} {t e : ByteArray} (hw : (Lit.int .i64 k).wf = true) (ht : t.size ≤ maxLen) (he : e.size ≤ maxLen) :
    Tryz.prog.keyLits (m + 2) 81 [.int .i64 k, .string t, .string e] = some [.int .i64 k, .string t.data.toList, .string e.data.toList] := by
  have l3 : Tryz.prog.keyLits (m + 1) 3 [.int .i64 k] = some [.int .i64 k] := by
    unfold Program.keyLits
    rw [Tryz.underlying3]
    simp only [hw, and_self, if_true]
  have l9 : ∀ s : ByteArray, s.size ≤ maxLen → Tryz.prog.keyLits (m + 1) 9 [.string s] = some [.string s.data.toList] := fun s hs => by
    unfold Program.keyLits
    rw [Tryz.underlying9]
    simp only [if_pos hs]
  unfold Program.keyLits
  rw [Tryz.underlying81]
  simp only [cells62, cells3, cells9, List.length_cons, List.length_nil, List.mapM_cons, List.mapM_nil, List.drop_zero, List.drop_succ_cons, List.take_succ_cons, List.take_zero, l3, l9 t ht, l9 e he]
  rw [if_pos ⟨trivial, by simp⟩]
  rfl

theorem keyOf_ok {k : Int} {t e : ByteArray} (hk : I64 k) (ht : t.size ≤ maxLen) (he : e.size ≤ maxLen) : ∃ kl, keyOf Tryz.prog 81 (keyV k t e) = some kl := by
  have hw : (Lit.int .i64 k).wf = true := by
    unfold I64 at hk
    simp [Lit.wf, IntKind.min, IntKind.max, IntKind.signed, IntKind.bits]; omega
  have hf : (keyV k t e).formed Tryz.prog 81 = true := by
    unfold keyV Value.formed
    rw [Tryz.underlying81, cells62]; rfl
  refine ⟨.string (keyBytes [.int .i64 k, .string t.data.toList, .string e.data.toList]), ?_⟩
  obtain ⟨m, hm⟩ : ∃ m, Tryz.prog.types.size = m + 1 := ⟨Tryz.prog.types.size - 1, by have := row62; omega⟩
  unfold keyOf
  rw [Tryz.underlying81]
  simp only [isKey62, hf, Bool.and_self, if_true]
  rw [hm]
  have : (keyV k t e).cells.toList = [.int .i64 k, .string t, .string e] := rfl
  rw [this, keyLits_is m hw ht he]; rfl

def keyG (x : G) : Value := keyV x.k x.t (encB x.c)

/-- The map in block b has the index of each node of l. -/
def IdxAt (w : World) (b : Nat) (l : List G) : Prop :=
  ∃ (n : Nat) (D : DataW Unit), n ≤ l.length ∧ w.ownsMap Tryz.prog 81 (plainElem Tryz.prog 3) b n D ∧
    (∀ (i : Nat) (x : G), l[i]? = some x → ∃ kl, keyOf Tryz.prog 81 (keyG x) = some kl ∧ Maps.has D kl = true ∧ D.atKey kl (.lit (.int .i64 0)) = .lit (.int .i64 i)) ∧
    (∀ (key : Value) (kl : Lit), keyOf Tryz.prog 81 key = some kl → Maps.has D kl = true → ∃ (i : Nat) (x : G), l[i]? = some x ∧ key = keyG x)

theorem IdxAt.kept {w w' : World} {b : Nat} {l : List G} {row : Option Nat} (h : IdxAt w b l) (hg : w.grownBy w' row) (hne : some b ≠ row) : IdxAt w' b l := by
  obtain ⟨n, D, h0, h1, h2, h3⟩ := h
  exact ⟨n, D, h0, h1.kept hg hne, h2, h3⟩
theorem IdxAt.lt {w : World} {b : Nat} {l : List G} (h : IdxAt w b l) : b < w.heap.size := by
  obtain ⟨n, D, _, h1, _, _⟩ := h
  exact h1.lt
theorem IdxAt.to {w w' : World} {b : Nat} {l : List G} (h : IdxAt w b l) (hb : Below w.heap.size w w') : IdxAt w' b l :=
  h.kept (row := none) ⟨hb.os, hb.tape, hb.output, hb.size, fun k hk _ => hb.block k hk⟩ (by simp)
theorem idxAt_made (w : World) : IdxAt (w.alloc (.map #[] 0)) w.heap.size [] := by
  refine ⟨0, .map [], Nat.le_refl _, World.ownsMap_made _ _ _ _, fun i x h => by simp at h, fun key kl _ h => ?_⟩
  simp [Maps.has] at h

theorem keyG_same {x : G} {k : Int} {t : ByteArray} {c : List Int} (hx : InR 60000 x.c) (hc : InR 60000 c) (h : keyV k t (encB c) = keyG x) : x.k = k ∧ x.t = t ∧ x.c = c := by
  unfold keyG keyV at h
  simp only [Value.agg.injEq, Array.mk.injEq, List.cons.injEq, Value.int.injEq, Value.string.injEq, true_and, and_true] at h
  obtain ⟨h1, h2, h3⟩ := h
  refine ⟨h1.symm, h2.symm, ?_⟩
  unfold encB at h3
  have h4 : enc c = enc x.c := by
    have := congrArg (fun b : ByteArray => b.data.toList) h3
    simpa using this
  exact (enc_inj hc hx h4).symm

theorem encB_size (c : List Int) : (encB c).size = 2 * c.length := by
  rw [← enc_len]
  exact List.size_toArray

/-- The content fits its types. -/
structure KeyOk (k : Int) (t : ByteArray) (c : List Int) : Prop where
  k : I64 k
  t : t.size ≤ maxLen
  len : c.length * 8 ≤ 140737488351232
  c : InR 60000 c

theorem KeyOk.key {k : Int} {t : ByteArray} {c : List Int} (h : KeyOk k t c) : ∃ kl, keyOf Tryz.prog 81 (keyV k t (encB c)) = some kl :=
  keyOf_ok h.k h.t (by have := h.len; rw [encB_size]; unfold maxLen; omega)

theorem IdxAt.found {w : World} {b : Nat} {l : List G} (h : IdxAt w b l) {k : Int} {t : ByteArray} {c : List Int} {j : Nat} (hp : place l k t c = some j) :
    (Instr.lookup 54 (.map (some b)) (keyV k t (encB c)) true).run Tryz.prog w = .ok (.tuple #[.int .i64 j, .bool true]) w := by
  obtain ⟨n, D, h0, h1, h2, h3⟩ := h
  obtain ⟨y, hy, e1, e2, e3, _⟩ := place_some hp
  obtain ⟨kl, hk, hh, hat⟩ := h2 j y hy
  have hkey : keyG y = keyV k t (encB c) := by unfold keyG; rw [e1, e2, e3]
  rw [hkey] at hk
  obtain ⟨v, ps, hrun, hv⟩ := h1.look_ok law Tryz.underlying54 (zeroInt w) (plainElem_int Tryz.underlying3 (by decide)) hk
  rw [hrun, hh]
  obtain ⟨c', rfl, hc', _⟩ := plainElem_int_inv Tryz.underlying3 hv
  rw [hat] at hc'
  simp at hc'
  rw [hc'.1]

theorem IdxAt.missing {w : World} {b : Nat} {l : List G} (h : IdxAt w b l) (hr : ∀ x, x ∈ l → InR 60000 x.c) {k : Int} {t : ByteArray} {c : List Int} (hp : place l k t c = none) (ho : KeyOk k t c) :
    (Instr.lookup 54 (.map (some b)) (keyV k t (encB c)) true).run Tryz.prog w = .ok (.tuple #[.int .i64 0, .bool false]) w := by
  obtain ⟨n, D, h0, h1, h2, h3⟩ := h
  obtain ⟨kl, hk⟩ := ho.key
  have hh : Maps.has D kl = false := by
    cases e : Maps.has D kl with
    | false => rfl
    | true =>
      obtain ⟨i, x, hx, hkey⟩ := h3 _ _ hk e
      exact absurd (keyG_same (hr x (List.mem_of_getElem? hx)) ho.c hkey) (place_none hp i x hx)
  obtain ⟨v, ps, hrun, hv⟩ := h1.look_ok law Tryz.underlying54 (zeroInt w) (plainElem_int Tryz.underlying3 (by decide)) hk
  rw [hrun, hh]
  obtain ⟨c', rfl, hc', _⟩ := plainElem_int_inv Tryz.underlying3 hv
  rw [Maps.atKey_of_not_has hh] at hc'
  simp at hc'
  rw [hc'.1]

theorem IdxAt.store {w : World} {b : Nat} {l : List G} (h : IdxAt w b l) (hr : ∀ x, x ∈ l → InR 60000 x.c) (hl : l.length ≤ 60000) {x : G} (hp : place l x.k x.t x.c = none) (ho : KeyOk x.k x.t x.c) :
    ∃ w', (Instr.mapUpdate 54 (.map (some b)) (keyV x.k x.t (encB x.c)) (.int .i64 l.length)).run Tryz.prog w = .ok () w' ∧ IdxAt w' b (l ++ [x]) ∧ w.grownBy w' (some b) := by
  obtain ⟨n, D, h0, h1, h2, h3⟩ := h
  obtain ⟨kl, hk⟩ := ho.key
  have hkl := law.key hk
  have hm := h1.isMap
  obtain ⟨w', hrun, hown, hg⟩ := h1.update law Tryz.underlying54 (by unfold maxLen; omega) hk (plainElem_int Tryz.underlying3 (a := (l.length : Int)) (by simp [Lit.wf, IntKind.min, IntKind.max, IntKind.signed, IntKind.bits]; omega))
  refine ⟨w', hrun, ⟨n + 1, _, by simp; omega, hown, ?_, ?_⟩, hg⟩
  · intro i y hy
    by_cases hi : i < l.length
    · rw [List.getElem?_append_left hi] at hy
      obtain ⟨kl', hk', hh, hat⟩ := h2 i y hy
      have hne : kl' ≠ kl := by
        intro e
        rw [e] at hk'
        have := law.inj hk hk'
        exact place_none hp i y hy (keyG_same (hr y (List.mem_of_getElem? hy)) ho.c this)
      exact ⟨kl', hk', by rw [Maps.has_put_other hne]; exact hh, by rw [Maps.atKey_put_other hne]; exact hat⟩
    · have hi2 : i = l.length := by
        have := (List.getElem?_eq_some_iff.1 hy).1
        simp at this
        omega
      subst hi2
      rw [List.getElem?_append_right (Nat.le_refl _), Nat.sub_self] at hy
      simp at hy
      subst hy
      exact ⟨kl, hk, Maps.has_put_same hm hkl _, Maps.atKey_put_same hm hkl _ _⟩
  · intro key kl' hk' hh
    by_cases e : kl' = kl
    · subst e
      refine ⟨l.length, x, by simp, ?_⟩
      exact law.inj hk' hk
    · rw [Maps.has_put_other e] at hh
      obtain ⟨i, y, hy, hkey⟩ := h3 key kl' hk' hh
      exact ⟨i, y, by rw [List.getElem?_append_left (List.getElem?_eq_some_iff.1 hy).1]; exact hy, hkey⟩
end Go.Proofs.YtbgahkicinkgfaaGreat
