/-
  Plain mathematics: composition is associative.
-/
import Derived.Test.YtbkiliiopondaaaWrap
namespace Go.Proofs.Ytbkiliiopondaaa

theorem rew_map {f : Tb → Tb} (hf : ∀ v, f ⟨v, -1⟩ = ⟨v, -1⟩) {T : List Tb} {l : List Ed} : ∀ {p : Int}, rewFrom (T.map f) p l = (rewFrom T p l).map f := by
  have hi : ∀ t : ByteArray, (insT t).map f = insT t := by
    intro t
    rw [insT, List.map_map]
    congr 1
    funext v
    exact hf v
  induction l with
  | nil => intro p; simp [rewFrom, List.map_drop]
  | cons x r ih => intro p; simp only [rewFrom, List.map_append, ih, hi, List.map_take, List.map_drop]

theorem rewL_map {f : Tb → Tb} (hf : ∀ v, f ⟨v, -1⟩ = ⟨v, -1⟩) (T : List Tb) (l : List Ed) : rewL (T.map f) l = (rewL T l).map f := rew_map hf

/-- An origin in M, followed. -/
def sub (M : List Tb) (x : Tb) : Tb := if x.o = -1 then ⟨x.v, -1⟩ else (M[x.o.toNat]?).getD ⟨0, -1⟩

theorem sub_ins (M : List Tb) (v : UInt8) : sub M ⟨v, -1⟩ = ⟨v, -1⟩ := by rw [sub, if_pos rfl]

theorem sub_trace (M : List Tb) : (traceL (M.map Tb.v)).map (sub M) = M := by
  apply List.ext_getElem?
  intro k
  rw [List.getElem?_map]
  by_cases hk : k < M.length
  · have h1 : (M.map Tb.v)[k]? = some M[k].v := by simp [hk]
    have h2 := trace_get (src := M.map Tb.v) (x := ⟨M[k].v, k⟩) (by simp) (by simpa using h1)
    have h3 : (traceL (M.map Tb.v))[k]? = some ⟨M[k].v, k⟩ := by simpa using h2
    rw [h3, Option.map_some, sub, if_neg (by show ¬ ((k : Int) = -1); omega)]
    simp [hk]
  · have h1 : (traceL (M.map Tb.v))[k]? = none := List.getElem?_eq_none (by rw [traceL, trace_length, List.length_map]; omega)
    rw [h1, List.getElem?_eq_none (by omega)]
    rfl

theorem assoc_final {s : ByteArray} {a b c : List Ed} (h1 : compErr s a b = 0) (h3 : compErr (applyS s a) b c = 0) :
    finalT s (compL s a b) c = finalT s a (compL (applyS s a) b c) := by
  obtain ⟨z1, z2, _, _⟩ := comp_zero h1
  obtain ⟨_, y2, _, _⟩ := comp_zero h3
  have e := str_length s
  have g1 := canon_text (final_good z1 z2)
  have g2 := canon_text (final_good z2 y2)
  have e2 := str_length (applyS s a)
  rw [e] at g1
  rw [e2] at g2
  have hM := sub_trace (rewL (traceL s.data.toList) a)
  rw [mid_v] at hM
  have hL : finalT s (compL s a b) c = rewL (rewL (rewL (traceL s.data.toList) a) b) c := by
    rw [finalT, compL, g1, finalT]
  have hR : finalT s a (compL (applyS s a) b c) = rewL (rewL (rewL (traceL s.data.toList) a) b) c := by
    rw [finalT, compL]
    have q : rewL (rewL (traceL s.data.toList) a) (canonL (applyS s a).size (finalT (applyS s a) b c)) = (rewL (traceL (applyS s a).data.toList) (canonL (applyS s a).size (finalT (applyS s a) b c))).map (sub (rewL (traceL s.data.toList) a)) := by
      rw [← rewL_map (f := sub (rewL (traceL s.data.toList) a)) (sub_ins _)]
      rw [show (applyS s a).data.toList = applyL s.data.toList a from rfl, hM]
    rw [q, g2, finalT]
    have q2 : (rewL (rewL (traceL (applyS s a).data.toList) b) c).map (sub (rewL (traceL s.data.toList) a)) = rewL (rewL ((traceL (applyS s a).data.toList).map (sub (rewL (traceL s.data.toList) a))) b) c := by
      rw [rewL_map (f := sub (rewL (traceL s.data.toList) a)) (sub_ins _), rewL_map (f := sub (rewL (traceL s.data.toList) a)) (sub_ins _)]
    rw [q2, show (applyS s a).data.toList = applyL s.data.toList a from rfl, hM]
  rw [hL, hR]

theorem assoc_eq {s : ByteArray} {a b c : List Ed} (h1 : compErr s a b = 0) (h3 : compErr (applyS s a) b c = 0) :
    compL s (compL s a b) c = compL s a (compL (applyS s a) b c) := by
  rw [compL, assoc_final h1 h3]
  rfl
end Go.Proofs.Ytbkiliiopondaaa
