/-
  An argument of type GreenArena, opened: its nodes, as they stand in memory.
-/
import Derived.Test.YtjnnilidnceplaaGtOpen
namespace Go.Proofs.Ytjnnilidnceplaa
open Go.ChangeShapes Go.WideShapes Go.ChangeAt Go.RowKit Go.Deep

theorem weights_mem_all {H : Type} {P : Program} {e : TypeId} {l : List (DataW H)} {d : DataW H} (h : d ∈ l) {n : Nat} (hn : n ∈ d.weights P e) : n ∈ DataW.weightsAll P e l := by
  induction l with
  | nil => cases h
  | cons y r ih =>
    simp only [DataW.weightsAll, List.mem_append]
    rcases List.mem_cons.1 h with rfl | h
    · exact Or.inl hn
    · exact Or.inr (ih h)

section
variable {H : Type} {enc : TypeId × Value → H} {W : World}

theorem ints_open {m : Nat} {c3 : Value} {y : DataW H × List MemPlace} (h : DataW.trod enc Try.prog W 0 (fun _ => true) true m 46 [c3] = some y) (hz : ∀ n ∈ y.1.weights Try.prog 46, n ≤ reachBytes) :
    ∃ (a : Option Addr) (c : List Int) (cap : Nat), c3 = .slice a c.length cap ∧ c.length * 8 ≤ 140737488351232 ∧ (∀ z, z ∈ c → I64 z) ∧ (a = none → c = [] ∧ cap = 0) ∧ Ints W (· < W.heap.size) a c := by
  rcases DataW.trod_slice Try.underlying46 h with ⟨e2, _⟩ | ⟨a, len, cap, elems, rest, k, hk, e2, hy, _, hlc, hcm, hel, hat, _, _⟩
  · simp only [List.cons.injEq, and_true] at e2
    exact ⟨none, [], 0, e2, by simp, fun z hz => by simp at hz, fun _ => ⟨rfl, rfl⟩, Ints.nil _ _ _⟩
  · simp only [List.cons.injEq, and_true] at e2
    subst e2
    have hspot : 0 < len → a.spot = none := fun h0 => by
      have h1 := hat 0 h0
      rw [List.getElem?_eq_getElem (by omega), cellsOf3] at h1
      obtain ⟨cs', hc, _⟩ := Option.bind_eq_some_iff.1 h1
      exact (cells_at (by omega) hc).2.2.2 rfl
    obtain ⟨l, hll, hp⟩ := list_of (fun i (z : Int) => I64 z ∧ ∃ b o, a = ⟨b, o, none⟩ ∧ b < W.heap.size ∧ W.cell? ⟨b, o + i, none⟩ = some (.int .i64 z)) len (fun i hi => by
      have h1 := hat i hi
      rw [List.getElem?_eq_getElem (by omega), cellsOf3] at h1
      obtain ⟨cs', hc, ht⟩ := Option.bind_eq_some_iff.1 h1
      obtain ⟨q0, e0, _, w0⟩ := DataW.trod_int Try.underlying3 ht
      subst e0
      obtain ⟨hb, _, hcell, _⟩ := cells_at (by omega) hc
      have hs := hspot (by omega)
      obtain ⟨b, o, spot⟩ := a
      have hs' : spot = none := hs
      subst hs'
      exact ⟨q0, i64_of w0, b, o, rfl, hb, by simpa using hcell 0 (by omega) rfl⟩)
    refine ⟨some a, l, cap, by rw [hll], ?_, fun z hz' => ?_, fun e => (by cases e), fun i z hi => ?_⟩
    · have h1 := hz ((elems.length + rest.length) * 8) (by
        rw [hy]
        simp only [DataW.weights, Try.underlying46, List.length_map, bytesOf3]
        exact List.mem_cons_self)
      unfold reachBytes at h1
      omega
    · obtain ⟨i, hi⟩ := List.getElem?_of_mem hz'
      exact (hp i z hi).1
    · obtain ⟨_, b, o, rfl, hb, hc⟩ := hp i z hi
      exact ⟨b, o, rfl, hb, hc⟩

theorem node_open {m : Nat} {cs : List Value} {y : DataW H × List MemPlace} (h : DataW.trod enc Try.prog W 0 (fun _ => true) true m 48 cs = some y) (hz : ∀ n ∈ y.1.weights Try.prog 48, n ≤ reachBytes) :
    ∃ x : N, cs = x.cells ∧ x.ok ∧ Ints W (· < W.heap.size) x.a x.g.c := by
  obtain ⟨xs, n, rfl, hy, hl, hlen, hf⟩ := DataW.trod_struct Try.underlying48 h
  rw [cellsOf48] at hl
  match cs, hl, xs, hlen with
  | [c0, c1, c2, c3], _, [y0, y1, y2, y3], _ =>
    have t0 := hf 0 _ rfl
    have t1 := hf 1 _ rfl
    have t2 := hf 2 _ rfl
    have t3 := hf 3 _ rfl
    change DataW.trod enc Try.prog W 0 (fun _ => true) true n 3 (([c0, c1, c2, c3].drop 0).take (Try.prog.cellsOf 3)) = some y0 at t0
    change DataW.trod enc Try.prog W 0 (fun _ => true) true n 3 (([c0, c1, c2, c3].drop 1).take (Try.prog.cellsOf 3)) = some y1 at t1
    change DataW.trod enc Try.prog W 0 (fun _ => true) true n 9 (([c0, c1, c2, c3].drop 2).take (Try.prog.cellsOf 9)) = some y2 at t2
    change DataW.trod enc Try.prog W 0 (fun _ => true) true n 46 (([c0, c1, c2, c3].drop 3).take (Try.prog.cellsOf 46)) = some y3 at t3
    rw [cellsOf3] at t0 t1
    rw [cellsOf9] at t2
    rw [cellsOf46] at t3
    simp only [List.drop, List.take] at t0 t1 t2 t3
    obtain ⟨q0, e0, _, w0⟩ := DataW.trod_int Try.underlying3 t0
    obtain ⟨q1, e1, _, w1⟩ := DataW.trod_int Try.underlying3 t1
    obtain ⟨q2, e2, _, w2⟩ := DataW.trod_string Try.underlying9 t2
    simp only [List.cons.injEq, and_true] at e0 e1 e2
    subst e0 e1 e2
    obtain ⟨a, c, cap, rfl, hc8, hci, hcn, hI⟩ := ints_open t3 (fun k hk => hz k (by
      rw [hy]
      simp only [DataW.weights, Try.underlying48, List.map_cons, List.map_nil, DataW.weightsEach, List.mem_append]
      exact Or.inr (Or.inr (Or.inr (Or.inl hk)))))
    exact ⟨⟨⟨q0, q1, q2, c⟩, a, cap⟩, rfl, ⟨i64_of w0, i64_of w1, w2, hc8, hci, hcn⟩, hI⟩

theorem open_arena {v : Value} {d : DataW H} {p : List MemPlace} (hv : ∃ cs, v = .agg cs) (hz : ∀ n ∈ d.weights Try.prog 24, n ≤ reachBytes) (h : DataW.Trod enc Try.prog W 0 (fun _ => true) true 24 v d p) :
    ∃ (a : Option Addr) (l : List N) (cap : Nat), v = .agg #[.slice a l.length cap] ∧ l.length ≤ cap ∧ cap ≤ maxLen ∧ (a = none → l = [] ∧ cap = 0) ∧ Nodes W (· < W.heap.size) a l := by
  obtain ⟨vs, rfl⟩ := hv
  obtain ⟨m, hm⟩ := h
  obtain ⟨xs, n, rfl, hy, hl, hlen, hf⟩ := DataW.trod_struct Try.underlying24 hm
  have hcs : (Value.agg vs).cells.toList = vs.toList := rfl
  rw [hcs] at hf hl
  rw [cellsOf24] at hl
  obtain ⟨L, hL⟩ : ∃ L, L = vs.toList := ⟨_, rfl⟩
  rw [← hL] at hf hl
  have hvs : vs = L.toArray := by rw [hL]
  subst hvs
  clear hL hcs
  match L, hl, xs, hlen with
  | [c0], _, [y0], _ =>
    have t0 := hf 0 _ rfl
    change DataW.trod enc Try.prog W 0 (fun _ => true) true n 22 (([c0].drop 0).take (Try.prog.cellsOf 22)) = some y0 at t0
    rw [cellsOf22] at t0
    simp only [List.drop, List.take] at t0
    have hd : d = .agg [y0.1] := congrArg Prod.fst hy
    have hz0 : ∀ n ∈ y0.1.weights Try.prog 22, n ≤ reachBytes := fun k hk => hz k (by
      rw [hd]
      simp only [DataW.weights, Try.underlying24, List.map_cons, List.map_nil, DataW.weightsEach, List.mem_append]
      exact Or.inl hk)
    rcases DataW.trod_slice Try.underlying22 t0 with ⟨e2, _⟩ | ⟨a, len, cap, elems, rest, k, hk, e2, hy0, _, hlc, hcm, hel, hat, _, _⟩
    · simp only [List.cons.injEq, and_true] at e2
      subst e2
      exact ⟨none, [], 0, rfl, Nat.le_refl _, Nat.zero_le _, fun _ => ⟨rfl, rfl⟩, Nodes.nil _ _ _⟩
    · simp only [List.cons.injEq, and_true] at e2
      subst e2
      have hspot : 0 < len → a.spot = none := fun h0 => by
        have h1 := hat 0 h0
        rw [List.getElem?_eq_getElem (by omega), cellsOf48] at h1
        obtain ⟨cs', hc, _⟩ := Option.bind_eq_some_iff.1 h1
        exact (cells_at (by omega) hc).2.2.2 rfl
      obtain ⟨l, hll, hp⟩ := list_of (fun i (x : N) => x.ok ∧ ∃ b o, some a = some (⟨b, o, none⟩ : Addr) ∧ b < W.heap.size ∧ W.cell? ⟨b, o + i * 4, none⟩ = some (.int .i64 x.g.k) ∧ W.cell? ⟨b, o + i * 4 + 1, none⟩ = some (.int .i64 x.g.w) ∧
          W.cell? ⟨b, o + i * 4 + 2, none⟩ = some (.string x.g.t) ∧ W.cell? ⟨b, o + i * 4 + 3, none⟩ = some (.slice x.a x.g.c.length x.cap) ∧ Ints W (· < W.heap.size) x.a x.g.c) len (fun i hi => by
        have h1 := hat i hi
        rw [List.getElem?_eq_getElem (by omega), cellsOf48] at h1
        obtain ⟨cs', hc, ht⟩ := Option.bind_eq_some_iff.1 h1
        obtain ⟨x, rfl, hxok, hxI⟩ := node_open ht (fun k hk => hz0 k (by
          rw [hy0]
          simp only [DataW.weights, Try.underlying22, List.mem_cons, List.mem_append]
          exact Or.inr (Or.inl (weights_mem_all (List.mem_map.2 ⟨_, List.getElem_mem (by omega), rfl⟩) hk))))
        obtain ⟨hb, _, hcell, _⟩ := cells_at (by omega) hc
        have hs := hspot (by omega)
        obtain ⟨b, o, spot⟩ := a
        have hs' : spot = none := hs
        subst hs'
        exact ⟨x, hxok, b, o, rfl, hb, by simpa [N.cells] using hcell 0 (by omega) rfl, by simpa [N.cells] using hcell 1 (by omega) rfl, by simpa [N.cells] using hcell 2 (by omega) rfl, by simpa [N.cells] using hcell 3 (by omega) rfl, hxI⟩)
      refine ⟨some a, l, cap, by rw [hll], by omega, hcm, fun e => (by cases e), fun i x hx => ?_⟩
      exact hp i x hx
end
end Go.Proofs.Ytjnnilidnceplaa
