/-
  Nodes of the abstract syntax tree and diagnostics in memory.
-/
import Derived.Test.YtcpojagfnpajeaaGreatDoorRZAsPure
import Derived.Test.YtcpojagfnpajeaaGreatDoorRZPsBase
namespace Go.Proofs.YtcpojagfnpajeaaGreatDoorR.Ps
open Go.RowKit

theorem info_nd : (Tryz.prog.info? 36).map (fun i => (i.zero, i.size, i.bytes)) = some (some (.agg #[.int .i64 0, .int .i64 0, .string ⟨#[]⟩, .int .i64 0, .int .i64 0, .int .i64 0, .slice none 0 0]), 7, 80) := by kernel_rfl
theorem info_dg : (Tryz.prog.info? 73).map (fun i => (i.zero, i.size, i.bytes)) = some (some (.agg #[.int .i64 0, .int .i64 0, .int .i64 0, .int .i64 0, .string ⟨#[]⟩]), 5, 48) := by kernel_rfl

/-! ### nodes -/

def Nd.ok (x : Nd) : Prop := I64 x.k ∧ I64 x.v ∧ x.t.length ≤ maxLen ∧ I64 x.s ∧ I64 x.e ∧ I64 x.ns ∧ x.c.length ≤ maxLen

/-- The cells of a node with the text t, its children at a. -/
def ndCells (x : Nd) (t : List UInt8) (a : Option Addr) (cap : Nat) : List Value := [.int .i64 x.k, .int .i64 x.v, .string (Lx.bs t), .int .i64 x.s, .int .i64 x.e, .int .i64 x.ns, .slice a x.c.length cap]
abbrev nv (x : Nd) (t : List UInt8) (a : Option Addr) (cap : Nat) : Value := .agg #[.int .i64 x.k, .int .i64 x.v, .string (Lx.bs t), .int .i64 x.s, .int .i64 x.e, .int .i64 x.ns, .slice a x.c.length cap]

/-- The seven cells at (b, o). -/
structure Seven (w : World) (b o : Nat) (x : Nd) (t : List UInt8) (a : Option Addr) (cap : Nat) : Prop where
  c0 : w.cell? ⟨b, o, none⟩ = some (.int .i64 x.k)
  c1 : w.cell? ⟨b, o + 1, none⟩ = some (.int .i64 x.v)
  c2 : w.cell? ⟨b, o + 2, none⟩ = some (.string (Lx.bs t))
  c3 : w.cell? ⟨b, o + 3, none⟩ = some (.int .i64 x.s)
  c4 : w.cell? ⟨b, o + 4, none⟩ = some (.int .i64 x.e)
  c5 : w.cell? ⟨b, o + 5, none⟩ = some (.int .i64 x.ns)
  c6 : w.cell? ⟨b, o + 6, none⟩ = some (.slice a x.c.length cap)

/-- The slice at a reads in w as the nodes l, of no greater height than n; S: where the slices begin; T: what the texts may be. -/
def Nds (w : World) (S : Nat → Nat → Prop) (T : Nd → List UInt8 → Prop) : Nat → Option Addr → List Nd → Prop
  | 0, _, l => l = []
  | n + 1, a, l => ∀ i x, l[i]? = some x → x.ok ∧ ∃ b o sa cap t, a = some ⟨b, o, none⟩ ∧ S b o ∧ T x t ∧ x.c.length ≤ cap ∧ cap ≤ maxLen ∧ (sa = none → cap = 0) ∧ Seven w b (o + i * 7) x t sa cap ∧ Nds w S T n sa x.c

theorem Nds.nil (w : World) (S : Nat → Nat → Prop) (T : Nd → List UInt8 → Prop) (n : Nat) (a : Option Addr) : Nds w S T n a [] := by
  cases n with
  | zero => rfl
  | succ n => exact fun i x hx => by simp at hx

/-- The cells of the blocks of S are as they were. -/
def KeptS (S : Nat → Nat → Prop) (w w' : World) : Prop := ∀ b o i, S b o → w'.cell? ⟨b, i, none⟩ = w.cell? ⟨b, i, none⟩

theorem Seven.kept {w w' : World} {b o : Nat} {x : Nd} {t : List UInt8} {a : Option Addr} {cap : Nat} (h : Seven w b o x t a cap) (hk : ∀ i, w'.cell? ⟨b, i, none⟩ = w.cell? ⟨b, i, none⟩) : Seven w' b o x t a cap :=
  ⟨(hk _).trans h.c0, (hk _).trans h.c1, (hk _).trans h.c2, (hk _).trans h.c3, (hk _).trans h.c4, (hk _).trans h.c5, (hk _).trans h.c6⟩

theorem Nds.kept {w w' : World} {S : Nat → Nat → Prop} {T : Nd → List UInt8 → Prop} (hk : KeptS S w w') : ∀ {n : Nat} {a : Option Addr} {l : List Nd}, Nds w S T n a l → Nds w' S T n a l
  | 0, _, _, h => h
  | n + 1, a, l, h => by
    intro i x hx
    obtain ⟨h0, b, o, sa, cap, t, h1, h2, h3, h4, h5, h6, h7, h8⟩ := h i x hx
    exact ⟨h0, b, o, sa, cap, t, h1, h2, h3, h4, h5, h6, h7.kept (fun i => hk b o i h2), h8.kept hk⟩

theorem Nds.up {w : World} {S S' : Nat → Nat → Prop} {T T' : Nd → List UInt8 → Prop} (hs : ∀ b o, S b o → S' b o) (ht : ∀ x t, T x t → T' x t) : ∀ {n : Nat} {a : Option Addr} {l : List Nd} {m : Nat}, Nds w S T n a l → n ≤ m → Nds w S' T' m a l
  | 0, _, _, 0, h, _ => h
  | 0, _, _, m + 1, h, _ => by
    rw [show _ = [] from h]
    intro i x hx
    simp at hx
  | n + 1, a, l, 0, _, hm => absurd hm (by omega)
  | n + 1, a, l, m + 1, h, hm => by
    intro i x hx
    obtain ⟨h0, b, o, sa, cap, t, h1, h2, h3, h4, h5, h6, h7, h8⟩ := h i x hx
    exact ⟨h0, b, o, sa, cap, t, h1, hs _ _ h2, ht _ _ h3, h4, h5, h6, h7, h8.up hs ht (by omega)⟩

theorem Nds.at {w : World} {S : Nat → Nat → Prop} {T : Nd → List UInt8 → Prop} {n : Nat} {a : Option Addr} {l : List Nd} (h : Nds w S T n a l) {i : Nat} {x : Nd} (hx : l[i]? = some x) :
    x.ok ∧ ∃ m b o sa cap t, m < n ∧ a = some ⟨b, o, none⟩ ∧ S b o ∧ T x t ∧ x.c.length ≤ cap ∧ cap ≤ maxLen ∧ (sa = none → cap = 0) ∧ Seven w b (o + i * 7) x t sa cap ∧ Nds w S T m sa x.c := by
  cases n with
  | zero => rw [show l = [] from h] at hx; simp at hx
  | succ n =>
    obtain ⟨h0, b, o, sa, cap, t, h1, h2, h3, h4, h5, h6, h7, h8⟩ := h i x hx
    exact ⟨h0, n, b, o, sa, cap, t, by omega, h1, h2, h3, h4, h5, h6, h7, h8⟩

/-! ### a slice of nodes of one's own -/

/-- A node with its text as it stands and the header of its children. -/
abbrev NE := Nd × List UInt8 × Option Addr × Nat
def ncl (l : List NE) : List Value := l.flatMap fun x => ndCells x.1 x.2.1 x.2.2.1 x.2.2.2
theorem ncl_length (l : List NE) : (ncl l).length = l.length * 7 := by
  induction l with
  | nil => rfl
  | cons x r ih => simp only [ncl, List.flatMap_cons, List.length_append, List.length_cons] at ih ⊢; rw [ih]; simp [ndCells]; omega
theorem ncl_append (a b : List NE) : ncl (a ++ b) = ncl a ++ ncl b := by simp [ncl]
theorem ncl_at {l : List NE} : ∀ {i : Nat} {x : NE}, l[i]? = some x → ∀ j u, (ndCells x.1 x.2.1 x.2.2.1 x.2.2.2)[j]? = some u → (ncl l)[i * 7 + j]? = some u := by
  induction l with
  | nil => intro i x h; simp at h
  | cons y r ih =>
    intro i x h j u hu
    have e : ncl (y :: r) = ndCells y.1 y.2.1 y.2.2.1 y.2.2.2 ++ ncl r := rfl
    have hl : (ndCells y.1 y.2.1 y.2.2.1 y.2.2.2).length = 7 := rfl
    cases i with
    | zero =>
      simp at h
      subst h
      rw [e, List.getElem?_append_left (by have := (List.getElem?_eq_some_iff.1 hu).1; omega)]
      simpa using hu
    | succ i =>
      simp at h
      rw [e, List.getElem?_append_right (by omega), hl, show (i + 1) * 7 + j - 7 = i * 7 + j from by omega]
      exact ih h j u hu
def OwnsNd (w : World) (B : Nat) (v : Value) (l : List NE) : Prop := w.ownsRow B 36 7 v l.length (ncl l)

/-- What hangs below the nodes l. -/
def SubN (w : World) (S : Nat → Nat → Prop) (T : Nd → List UInt8 → Prop) (n : Nat) (l : List NE) : Prop :=
  ∀ x, x ∈ l → x.1.ok ∧ T x.1 x.2.1 ∧ x.1.c.length ≤ x.2.2.2 ∧ x.2.2.2 ≤ maxLen ∧ (x.2.2.1 = none → x.2.2.2 = 0) ∧ Nds w S T n x.2.2.1 x.1.c
theorem SubN.kept {w w' : World} {S : Nat → Nat → Prop} {T : Nd → List UInt8 → Prop} {n : Nat} {l : List NE} (h : SubN w S T n l) (hk : KeptS S w w') : SubN w' S T n l := fun x hx => by
  obtain ⟨h1, h2, h3, h4, h5, h6⟩ := h x hx
  exact ⟨h1, h2, h3, h4, h5, h6.kept hk⟩
theorem SubN.up {w : World} {S S' : Nat → Nat → Prop} {T : Nd → List UInt8 → Prop} {n m : Nat} {l : List NE} (h : SubN w S T n l) (hs : ∀ b o, S b o → S' b o) (hm : n ≤ m) : SubN w S' T m l := fun x hx => by
  obtain ⟨h1, h2, h3, h4, h5, h6⟩ := h x hx
  exact ⟨h1, h2, h3, h4, h5, h6.up hs (fun _ _ h => h) hm⟩
theorem SubN.nil (w : World) (S : Nat → Nat → Prop) (T : Nd → List UInt8 → Prop) (n : Nat) : SubN w S T n [] := fun x hx => by simp at hx
theorem SubN.snoc {w : World} {S : Nat → Nat → Prop} {T : Nd → List UInt8 → Prop} {n : Nat} {l : List NE} {x : NE} (h : SubN w S T n l)
    (hx : x.1.ok ∧ T x.1 x.2.1 ∧ x.1.c.length ≤ x.2.2.2 ∧ x.2.2.2 ≤ maxLen ∧ (x.2.2.1 = none → x.2.2.2 = 0) ∧ Nds w S T n x.2.2.1 x.1.c) : SubN w S T n (l ++ [x]) := by
  intro y hy
  rcases List.mem_append.1 hy with hy | hy
  · exact h y hy
  · simp at hy; subst hy; exact hx

theorem OwnsNd.nds {w : World} {B : Nat} {v : Value} {l : List NE} {S : Nat → Nat → Prop} {T : Nd → List UInt8 → Prop} {n : Nat} (h : OwnsNd w B v l) (hc : SubN w S T n l) (hg : ∀ g, v.ownBlock = some g → S g 0) :
    ∃ a cap, v = .slice a l.length cap ∧ l.length ≤ cap ∧ cap ≤ maxLen ∧ (a = none → cap = 0) ∧ Nds w S T (n + 1) a (l.map Prod.fst) := by
  rcases h.2 with ⟨rfl, h0⟩ | ⟨g, cap, cur, rfl, hb, hh, h1, h2, h3, h4⟩
  · have : l = [] := List.eq_nil_of_length_eq_zero h0
    subst this
    exact ⟨none, 0, rfl, Nat.le_refl _, Nat.zero_le _, fun _ => rfl, Nds.nil _ _ _ _ _⟩
  · refine ⟨some ⟨g, 0, none⟩, cap, rfl, h1, h2, (fun e => by cases e), ?_⟩
    intro i y hy
    have hx : ∃ x, l[i]? = some x ∧ x.1 = y := by
      rw [List.getElem?_map] at hy
      cases hl : l[i]? with
      | none => rw [hl] at hy; simp at hy
      | some x => rw [hl] at hy; exact ⟨x, rfl, by simpa using hy⟩
    obtain ⟨x, hx, rfl⟩ := hx
    have hcell : ∀ j u, (ndCells x.1 x.2.1 x.2.2.1 x.2.2.2)[j]? = some u → w.cell? ⟨g, 0 + i * 7 + j, none⟩ = some u := by
      intro j u hu
      have h5 := ncl_at hx j u hu
      rw [← h4, List.getElem?_take] at h5
      split at h5
      · rw [Nat.zero_add, Lib.cell_of_heap hh]
        simpa using h5
      · cases h5
    obtain ⟨q1, q2, q3, q4, q5, q6⟩ := hc x (List.mem_of_getElem? hx)
    exact ⟨q1, g, 0, x.2.2.1, x.2.2.2, x.2.1, rfl, hg g rfl, q2, q3, q4, q5, ⟨hcell 0 _ rfl, hcell 1 _ rfl, hcell 2 _ rfl, hcell 3 _ rfl, hcell 4 _ rfl, hcell 5 _ rfl, hcell 6 _ rfl⟩, q6⟩

/-! ### diagnostics -/

def dgCells (d : Dg) : List Value := [.int .i64 d.c, .int .i64 0, .int .i64 d.s, .int .i64 d.e, .string ⟨#[]⟩]
def dcl (l : List Dg) : List Value := l.flatMap dgCells
theorem dcl_length (l : List Dg) : (dcl l).length = l.length * 5 := by
  induction l with
  | nil => rfl
  | cons x r ih => simp only [dcl, List.flatMap_cons, List.length_append, List.length_cons] at ih ⊢; rw [ih]; simp [dgCells]; omega
theorem dcl_append (a b : List Dg) : dcl (a ++ b) = dcl a ++ dcl b := by simp [dcl]
theorem dcl_one (l : List Dg) : ∀ u, u ∈ dcl l → u.oneCell' = true := by
  intro u hu
  obtain ⟨x, _, hx⟩ := List.mem_flatMap.1 hu
  simp [dgCells] at hx
  rcases hx with rfl | rfl | rfl | rfl | rfl <;> rfl
def OwnsD (w : World) (B : Nat) (v : Value) (l : List Dg) : Prop := w.ownsRow B 73 5 v l.length (dcl l)
theorem OwnsD.nil (w : World) (B : Nat) : OwnsD w B (.slice none 0 0) [] := World.ownsRow_nil w B 73 5

/-! ### the builder -/

/-- The builder at block b: its source, the offset, the diagnostics so far; everything it has laid since there were n0 blocks. -/
structure BldIn (w : World) (b n0 : Nat) (src : List UInt8) (o : Nat) (v : Value) (d : List Dg) : Prop where
  hb : w.heap[b]? = some (.cells #[.string (Lx.bs src), .int .i64 o, v] 104 (0, 0))
  own : OwnsD w n0 v d
  ne : v.ownBlock ≠ some b
  nb : n0 ≤ b
end Go.Proofs.YtcpojagfnpajeaaGreatDoorR.Ps
