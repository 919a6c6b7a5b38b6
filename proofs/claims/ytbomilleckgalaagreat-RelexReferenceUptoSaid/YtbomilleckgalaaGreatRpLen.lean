/-
  lengthOf: how long the source of a tree is, with a map of what is known; its contract.
-/
import Derived.Test.YtbomilleckgalaaGreatRpMap
import Derived.Test.YtbomilleckgalaaGreatRpCons
import Derived.Test.YtbomilleckgalaaGreatGtSlim
namespace Go.Proofs.YtbomilleckgalaaGreat.Ps
open Go.RowKit

/-- At address p in w stands the tree x, no higher than n; all blocks are plain. -/
def TreeAt (w : World) (n : Nat) (p : Addr) (x : Tree) : Prop :=
  x.ok ∧ ∃ b o sa cap, p = ⟨b, o, none⟩ ∧ Pl w b ∧ w.cell? ⟨b, o, none⟩ = some (.int .i64 x.k) ∧ w.cell? ⟨b, o + 1, none⟩ = some (.string x.t) ∧ w.cell? ⟨b, o + 2, none⟩ = some (.slice sa x.c.length cap) ∧ Kids w (Pl w) n sa x.c

theorem Kids.tree {w : World} {n : Nat} {b o : Nat} {l : List Tree} (h : Kids w (Pl w) n (some ⟨b, o, none⟩) l) {i : Nat} {x : Tree} (hx : l[i]? = some x) : ∃ m, m < n ∧ TreeAt w m ⟨b, o + i * 3, none⟩ x := by
  obtain ⟨h0, m, b', o', sa, cap, hm, e, h1, h2, h3, h4, h5⟩ := Kids.at h hx
  cases e
  exact ⟨m, hm, h0, b, o + i * 3, sa, cap, rfl, h1, h2, h3, h4, h5⟩

theorem TreeAt.kept {w w' : World} {n : Nat} {p : Addr} {x : Tree} (h : TreeAt w n p x) (hb : ∀ j, Pl w j → w'.heap[j]? = w.heap[j]?) : TreeAt w' n p x := by
  obtain ⟨h0, b, o, sa, cap, e, h1, h2, h3, h4, h5⟩ := h
  refine ⟨h0, b, o, sa, cap, e, h1.of_block (hb b h1), (World.cell?_of_block (hb b h1)).trans h2, (World.cell?_of_block (hb b h1)).trans h3, (World.cell?_of_block (hb b h1)).trans h4, ?_⟩
  exact (h5.kept fun j _ hj => World.cell?_of_block (hb j hj)).up (fun j hj => hj.of_block (hb j hj)) (Nat.le_refl _)

theorem kids_one {w : World} {S T : Nat → Prop} : ∀ {n m : Nat} {a : Option Addr} {l k : List Tree}, Kids w S n a l → Kids w T m a k → l.length = k.length → l = k
  | 0, _, _, l, k, h, _, hl => by
    have : l = [] := h
    subst this
    exact (List.eq_nil_of_length_eq_zero hl.symm).symm
  | n + 1, m, a, l, k, h, h', hl => by
    apply List.ext_getElem? 
    intro i
    cases hx : l[i]? with
    | none =>
      rw [List.getElem?_eq_none_iff] at hx
      exact (List.getElem?_eq_none (by omega)).symm
    | some x =>
      have hi : i < k.length := by have := (List.getElem?_eq_some_iff.1 hx).1; omega
      obtain ⟨y, hy⟩ : ∃ y, k[i]? = some y := ⟨_, List.getElem?_eq_getElem hi⟩
      obtain ⟨_, b, o, sa, cap, e1, _, p0, p1, p2, hk⟩ := h i x hx
      obtain ⟨_, m', b', o', sa', cap', _, e2, _, q0, q1, q2, hk'⟩ := Kids.at h' hy
      rw [e1] at e2
      cases e2
      rw [p0] at q0
      rw [p1] at q1
      rw [p2] at q2
      have ek : x.k = y.k := by simpa using q0
      have et : x.t = y.t := by simpa using q1
      have es := Value.slice.inj (Option.some.inj q2)
      have ec : x.c = y.c := kids_one hk (by rw [es.1]; exact hk') es.2.1
      rw [hy, tree_ext2 ek et ec]
where
  tree_ext2 {x y : Tree} (hk : x.k = y.k) (ht : x.t = y.t) (hc : x.c = y.c) : x = y := by rw [Tree.eta x, Tree.eta y, hk, ht, hc]

theorem TreeAt.one {w : World} {n m : Nat} {p : Addr} {x y : Tree} (h : TreeAt w n p x) (h' : TreeAt w m p y) : x = y := by
  obtain ⟨_, b, o, sa, cap, e1, _, p0, p1, p2, hk⟩ := h
  obtain ⟨_, b', o', sa', cap', e2, _, q0, q1, q2, hk'⟩ := h'
  rw [e1] at e2
  cases e2
  rw [p0] at q0
  rw [p1] at q1
  rw [p2] at q2
  have ek : x.k = y.k := by simpa using q0
  have et : x.t = y.t := by simpa using q1
  have es := Value.slice.inj (Option.some.inj q2)
  have ec : x.c = y.c := kids_one hk (by rw [es.1]; exact hk') es.2.1
  rw [Tree.eta x, Tree.eta y, ek, et, ec]

/-- How long the source of a tree is. -/
def len (x : Tree) : Nat := (srcT x).length
theorem len_eq (x : Tree) : len x = (if x.k < 100 then 0 else x.t.size) + (srcs x.c).length := by
  unfold len
  rw [srcT_eq, List.length_append]
  split
  · rfl
  · rw [Lx.L_len]
theorem srcs_take {c : List Tree} {k : Nat} {y : Tree} (h : c[k]? = some y) : (srcs (c.take (k + 1))).length = (srcs (c.take k)).length + len y := by
  rw [List.take_add_one, h, srcs_append, List.length_append]
  simp [srcs, len]
theorem srcs_take_le (c : List Tree) (k : Nat) : (srcs (c.take k)).length ≤ (srcs c).length := by
  have h := congrArg List.length (srcs_append (c.take k) (c.drop k))
  rw [List.take_append_drop, List.length_append] at h
  omega
theorem len_le {c : List Tree} {k : Nat} {y : Tree} (h : c[k]? = some y) : len y ≤ (srcs c).length := by
  have h1 := srcs_take h
  have h2 := srcs_take_le c (k + 1)
  omega

/-- The map m knows the tree x at p and all below it. -/
inductive Full (w : World) (m : List (Addr × Int)) : Addr → Tree → Prop
  | mk {b o : Nat} {x : Tree} {n : Nat} (ht : TreeAt w n ⟨b, o, none⟩ x) (hl : len x ≤ 2000000) (hg : get m ⟨b, o, none⟩ = some (len x : Int))
      (hk : ∀ i c b' o' cap, x.c[i]? = some c → w.cell? ⟨b, o + 2, none⟩ = some (.slice (some ⟨b', o', none⟩) x.c.length cap) → Full w m ⟨b', o' + i * 3, none⟩ c) : Full w m ⟨b, o, none⟩ x

theorem Full.get {w : World} {m : List (Addr × Int)} {p : Addr} {x : Tree} (h : Full w m p x) : Ps.get m p = some (len x : Int) := by
  cases h with | mk ht hl hg hk => exact hg
theorem Full.at {w : World} {m : List (Addr × Int)} {p : Addr} {x : Tree} (h : Full w m p x) : ∃ n, TreeAt w n p x := by
  cases h with | mk ht hl hg hk => exact ⟨_, ht⟩
/-- More entries, none lost but one that is not yet known. -/
theorem Full.more {w : World} {m m' : List (Addr × Int)} {p : Addr} {x : Tree} (h : Full w m p x) (hm : ∀ q v, Ps.get m q = some v → v ≠ 2147483647 → Ps.get m' q = some v) : Full w m' p x := by
  induction h with
  | mk ht hl hg hk ih => exact .mk ht hl (hm _ _ hg (by omega)) (fun i c b' o' cap h1 h2 => ih i c b' o' cap h1 h2)

theorem Full.put {w : World} {m : List (Addr × Int)} {p q : Addr} {y : Tree} (h : Full w m q y) (hp : Ps.get m p = some 2147483647) (v : Int) : Full w (put p v m) q y := by
  refine h.more fun r u hr hne => ?_
  rw [get_put]
  split
  · rename_i e; rw [e, hp] at hr; exact absurd (Option.some.inj hr).symm hne
  · exact hr

/-- What the map m says of trees no higher than h is known all below. -/
def Know (w : World) (h : Nat) (m : List (Addr × Int)) : Prop := ∀ p n x v, TreeAt w n p x → x.height ≤ h → Ps.get m p = some v → Full w m p x
/-- m' is m and trees that are known. -/
def Grew (w : World) (m m' : List (Addr × Int)) : Prop := (∀ q v, Ps.get m q = some v → Ps.get m' q = some v) ∧ ∀ q v, Ps.get m' q = some v → Ps.get m q = some v ∨ ∃ y, Full w m' q y
theorem Grew.refl (w : World) (m : List (Addr × Int)) : Grew w m m := ⟨fun _ _ h => h, fun _ _ h => Or.inl h⟩
theorem Grew.trans {w : World} {a b c : List (Addr × Int)} (h : Grew w a b) (h' : Grew w b c) : Grew w a c := by
  refine ⟨fun q v hq => h'.1 q v (h.1 q v hq), fun q v hq => ?_⟩
  rcases h'.2 q v hq with h1 | h1
  · rcases h.2 q v h1 with h2 | ⟨y, h2⟩
    · exact Or.inl h2
    · exact Or.inr ⟨y, h2.more fun r u hr _ => h'.1 r u hr⟩
  · exact Or.inr h1
theorem Know.grew {w : World} {h : Nat} {m m' : List (Addr × Int)} (hk : Know w h m) (hg : Grew w m m') : Know w h m' := by
  intro p n x v ht hh hv
  rcases hg.2 p v hv with h1 | ⟨y, h1⟩
  · exact (hk p n x v ht hh h1).more fun r u hr _ => hg.1 r u hr
  · obtain ⟨n', hy⟩ := h1.at
    rw [ht.one hy]
    exact h1
theorem Know.less {w : World} {h h' : Nat} {m : List (Addr × Int)} (hk : Know w h m) (hle : h' ≤ h) : Know w h' m := fun p n x v ht hh hv => hk p n x v ht (by omega) hv

/-- A tree is begun: it stands in the map without a length. -/
theorem Know.begun {w : World} {m : List (Addr × Int)} {p : Addr} {x : Tree} {n : Nat} (ht : TreeAt w n p x) (hk : Know w x.height m) (hn : Ps.get m p = none) : Know w (x.height - 1) (put p 2147483647 m) := by
  intro q n' y v hy hh hv
  rw [get_put] at hv
  split at hv
  · rename_i e
    rw [e] at hy
    have := hy.one ht
    have := height_eq x
    subst y
    omega
  · refine (hk q n' y v hy (by omega) hv).more fun r u hr _ => ?_
    rw [get_put]
    split
    · rename_i e; rw [e, hn] at hr; cases hr
    · exact hr

/-- .. and complete. -/
theorem Grew.done {w : World} {m mk : List (Addr × Int)} {p : Addr} {x : Tree} (hn : Ps.get m p = none) (hg : Grew w (put p 2147483647 m) mk) (hx : Full w (put p (len x : Int) mk) p x) : Grew w m (put p (len x : Int) mk) := by
  have hp : Ps.get mk p = some 2147483647 := hg.1 p _ (by rw [get_put, if_pos rfl])
  have hmore : ∀ q v, Ps.get mk q = some v → v ≠ 2147483647 → Ps.get (put p (len x : Int) mk) q = some v := fun q v hq hne => by
    rw [get_put]
    split
    · rename_i e; rw [e, hp] at hq; exact absurd (Option.some.inj hq).symm hne
    · exact hq
  refine ⟨fun q v hq => ?_, fun q v hq => ?_⟩
  · have hne : q ≠ p := fun e => by rw [e, hn] at hq; cases hq
    rw [get_put, if_neg hne]
    exact hg.1 q v (by rw [get_put, if_neg hne]; exact hq)
  · by_cases hne : q = p
    · exact Or.inr ⟨x, by rw [hne]; exact hx⟩
    · rw [get_put, if_neg hne] at hq
      rcases hg.2 q v hq with h1 | ⟨y, h1⟩
      · rw [get_put, if_neg hne] at h1; exact Or.inl h1
      · exact Or.inr ⟨y, h1.more hmore⟩

set_option maxHeartbeats 1000000 in
theorem text_any (p : Addr) (x : Tree) (n : Nat) (w : World) (h : TreeAt w n p x) : Calls Tryz.prog 63 #[.pointer (some p)] w fun e w' => e = .returned (.string (if x.k < 100 then ⟨#[]⟩ else x.t)) ∧ w' = w := by
  obtain ⟨_, b, o, sa, cap, rfl, _, h0, h1, _, _⟩ := h
  generalize x.k = k at *
  generalize x.t = t at *
  by_cases hk : k < 100
  · go_enter Tryz.func63, Tryz.ntmps63
    go_wp2_with fail
    go_ret
    exact ⟨rfl, rfl⟩
  · go_enter Tryz.func63, Tryz.ntmps63
    go_wp2_with fail
    go_ret
    exact ⟨rfl, rfl⟩
end Go.Proofs.YtbomilleckgalaaGreat.Ps
