/-
  slices.Grow from nil and slices.Concat, of lists of trees, by their contracts.
-/
import Derived.Test.YtbomilleckgalaaGreatRpLen
import Derived.Lib.AppendZeros
import Derived.Laws.AppendOwnNone
namespace Go.Proofs.YtbomilleckgalaaGreat.Ps
open Go.RowKit

set_option maxHeartbeats 1000000 in
set_option maxRecDepth 100000 in
theorem growT_nil (n : Nat) (w : World) (hn : n ≤ 100000) :
    Calls Tryz.prog 62 #[.slice none 0 0, .int .i64 n] w fun e w' => ∃ v, e = .returned v ∧ Hid (OwnsT w' w.heap.size v []) ∧ Below w.heap.size w w' := by
  obtain ⟨i0, hi, hz0, hz1, hz2⟩ := info_parts info_tree
  by_cases h0 : n = 0
  · subst h0
    go_enter Tryz.func62, Tryz.ntmps62
    go_wp2_with fail
    go_ret
    exact ⟨_, rfl, World.ownsRow_nil _ _ 40 3, Below.refl _ _⟩
  · have g0 : (0 : Int) < n := by omega
    have g1 : (n : Int) ≤ 100000 := by omega
    have hap := fun ty => Lib.run_append_nil_zeros (P := Tryz.prog) w 38 3 ty 40 i0 _ .i64 .i64 Tryz.underlying38 Tryz.underlying3 hi hz0 n (by omega) (by rw [hz1]; omega) (by omega) (by rw [hz2]; omega)
    have hge := grownCap_ge w n 0 40
    have hle := grownCap_le_maxLen w n 0 40 (by unfold maxLen; omega)
    generalize grownCap w n 0 40 = G at *
    obtain ⟨cur, hcur⟩ : ∃ cur, cur = Builtin.zeroCells (Value.agg #[.int .i64 0, .string ⟨#[]⟩, .slice none 0 0]).cells n ++ Builtin.zeroCells (Value.agg #[.int .i64 0, .string ⟨#[]⟩, .slice none 0 0]).cells (G - n) := ⟨_, rfl⟩
    rw [← hcur] at hap
    have hcs : cur.size = G * 3 := by
      rw [hcur, Array.size_append, size_zeroCells, size_zeroCells]
      show n * 3 + (G - n) * 3 = G * 3
      omega
    clear hcur
    have HC := Lib.hid hcs
    have HLE := Lib.hid hle
    have g2 : (n : Int) ≤ G := by omega
    have g3 : (G : Int) ≤ 9223372036854775807 := by unfold maxLen at hle; omega
    clear hcs hle hge
    go_enter Tryz.func62, Tryz.ntmps62
    go_wp2_with (at_builtin; refine Lib.wpList_append_run _ rfl _ _ _ _ rfl _ _ rfl rfl _ _ (hap _) ?_)
    go_ret
    refine ⟨_, rfl, ?_, ?_⟩
    · exact World.ownsRow_made w.drew _ _ (Nat.le_refl _) HLE.out HC.out
    · exact (below_drewN' (Below.refl _ _) 1).alloc (Nat.le_refl _) _

/-- A tree with the header of its children. -/
abbrev TN := Tree × Option Addr × Nat
theorem OwnsT.lower {w : World} {B B0 : Nat} {v : Value} {l : List TN} (h : OwnsT w B v l) (hB : B0 ≤ B) : OwnsT w B0 v l :=
  ⟨h.1, h.2.elim .inl fun ⟨g, cap, cur, hv, hb, hg⟩ => .inr ⟨g, cap, cur, hv, Nat.le_trans hB hb, hg⟩⟩
theorem tcellsOnes (l : List TN) : ∀ u, u ∈ tcells l → u.oneCell' = true := by
  intro u hu
  obtain ⟨x, _, hx⟩ := List.mem_flatMap.1 hu
  simp at hx
  rcases hx with rfl | rfl | rfl <;> rfl
/-- The value v is a slice that reads as the trees l. -/
def PartT (w : World) (B : Nat) (v : Value) (l : List TN) : Prop :=
  ∃ a c, v = .slice a l.length c ∧ (a = none → l = [] ∧ c = 0) ∧ ∀ j u, (tcells l)[j]? = some u → ∃ b o, a = some ⟨b, o, none⟩ ∧ b < B ∧ w.cell? ⟨b, o + j, none⟩ = some u
theorem PartT.below {w w' : World} {B B' : Nat} {v : Value} {l : List TN} (h : PartT w B v l) (hb : Below B w w') (hB : B ≤ B') : PartT w' B' v l := by
  obtain ⟨a, c, h1, h2, h3⟩ := h
  refine ⟨a, c, h1, h2, fun j u hu => ?_⟩
  obtain ⟨b, o, e, hlt, hc⟩ := h3 j u hu
  exact ⟨b, o, e, by omega, (hb.cell (p := ⟨b, o + j, none⟩) hlt).trans hc⟩
theorem PartT.src {w : World} {B : Nat} {v : Value} {l : List TN} (h : PartT w B v l) : SrcIs w v l.length 3 (tcells l) := by
  obtain ⟨a, c, rfl, h2, h3⟩ := h
  refine ⟨tcells_length l, tcellsOnes l, ?_⟩
  cases a with
  | none =>
    obtain ⟨rfl, rfl⟩ := h2 rfl
    exact .inl ⟨rfl, rfl⟩
  | some ad =>
    refine .inr ⟨ad, c, rfl, fun j u hu => ?_⟩
    obtain ⟨b, o, e, _, hc⟩ := h3 j u hu
    cases e
    have hadd : (⟨b, o, none⟩ : Addr).add j = ⟨b, o + j, none⟩ := by unfold Addr.add; split <;> simp_all
    rw [hadd]
    exact hc

theorem pick_list {α : Type} (p : Nat → α → Prop) : ∀ (n : Nat), (∀ i, i < n → ∃ x, p i x) → ∃ l : List α, l.length = n ∧ ∀ i x, l[i]? = some x → p i x
  | 0, _ => ⟨[], rfl, fun i x h => by simp at h⟩
  | n + 1, h => by
    obtain ⟨l, h1, h2⟩ := pick_list p n (fun i hi => h i (by omega))
    obtain ⟨x, hx⟩ := h n (by omega)
    refine ⟨l ++ [x], by simp [h1], fun i y hy => ?_⟩
    by_cases hi : i < l.length
    · rw [List.getElem?_append_left hi] at hy; exact h2 i y hy
    · have hi2 := (List.getElem?_eq_some_iff.1 hy).1
      simp at hi2
      have : i = l.length := by omega
      subst this
      rw [List.getElem?_append_right (Nat.le_refl _), Nat.sub_self] at hy
      simp at hy
      subst hy
      rw [h1]; exact hx

/-- Trees in memory with the headers of their children. -/
theorem kids_parts {w : World} {S : Nat → Prop} {n : Nat} {a : Option Addr} {l : List Tree} (h : Kids w S n a l) : ∃ d : List TN, d.map Prod.fst = l ∧ Sub w S n d ∧
    ∀ j u, (tcells d)[j]? = some u → ∃ b o, a = some ⟨b, o, none⟩ ∧ S b ∧ w.cell? ⟨b, o + j, none⟩ = some u := by
  obtain ⟨d, h1, h2⟩ := pick_list (α := TN) (fun i x => l[i]? = some x.1 ∧ x.1.ok ∧ Kids w S n x.2.1 x.1.c ∧ ∃ b o, a = some ⟨b, o, none⟩ ∧ S b ∧ w.cell? ⟨b, o + i * 3, none⟩ = some (.int .i64 x.1.k) ∧ w.cell? ⟨b, o + i * 3 + 1, none⟩ = some (.string x.1.t) ∧
      w.cell? ⟨b, o + i * 3 + 2, none⟩ = some (.slice x.2.1 x.1.c.length x.2.2)) l.length (fun i hi => by
    obtain ⟨h0, m, b, o, sa, cap, hm, e, hS, p0, p1, p2, hk⟩ := Kids.at h (List.getElem?_eq_getElem hi)
    exact ⟨(l[i], sa, cap), List.getElem?_eq_getElem hi, h0, hk.up (fun _ h => h) (by omega), b, o, e, hS, p0, p1, p2⟩)
  refine ⟨d, ?_, ?_, ?_⟩
  · apply List.ext_getElem?
    intro i
    rw [List.getElem?_map]
    cases hd : d[i]? with
    | none =>
      rw [List.getElem?_eq_none_iff] at hd
      exact (List.getElem?_eq_none (by omega)).symm
    | some x => exact (h2 i x hd).1.symm
  · intro x hx
    obtain ⟨i, hi⟩ := List.getElem?_of_mem hx
    have := h2 i x hi
    exact ⟨this.2.1, this.2.2.1⟩
  · intro j u hu
    have hj := (List.getElem?_eq_some_iff.1 hu).1
    rw [tcells_length] at hj
    have hi : d[j / 3]? = some (d[j / 3]'(by omega)) := List.getElem?_eq_getElem _
    obtain ⟨_, _, _, b, o, e, hS, p0, p1, p2⟩ := h2 _ _ hi
    obtain ⟨q0, q1, q2⟩ := tcells_at hi
    refine ⟨b, o, e, hS, ?_⟩
    have hm : j % 3 = 0 ∨ j % 3 = 1 ∨ j % 3 = 2 := by omega
    rcases hm with hm | hm | hm
    · have ej : j / 3 * 3 = j := by omega
      rw [ej] at q0 p0
      rw [p0, ← q0, hu]
    · have ej : j / 3 * 3 + 1 = j := by omega
      rw [ej] at q1
      rw [Nat.add_assoc, ej] at p1
      rw [p1, ← q1, hu]
    · have ej : j / 3 * 3 + 2 = j := by omega
      rw [ej] at q2
      rw [Nat.add_assoc, ej] at p2
      rw [p2, ← q2, hu]

/-- The lists, one behind the other. -/
def joined (ls : List (Value × List TN)) : List TN := ls.flatMap fun x => x.2

theorem joined_next {ls : List (Value × List TN)} {k : Nat} {x : Value × List TN} (h : ls[k]? = some x) : joined (ls.take (k + 1)) = joined (ls.take k) ++ x.2 := by
  unfold joined
  rw [List.take_add_one, h]
  simp

theorem joined_le (ls : List (Value × List TN)) (k : Nat) : (joined (ls.take k)).length ≤ (joined ls).length := by
  have e : joined ls = joined (ls.take k) ++ joined (ls.drop k) := by
    unfold joined
    rw [← List.flatMap_append, List.take_append_drop]
  rw [e, List.length_append]
  omega

set_option maxHeartbeats 2000000 in
set_option maxRecDepth 100000 in
theorem concatT_any (ls : List (Value × List TN)) (g : Nat) (w : World) (hn : ls.length ≤ 1000) (hsum : (joined ls).length ≤ 100000) (hg : g < w.heap.size)
    (hc : ∀ i x, ls[i]? = some x → w.cell? ⟨g, i, none⟩ = some x.1) (hp : ∀ x ∈ ls, PartT w w.heap.size x.1 x.2) :
    Calls Tryz.prog 35 #[.slice (some ⟨g, 0, none⟩) ls.length ls.length] w fun e w' => ∃ v, e = .returned v ∧ Hid (OwnsT w' w.heap.size v (joined ls)) ∧ Below w.heap.size w w' := by
  obtain ⟨i0, hi, hz0, hz1, hz2⟩ := info_parts info_tree
  have HC := Lib.hid hc
  have HP := Lib.hid hp
  have HN := Lib.hid (fun k x h => @joined_next ls k x h)
  have HLE := Lib.hid (joined_le ls)
  have KG := Lib.hid (fun W => growT_nil (joined ls).length W hsum)
  clear hc hp
  go_enter Tryz.func35, Tryz.ntmps35
  go_wp2_with fail
  go_loopw [3, 11] (fun s i wr => ∃ k : Nat, k ≤ ls.length ∧ i = .int .i64 k ∧ s = .int .i64 (joined (ls.take k)).length ∧ Below w.heap.size w wr)
    (fun _ i _ => ls.length - (intOf i).toNat)
  case atStart => exact ⟨0, Nat.zero_le _, rfl, rfl, Below.refl _ _⟩
  case round =>
    obtain ⟨k, hk, rfl, rfl, hb⟩ := hrel
    by_cases hlt : k < ls.length
    · have hx : ls[k]? = some ls[k] := List.getElem?_eq_getElem hlt
      obtain ⟨x, hX⟩ : ∃ x, x = ls[k] := ⟨_, rfl⟩
      have hxm : x ∈ ls := by rw [hX]; exact List.getElem_mem hlt
      rw [← hX] at hx
      clear hX
      have p0 := (hb.cell (p := ⟨g, k, none⟩) hg).trans (HC.out k x hx)
      obtain ⟨a, c, hv, _, _⟩ := HP.out x hxm
      have hj := congrArg List.length (HN.out k x hx)
      rw [List.length_append] at hj
      have HJ := Lib.hid hj
      have hle := HLE.out (k + 1)
      rw [hv] at p0
      have g0 : ((joined (ls.take k)).length : Int) + x.2.length ≤ 100000 := by omega
      have hk0 : (0 : Int) ≤ (k : Int) := by omega
      have hk1 : (k : Int) < (ls.length : Int) := by omega
      clear hx hxm hj hle hv
      obtain ⟨q, hq⟩ : ∃ q, q = (joined (ls.take k)).length := ⟨_, rfl⟩
      have HQ := Lib.hid hq
      rw [← hq] at g0 ⊢
      clear hq
      obtain ⟨m, hm⟩ : ∃ m, m = x.2.length := ⟨_, rfl⟩
      have HM := Lib.hid hm
      rw [← hm] at g0 p0
      clear hm
      have g1 : ¬ ((q : Int) + m < 0) := by omega
      go_wp2_with fail
      go_roundw
      case rel => exact ⟨k + 1, by omega, by go_num, by rw [HJ.out, ← HQ.out, ← HM.out]; go_num, hb⟩
      case measure => simp [intOf]; omega
    · obtain rfl : k = ls.length := by omega
      have hsz := hb.size
      rw [List.take_length]
      clear hlt hk
      go_wp2_with fail
      refine (KG.out wr).mono ?_
      rintro e w1 ⟨v0, rfl, hown0, hb1⟩
      have hb2 := hb.trans (hb1.mono hsz)
      have hown1 : Hid (OwnsT w1 w.heap.size v0 []) := OwnsT.lower hown0.out hsz
      have hsz1 := hb2.size
      clear hown0 hb1 hb hsz KG
      go_wp2_with fail
      go_loopw [6, 27] (fun v i wr => ∃ k : Nat, k ≤ ls.length ∧ i = .int .i64 k ∧ Hid (OwnsT wr w.heap.size v (joined (ls.take k))) ∧ Below w.heap.size w wr)
        (fun _ i _ => ls.length - (intOf i).toNat)
      case atStart => exact ⟨0, Nat.zero_le _, rfl, hown1, hb2⟩
      case round =>
        obtain ⟨k, hk, rfl, hown, hb⟩ := hrel
        have hzw := hb.size
        by_cases hlt : k < ls.length
        · have hx : ls[k]? = some ls[k] := List.getElem?_eq_getElem hlt
          obtain ⟨x, hX⟩ : ∃ x, x = ls[k] := ⟨_, rfl⟩
          have hxm : x ∈ ls := by rw [hX]; exact List.getElem_mem hlt
          rw [← hX] at hx
          clear hX
          have p0 := (hb.cell (p := ⟨g, k, none⟩) hg).trans (HC.out k x hx)
          have HS := Lib.hid ((HP.out x hxm).below hb hzw).src
          have HJ := Lib.hid (HN.out k x hx)
          have hj := congrArg List.length HJ.out
          rw [List.length_append] at hj
          have hle := HLE.out (k + 1)
          have hle2 : (joined (ls.take k)).length + x.2.length ≤ 100000 := by omega
          have HM := Lib.hid hle2
          have hk0 : (0 : Int) ≤ (k : Int) := by omega
          have hk1 : (k : Int) < (ls.length : Int) := by omega
          obtain ⟨sv, sl⟩ := x
          clear hx hxm hj hle hle2
          simp only at p0
          go_wp2_with (at_builtin; refine wpList_append_src rfl (.tmp 31) (.tmp 32) 38 rfl w.heap.size 40 i0 _ 3 48 Tryz.underlying38 hi hz0 hz1 hz2 rfl (by decide) _ _ _ rfl hown.out sv _ _ rfl HS.out (by have := HM.out; unfold maxLen; omega) (by have := HM.out; omega) hzw ?_)
          intro v' w5 hown' hgrow _
          have hown5 : Hid (OwnsT w5 w.heap.size v' (joined (ls.take (k + 1)))) := by
            show World.ownsRow _ _ _ _ _ _ _
            rw [HJ.out, tcells_append, List.length_append]
            exact hown'
          have hb5 : Below w.heap.size w w5 := hb.grown hgrow hzw (fun j hj => (World.ownsRow.lt hown.out j hj).1)
          clear hown' hgrow hown HS
          go_wp2_with fail
          go_roundw
          case rel => exact ⟨k + 1, by omega, by go_num, hown5, hb5⟩
          case measure => simp [intOf]; omega
        · obtain rfl : k = ls.length := by omega
          have hown2 : Hid (OwnsT wr w.heap.size u6 (joined ls)) := by have := hown; rwa [List.take_length] at this
          clear hown
          go_wp2_with fail
          go_ret
          exact ⟨_, rfl, hown2, hb⟩
end Go.Proofs.YtbomilleckgalaaGreat.Ps
