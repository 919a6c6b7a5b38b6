/-
  slices.Concat of slices of tokens by its contract.
-/
import Derived.Test.YtibiniokbcjjeaaRxGrow
import Derived.Test.YtibiniokbcjjeaaLxTok
import Derived.Laws.AppendOwnNone
namespace Go.Proofs.Ytibiniokbcjjeaa
open Go.RowKit

/-- The slice value x yields m elements of the given size: the cells news. -/
def SrcIs (w : World) (x : Value) (m size : Nat) (news : List Value) : Prop :=
  news.length = m * size ∧ (∀ u, u ∈ news → u.oneCell' = true) ∧ ((x = .slice none 0 0 ∧ m = 0) ∨ ∃ ad c, x = .slice (some ad) m c ∧ ∀ j u, news[j]? = some u → w.cell? (ad.add j) = some u)

theorem wpList_append_src {P : Program} {w : World} {ops : Array Oper} {rest : List Oper} {o : Oper} {a : Act} {Q : Exit → Act → World → Prop} (hgd : o.guard = none) (s x : Operand) (t : TypeId)
    (ho : o.op = .call { callee := .builtin .append, args := #[s, x], argTypes := #[t, t] })
    (base : Nat) (e : TypeId) (i : TypeInfo) (z : Value) (size bytes : Nat) (ht : P.underlying t = some (.slice e)) (hi : P.info? e = some i) (hz : i.zero = some z)
    (hsize : i.size = size) (hby : i.bytes = bytes) (hzs : z.cells.size = size) (hsz : 0 < size)
    (v : Value) (n : Nat) (xs : List Value) (hs : a.eval s = v) (hown : w.ownsRow base e size v n xs)
    (xv : Value) (m : Nat) (news : List Value) (hx : a.eval x = xv) (hsrc : SrcIs w xv m size news)
    (h63 : n + m ≤ maxLen) (hbytes : (n + m) * bytes ≤ 140737488355328) (hbase : base ≤ w.heap.size)
    (h : ∀ v' w', w'.ownsRow base e size v' (n + m) (xs ++ news) → w.grownBy w' v.ownBlock → wpList P ops Q rest (a.put o.dst v') w') : wpList P ops Q (o :: rest) a w := by
  obtain ⟨hl, h1, hc | ⟨ad, c, rfl, hc⟩⟩ := hsrc
  · obtain ⟨rfl, rfl⟩ := hc
    have hn : news = [] := List.eq_nil_of_length_eq_zero (by simpa using hl)
    subst hn
    refine wpList_append_own_none hgd s x t ho base e i size ht hi v n xs hs hown hx ?_
    exact h v w (by simpa using hown) ⟨rfl, rfl, rfl, Nat.le_refl _, fun _ _ _ => rfl⟩
  · exact wpList_append_own w hgd s x t ho base e i z size bytes ht hi hz hsize hby hzs hsz v n xs hs hown ad m c news hx hl hc h1 h63 hbytes hbase fun v' w' a b _ => h v' w' a b

theorem cellsT_one (l : List Tk) : ∀ u, u ∈ cellsT l → u.oneCell' = true := by
  intro u hu
  obtain ⟨x, _, hx⟩ := List.mem_flatMap.1 hu
  simp [tkCells] at hx
  rcases hx with rfl | rfl <;> rfl

/-- The value v is a slice that reads as the list l of tokens. -/
def Part (w : World) (B : Nat) (v : Value) (l : List Tk) : Prop := ∃ a c, v = .slice a l.length c ∧ (a = none → c = 0) ∧ Tks w B a l

theorem Part.below {w w' : World} {B B' : Nat} {v : Value} {l : List Tk} (h : Part w B v l) (hb : Below B w w') (hB : B ≤ B') : Part w' B' v l := by
  obtain ⟨a, c, h1, h2, h3⟩ := h
  exact ⟨a, c, h1, h2, h3.below hb hB⟩

theorem Part.src {w : World} {B : Nat} {v : Value} {l : List Tk} (h : Part w B v l) : SrcIs w v l.length 2 (cellsT l) := by
  obtain ⟨a, c, rfl, h2, h3⟩ := h
  refine ⟨cellsT_length l, cellsT_one l, ?_⟩
  cases a with
  | none =>
    obtain rfl := h2 rfl
    have hl : l = [] := by
      cases l with
      | nil => rfl
      | cons x r => obtain ⟨_, _, h, _⟩ := h3 0 x rfl; cases h
    subst hl
    exact .inl ⟨rfl, rfl⟩
  | some ad =>
    refine .inr ⟨ad, c, rfl, fun j u hu => ?_⟩
    have hj : j < (cellsT l).length := (List.getElem?_eq_some_iff.1 hu).1
    rw [cellsT_length] at hj
    have hi : l[j / 2]? = some (l[j / 2]'(by omega)) := List.getElem?_eq_getElem _
    obtain ⟨b, o, e, _, q0, q1⟩ := h3 _ _ hi
    obtain ⟨z0, z1⟩ := cellsT_at hi
    cases e
    have hadd : (⟨b, o, none⟩ : Addr).add j = ⟨b, o + j, none⟩ := by unfold Addr.add; split <;> simp_all
    rw [hadd]
    rcases Nat.mod_two_eq_zero_or_one j with h | h
    · have ej : j / 2 * 2 = j := by omega
      rw [ej] at z0 q0
      rw [q0, ← z0, hu]
    · have ej : j / 2 * 2 + 1 = j := by omega
      rw [Nat.add_assoc, ej] at q1
      rw [ej] at z1
      rw [q1, ← z1, hu]

/-- The lists, one behind the other. -/
def joined (ls : List (Value × List Tk)) : List Tk := ls.flatMap fun x => x.2

theorem joined_next {ls : List (Value × List Tk)} {k : Nat} {x : Value × List Tk} (h : ls[k]? = some x) : joined (ls.take (k + 1)) = joined (ls.take k) ++ x.2 := by
  unfold joined
  rw [List.take_add_one, h]
  simp

theorem joined_le (ls : List (Value × List Tk)) (k : Nat) : (joined (ls.take k)).length ≤ (joined ls).length := by
  have e : joined ls = joined (ls.take k) ++ joined (ls.drop k) := by
    unfold joined
    rw [← List.flatMap_append, List.take_append_drop]
  rw [e, List.length_append]
  omega

set_option maxHeartbeats 2000000 in
set_option maxRecDepth 100000 in
theorem concat_any (ls : List (Value × List Tk)) (g : Nat) (w : World) (hn : ls.length ≤ 1000) (hsum : (joined ls).length ≤ 100000) (hg : g < w.heap.size)
    (hc : ∀ i x, ls[i]? = some x → w.cell? ⟨g, i, none⟩ = some x.1) (hp : ∀ x ∈ ls, Part w w.heap.size x.1 x.2) :
    Calls Try.prog 21 #[.slice (some ⟨g, 0, none⟩) ls.length ls.length] w fun e w' => ∃ v, e = .returned v ∧ Hid (OwnsT w' w.heap.size v (joined ls)) ∧ Below w.heap.size w w' := by
  obtain ⟨i0, hi, hz0, hz1, hz2⟩ := info_parts info_tok
  have HC := Lib.hid hc
  have HP := Lib.hid hp
  have HN := Lib.hid (fun k x h => @joined_next ls k x h)
  have HLE := Lib.hid (joined_le ls)
  have KG := Lib.hid (fun W => grow_nil (joined ls).length W hsum)
  clear hc hp
  go_enter Try.func21, Try.ntmps21
  go_wp2_with fail
  go_loopw [3, 11] (fun s i wr => ∃ k : Nat, k ≤ ls.length ∧ i = .int .i64 k ∧ s = .int .i64 (joined (ls.take k)).length ∧ Below w.heap.size w wr)
    (fun _ i _ => ls.length - (intOf i).toNat)
  case atStart => exact ⟨0, Nat.zero_le _, rfl, rfl, Below.refl _ _⟩
  case round =>
    obtain ⟨k, hk, rfl, rfl, hb⟩ := hrel
    by_cases hlt : k < ls.length
    · have hx : ls[k]? = some ls[k] := List.getElem?_eq_getElem hlt
      obtain ⟨x, hX⟩ : ∃ x, x = ls[k] := ⟨_, rfl⟩
      have hxm : x ∈ ls := by rw [hX]; exact List.getElem_mem hlt
      rw [← hX] at hx
      clear hX
      have p0 := (hb.cell (p := ⟨g, k, none⟩) hg).trans (HC.out k x hx)
      obtain ⟨a, c, hv, _, _⟩ := HP.out x hxm
      have hj := congrArg List.length (HN.out k x hx)
      rw [List.length_append] at hj
      have HJ := Lib.hid hj
      have hle := HLE.out (k + 1)
      rw [hv] at p0
      have g0 : ((joined (ls.take k)).length : Int) + x.2.length ≤ 100000 := by omega
      have hk0 : (0 : Int) ≤ (k : Int) := by omega
      have hk1 : (k : Int) < (ls.length : Int) := by omega
      clear hx hxm hj hle hv
      obtain ⟨q, hq⟩ : ∃ q, q = (joined (ls.take k)).length := ⟨_, rfl⟩
      have HQ := Lib.hid hq
      rw [← hq] at g0 ⊢
      clear hq
      obtain ⟨m, hm⟩ : ∃ m, m = x.2.length := ⟨_, rfl⟩
      have HM := Lib.hid hm
      rw [← hm] at g0 p0
      clear hm
      have g1 : ¬ ((q : Int) + m < 0) := by omega
      go_wp2_with fail
      go_roundw
      case rel => exact ⟨k + 1, by omega, by go_num, by rw [HJ.out, ← HQ.out, ← HM.out]; go_num, hb⟩
      case measure => simp [intOf]; omega
    · obtain rfl : k = ls.length := by omega
      have hsz := hb.size
      rw [List.take_length]
      clear hlt hk
      go_wp2_with fail
      refine (KG.out wr).mono ?_
      rintro e w1 ⟨v0, rfl, hown0, hb1⟩
      have hb2 := hb.trans (hb1.mono hsz)
      have hown1 : Hid (OwnsT w1 w.heap.size v0 []) := hown0.out.lower hsz
      have hsz1 := hb2.size
      clear hown0 hb1 hb hsz KG
      go_wp2_with fail
      go_loopw [6, 27] (fun v i wr => ∃ k : Nat, k ≤ ls.length ∧ i = .int .i64 k ∧ Hid (OwnsT wr w.heap.size v (joined (ls.take k))) ∧ Below w.heap.size w wr)
        (fun _ i _ => ls.length - (intOf i).toNat)
      case atStart => exact ⟨0, Nat.zero_le _, rfl, hown1, hb2⟩
      case round =>
        obtain ⟨k, hk, rfl, hown, hb⟩ := hrel
        have hzw := hb.size
        by_cases hlt : k < ls.length
        · have hx : ls[k]? = some ls[k] := List.getElem?_eq_getElem hlt
          obtain ⟨x, hX⟩ : ∃ x, x = ls[k] := ⟨_, rfl⟩
          have hxm : x ∈ ls := by rw [hX]; exact List.getElem_mem hlt
          rw [← hX] at hx
          clear hX
          have p0 := (hb.cell (p := ⟨g, k, none⟩) hg).trans (HC.out k x hx)
          have HS := Lib.hid ((HP.out x hxm).below hb hzw).src
          have HJ := Lib.hid (HN.out k x hx)
          have hj := congrArg List.length HJ.out
          rw [List.length_append] at hj
          have hle := HLE.out (k + 1)
          have hle2 : (joined (ls.take k)).length + x.2.length ≤ 100000 := by omega
          have HM := Lib.hid hle2
          have hk0 : (0 : Int) ≤ (k : Int) := by omega
          have hk1 : (k : Int) < (ls.length : Int) := by omega
          obtain ⟨sv, sl⟩ := x
          clear hx hxm hj hle hle2
          simp only at p0
          go_wp2_with (at_builtin; refine wpList_append_src rfl (.tmp 31) (.tmp 32) 25 rfl w.heap.size 37 i0 _ 2 24 Try.underlying25 hi hz0 hz1 hz2 rfl (by decide) _ _ _ rfl hown.out sv _ _ rfl HS.out (by have := HM.out; unfold maxLen; omega) (by have := HM.out; omega) hzw ?_)
          intro v' w5 hown' hgrow
          have hown5 : Hid (OwnsT w5 w.heap.size v' (joined (ls.take (k + 1)))) := by
            show World.ownsRow _ _ _ _ _ _ _
            rw [HJ.out, cellsT_append, List.length_append]
            exact hown'
          have hb5 : Below w.heap.size w w5 := hb.grown hgrow hzw (fun j hj => (hown.out.lt j hj).1)
          clear hown' hgrow hown HS
          go_wp2_with fail
          go_roundw
          case rel => exact ⟨k + 1, by omega, by go_num, hown5, hb5⟩
          case measure => simp [intOf]; omega
        · obtain rfl : k = ls.length := by omega
          have hown2 : Hid (OwnsT wr w.heap.size u6 (joined ls)) := by have := hown; rwa [List.take_length] at this
          clear hown
          go_wp2_with fail
          go_ret
          exact ⟨_, rfl, hown2, hb⟩
end Go.Proofs.Ytibiniokbcjjeaa
