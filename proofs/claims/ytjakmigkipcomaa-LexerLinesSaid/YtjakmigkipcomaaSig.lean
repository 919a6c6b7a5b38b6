/-
  glossatorkeep1.significant by its contract; appending from whatever source of tokens.
-/
import Derived.Test.YtjakmigkipcomaaKeep
import Derived.Laws.AppendOwnNone
namespace Go.Proofs.Ytjakmigkipcomaa
open Go.RowKit

theorem sig_take_no {l : List Tk} {k : Nat} {x : Tk} (h : l[k]? = some x) (hx : x.1 = 101) : sig (l.take (k + 1)) = sig (l.take k) := by
  unfold sig
  rw [List.take_add_one, h]
  simp [hx]

theorem sig_take_yes {l : List Tk} {k : Nat} {x : Tk} (h : l[k]? = some x) (hx : ¬ x.1 = 101) : sig (l.take (k + 1)) = sig (l.take k) ++ [x] := by
  unfold sig
  rw [List.take_add_one, h]
  simp [hx]

theorem sig_length (l : List Tk) : (sig l).length ≤ l.length := List.length_filter_le _ _

set_option maxHeartbeats 1000000 in
set_option maxRecDepth 100000 in
theorem sig_any (l : List Tk) (a : Option Addr) (cap : Nat) (w : World) (hl : l.length ≤ 100000) (h : Tks w w.heap.size a l) :
    Calls Try.prog 19 #[.slice a l.length cap] w fun e w' => ∃ v, e = .returned v ∧ Hid (OwnsT w' w.heap.size v (sig l)) ∧ Below w.heap.size w w' := by
  obtain ⟨i0, hi, hz0, hz1, hz2⟩ := info_parts info_tok
  have H := Lib.hid h
  clear h
  go_enter Try.func19, Try.ntmps19
  go_wp2_with fail
  go_loopw [3, 8] (fun v i wr => ∃ k : Nat, k ≤ l.length ∧ i = .int .i64 k ∧ Hid (OwnsT wr w.heap.size v (sig (l.take k))) ∧ Below w.heap.size w wr)
    (fun _ i _ => l.length - (intOf i).toNat)
  case atStart => exact ⟨0, Nat.zero_le _, rfl, OwnsT.nil _ _, Below.refl _ _⟩
  case round =>
    obtain ⟨k, hk, rfl, hown, hb⟩ := hrel
    have hzw := hb.size
    by_cases hlt : k < l.length
    · have hx : l[k]? = some l[k] := List.getElem?_eq_getElem hlt
      obtain ⟨x, hX⟩ : ∃ x, x = l[k] := ⟨_, rfl⟩
      rw [← hX] at hx
      clear hX
      obtain ⟨b, o, rfl, _, p0, p1⟩ := (H.out.below hb (Nat.le_refl _)) k x hx
      have hsl := sig_length (l.take k)
      rw [List.length_take] at hsl
      have hlen : (sig (l.take k)).length ≤ k := Nat.le_trans hsl (Nat.min_le_left _ _)
      have hk0 : (0 : Int) ≤ (k : Int) := by omega
      have hk1 : (k : Int) < (l.length : Int) := by omega
      clear hsl
      by_cases h101 : x.1 = 101
      · have hs := Lib.hid (sig_take_no hx h101)
        have g : (x.1 != 101) = false := by simp [h101]
        have hown2 : Hid (OwnsT wr w.heap.size u3 (sig (l.take (k + 1)))) := by rw [hs.out]; exact hown
        clear hx hown hs h101
        obtain ⟨kd, tx⟩ := x
        generalize bs tx = z at *
        go_wp2_with fail
        go_roundw
        case rel => exact ⟨k + 1, by omega, by go_num, ownsT_below hown2.out ((Below.refl _ _).alloc (Nat.le_refl _) _), hb.alloc hzw _⟩
        case measure => simp [intOf]; omega
      · have hs := Lib.hid (sig_take_yes hx h101)
        have g : (x.1 != 101) = true := by simpa using h101
        clear hx h101
        obtain ⟨kd, tx⟩ := x
        have HOW : Hid (OwnsT (wr.alloc (.cells #[.int .i64 kd, .string (bs tx)] 30)) w.heap.size u3 (sig (l.take k))) := hown.out.alloc _
        have BW : Below w.heap.size w (wr.alloc (.cells #[.int .i64 kd, .string (bs tx)] 30)) := hb.alloc hzw _
        have HC : Hid (cellsT [(kd, tx)] = [.int .i64 kd, .string (bs tx)]) := rfl
        clear hown
        generalize bs tx = z at *
        go_wp2_with (at_builtin; refine wpList_append_own _ rfl _ _ 23 rfl w.heap.size 30 i0 _ 2 24 Try.underlying23 hi hz0 hz1 hz2 rfl (by decide) _ _ _ rfl (HOW.out.alloc _) ⟨wr.heap.size + 1, 0, none⟩ 1 1 [.int .i64 kd, .string z] rfl rfl (World.news_of_block (alloc_at (by simp) _)) (by simp [Value.oneCell']) (by unfold maxLen; first | omega | (simp; done)) (by first | omega | (simp; done)) (by first | omega | (simp; omega) | (simp; done)) ?_)
        intro v' w5 hown' hgrow _
        have hown5 : Hid (OwnsT w5 w.heap.size v' (sig (l.take (k + 1)))) := by
          show World.ownsRow _ _ _ _ _ _ _
          rw [hs.out, cellsT_append, List.length_append, HC.out]
          exact hown'
        have hb5 : Below w.heap.size w w5 := (BW.alloc (by first | omega | (simp; omega)) _).grown hgrow (by first | omega | (simp; omega)) (fun j hj => (HOW.out.lt j hj).1)
        clear hown' hgrow HOW hs
        go_wp2_with fail
        go_roundw
        case rel => exact ⟨k + 1, by omega, by go_num, hown5, hb5⟩
        case measure => simp [intOf]; omega
    · obtain rfl : k = l.length := by omega
      have hown2 : Hid (OwnsT wr w.heap.size u3 (sig l)) := by have := hown; rwa [List.take_length] at this
      clear hown
      go_wp2_with fail
      go_ret
      exact ⟨_, rfl, hown2, hb⟩

/-- The slice value x yields m elements of the given size: the cells news. -/
def SrcIs (w : World) (x : Value) (m size : Nat) (news : List Value) : Prop :=
  news.length = m * size ∧ (∀ u, u ∈ news → u.oneCell' = true) ∧ ((x = .slice none 0 0 ∧ m = 0) ∨ ∃ ad c, x = .slice (some ad) m c ∧ ∀ j u, news[j]? = some u → w.cell? (ad.add j) = some u)

theorem wpList_append_src {P : Program} {w : World} {ops : Array Oper} {rest : List Oper} {o : Oper} {a : Act} {Q : Exit → Act → World → Prop} (hgd : o.guard = none) (s x : Operand) (t : TypeId)
    (ho : o.op = .call { callee := .builtin .append, args := #[s, x], argTypes := #[t, t] })
    (base : Nat) (e : TypeId) (i : TypeInfo) (z : Value) (size bytes : Nat) (ht : P.underlying t = some (.slice e)) (hi : P.info? e = some i) (hz : i.zero = some z)
    (hsize : i.size = size) (hby : i.bytes = bytes) (hzs : z.cells.size = size) (hsz : 0 < size)
    (v : Value) (n : Nat) (xs : List Value) (hs : a.eval s = v) (hown : w.ownsRow base e size v n xs)
    (xv : Value) (m : Nat) (news : List Value) (hx : a.eval x = xv) (hsrc : SrcIs w xv m size news)
    (h63 : n + m ≤ maxLen) (hbytes : (n + m) * bytes ≤ 140737488355328) (hbase : base ≤ w.heap.size)
    (h : ∀ v' w', w'.ownsRow base e size v' (n + m) (xs ++ news) → w.grownBy w' v.ownBlock → wpList P ops Q rest (a.put o.dst v') w') : wpList P ops Q (o :: rest) a w := by
  obtain ⟨hl, h1, hc | ⟨ad, c, rfl, hc⟩⟩ := hsrc
  · obtain ⟨rfl, rfl⟩ := hc
    have hn : news = [] := List.eq_nil_of_length_eq_zero (by simpa using hl)
    subst hn
    refine wpList_append_own_none hgd s x t ho base e i size ht hi v n xs hs hown hx ?_
    exact h v w (by simpa using hown) ⟨rfl, rfl, rfl, Nat.le_refl _, fun _ _ _ => rfl⟩
  · exact wpList_append_own w hgd s x t ho base e i z size bytes ht hi hz hsize hby hzs hsz v n xs hs hown ad m c news hx hl hc h1 h63 hbytes hbase fun v' w' a b _ => h v' w' a b

theorem cellsT_one (l : List Tk) : ∀ u, u ∈ cellsT l → u.oneCell' = true := by
  intro u hu
  obtain ⟨x, _, hx⟩ := List.mem_flatMap.1 hu
  simp [tkCells] at hx
  rcases hx with rfl | rfl <;> rfl

theorem OwnsT.src {w : World} {B : Nat} {v : Value} {l : List Tk} (h : OwnsT w B v l) : SrcIs w v l.length 2 (cellsT l) := by
  refine ⟨cellsT_length l, cellsT_one l, ?_⟩
  rcases h.2 with ⟨rfl, h0⟩ | ⟨g, cap, cur, rfl, _⟩
  · exact .inl ⟨rfl, h0⟩
  · refine .inr ⟨⟨g, 0, none⟩, cap, rfl, fun j u hu => ?_⟩
    exact World.ownsRow.cells h (g := g) rfl j u hu
end Go.Proofs.Ytjakmigkipcomaa
