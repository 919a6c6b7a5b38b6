/-
  glossatorref4.ValidateEdits by its contract.
-/
import Derived.Test.YtbkiliiopondaaaInvPure
namespace Go.Proofs.Ytbkiliiopondaaa
open Go.RowKit

/-- No new text is longer than a string that is read may be. -/
def Reach (l : List Ed) : Prop := ∀ x, x ∈ l → x.t.size ≤ 140737488351232

theorem tsum_reach {l : List Ed} (h : Reach l) : tsum l ≤ l.length * 140737488351232 := by
  induction l with
  | nil => simp [tsum]
  | cons x r ih =>
    have h1 := ih (fun y hy => h y (List.mem_cons_of_mem _ hy))
    have h2 := h x (List.mem_cons_self)
    simp only [tsum, List.length_cons, Nat.add_mul]
    omega

theorem take_reach {l : List Ed} (h : Reach l) (hl : l.length ≤ 50) (k : Nat) : tsum (l.take k) ≤ 7036874417561600 := by
  have h1 := tsum_reach (l := l.take k) (fun x hx => h x (List.mem_of_mem_take hx))
  have h2 : (l.take k).length ≤ 50 := Nat.le_trans (List.length_take_le' _ _) hl
  have h3 : (l.take k).length * 140737488351232 ≤ 50 * 140737488351232 := Nat.mul_le_mul_right _ h2
  omega

theorem dsum_nonneg_of {n : Int} {l : List Ed} (h : Inside n l) : 0 ≤ dsum l := (dsum_bd h).1

theorem inside_snoc {n : Int} {l : List Ed} {k : Nat} {x : Ed} (hx : l[k]? = some x) (h : Inside n (l.take k)) (h1 : 0 ≤ x.s) (h2 : x.s ≤ x.e) (h3 : x.e ≤ n) : Inside n (l.take (k + 1)) := by
  intro y hy
  rw [take_snoc hx] at hy
  rcases List.mem_append.1 hy with q | q
  · exact h y q
  · simp at q; subst q; exact ⟨h1, h2, h3⟩

/-- Where the previous edit ends. -/
def prevOf (l : List Ed) : Nat → Int
  | 0 => -1
  | j + 1 => ((l[j]?).map (·.e)).getD 0

theorem errV_sep {n : Int} {l : List Ed} (h1 : n ≤ 2000) (h2 : l.length ≤ 50) (h : sepFrom n (-1) l = false) : errV n l = 3 := by
  unfold errV
  rw [if_neg (by omega), if_pos h]

theorem errV_fit {n : Int} {l : List Ed} (h1 : n ≤ 2000) (h2 : l.length ≤ 50) (h : sepFrom n (-1) l = true) : errV n l = if (2000 : Int) < n + tsum l - dsum l then 2 else 0 := by
  unfold errV
  rw [if_neg (by omega), if_neg (by simp [h])]
  by_cases hf : (2000 : Int) < n + tsum l - dsum l
  · rw [if_pos hf, if_pos (by unfold fitsB; simp; omega)]
  · rw [if_neg hf, if_neg (by unfold fitsB; simp; omega)]

theorem refsep_no {n q : Int} {l : List Ed} {k : Nat} {x : Ed} (hq : Hid (sepFrom n (-1) l = sepFrom n q (l.drop k))) (hx : Hid (l[k]? = some x)) (h : x.s ≤ q ∨ x.e < x.s ∨ n < x.e) : sepFrom n (-1) l = false := by
  have hx := hx.out
  obtain ⟨hk, rfl⟩ := List.getElem?_eq_some_iff.1 hx
  rw [hq.out, List.drop_eq_getElem_cons hk, sepFrom, if_pos h]

set_option maxHeartbeats 2000000 in
set_option maxRecDepth 100000 in
theorem refval_any (s : ByteArray) (a : Option Addr) (cap : Nat) (l : List Ed) (w : World) (hs : s.size ≤ maxLen) (hl : l.length ≤ maxLen) (hr : Hid (Reach l)) (h : Eds w w.heap.size a l) :
    Calls Try.prog 20 #[.string s, .slice a l.length cap] w fun e w' => e = .returned (.int .i64 (errV s.size l)) ∧ Below w.heap.size w w' := by
  unfold maxLen at hs hl
  by_cases h1 : (2000 : Int) < s.size
  · have he : errV s.size l = 2 := by unfold errV; rw [if_pos (Or.inl h1)]
    have HE := Lib.hid he
    clear he
    go_enter Try.func20, Try.ntmps20
    go_wp2_with fail
    go_ret
    exact ⟨by rw [HE.out]; rfl, Below.refl _ _⟩
  by_cases h2 : (50 : Int) < l.length
  · have he : errV s.size l = 2 := by unfold errV; rw [if_pos (Or.inr h2)]
    have HE := Lib.hid he
    clear he
    go_enter Try.func20, Try.ntmps20
    go_wp2_with fail
    go_ret
    exact ⟨by rw [HE.out]; rfl, Below.refl _ _⟩
  have hn : (s.size : Int) ≤ 2000 := by omega
  have hl5 : l.length ≤ 50 := by omega
  have HE3 : Hid (sepFrom s.size (-1) l = false → errV s.size l = 3) := fun h => errV_sep hn hl5 h
  have HE0 : Hid (sepFrom s.size (-1) l = true → errV s.size l = if (2000 : Int) < s.size + tsum l - dsum l then 2 else 0) := fun h => errV_fit hn hl5 h
  have HT : Hid (∀ k, tsum (l.take k) ≤ 7036874417561600) := take_reach hr.out hl5
  clear h1 h2
  go_enter Try.func20, Try.ntmps20
  go_wp2_with fail
  go_loopw [4, 5, 6] (fun r p i wr => ∃ (k : Nat) (q : Int), k ≤ l.length ∧ r = .int .i64 0 ∧ i = .int .i64 k ∧ p = .int .i64 q ∧ Hid (q = s.size + tsum (l.take k) - dsum (l.take k)) ∧ Hid (Inside s.size (l.take k)) ∧ Hid (sepFrom s.size (-1) l = sepFrom s.size (prevOf l k) (l.drop k)) ∧ Below w.heap.size w wr)
    (fun _ _ i _ => l.length - (intOf i).toNat)
  case atStart => exact ⟨0, s.size, Nat.zero_le _, rfl, rfl, rfl, by show _ = _; simp [tsum, dsum], fun x hx => by simp at hx, rfl, Below.refl _ _⟩
  case round =>
    obtain ⟨k, q, hk, rfl, rfl, rfl, hq, hin, hsep, hb⟩ := hrel
    have hz := hb.size
    have hqb : -200000 ≤ q ∧ q ≤ 7036874417563600 := by
      have t1 := HT.out k
      have t2 := dsum_bd hin.out
      have t4 := hq.out
      have t5 : (l.take k).length ≤ 50 := by rw [List.length_take]; omega
      have t6 : (s.size : Int) * ((l.take k).length : Int) ≤ 2000 * 50 := Int.mul_le_mul hn (by omega) (by omega) (by omega)
      omega
    obtain ⟨hq0, hq1⟩ := hqb
    by_cases hlt : k < l.length
    · have hx : l[k]? = some l[k] := List.getElem?_eq_getElem hlt
      obtain ⟨x, hX⟩ : ∃ x, x = l[k] := ⟨_, rfl⟩
      rw [← hX] at hx
      have hxr : x.t.size ≤ 140737488351232 := hr.out x (by rw [hX]; exact List.getElem_mem hlt)
      clear hX
      obtain ⟨hok, b, o, rfl, hbl, h0, h1, h2⟩ := (h.below hb) k x hx
      have Hx := Lib.hid hx
      have HQ3 : Hid (q + x.t.size + x.s - x.e = s.size + tsum (l.take (k + 1)) - dsum (l.take (k + 1))) := by
        show _ = _
        rw [tsum_take hx, dsum_take hx, hq.out]; omega
      have HPREV : Hid (prevOf l (k + 1) = x.e) := by show _ = _; rw [prevOf, hx]; rfl
      clear hx hq
      cases k with
      | zero =>
        have HS0 : Hid (sepFrom s.size (-1) l = sepFrom s.size (-1) (l.drop 0)) := hsep
        simp only [Nat.zero_mul, Nat.add_zero] at h0 h1 h2
        go_wp2
        case roundEnd =>
          have c1 : ¬ (x.s ≤ -1 ∨ x.e < x.s ∨ (s.size : Int) < x.e) := by omega
          have HN := sep_go HS0 Hx c1
          have HI : Hid (Inside s.size (l.take (0 + 1))) := inside_snoc Hx.out hin.out (by omega) (by omega) (by omega)
          go_roundw
          case rel => exact ⟨0 + 1, _, by omega, rfl, by go_num, rfl, HQ3, HI, by show _ = _; rw [HPREV.out]; exact HN, hb.alloc hz _⟩
          case measure => simp [intOf]; omega
        all_goals
          have HN := HE3.out (refsep_no HS0 Hx (by omega))
          go_ret
          exact ⟨by rw [HN]; rfl, hb.alloc hz _⟩
      | succ j =>
        have hj : j < l.length := by omega
        have hy : l[j]? = some l[j] := List.getElem?_eq_getElem hj
        obtain ⟨y, hY⟩ : ∃ y, y = l[j] := ⟨_, rfl⟩
        rw [← hY] at hy
        obtain ⟨p0, p1, p2⟩ := hin.out y (by
          rw [take_snoc hy]; simp)
        clear hY
        obtain ⟨_, b', o', hbo, _, _, g1, _⟩ := (h.below hb) j y hy
        simp only [Option.some.injEq, Addr.mk.injEq, and_true] at hbo
        obtain ⟨rfl, rfl⟩ := hbo
        have hpy : prevOf l (j + 1) = y.e := by rw [prevOf, hy]; rfl
        have HS0 : Hid (sepFrom s.size (-1) l = sepFrom s.size y.e (l.drop (j + 1))) := by
          have := hsep.out
          rw [hpy] at this
          exact this
        clear hpy hy hsep
        go_wp2
        case roundEnd =>
          have c1 : ¬ (x.s ≤ y.e ∨ x.e < x.s ∨ (s.size : Int) < x.e) := by omega
          have HN := sep_go HS0 Hx c1
          have HI : Hid (Inside s.size (l.take (j + 1 + 1))) := inside_snoc Hx.out hin.out (by omega) (by omega) (by omega)
          go_roundw
          case rel => exact ⟨j + 1 + 1, _, by omega, rfl, by go_num, rfl, HQ3, HI, by show _ = _; rw [HPREV.out]; exact HN, hb.alloc hz _⟩
          case measure => simp [intOf]; omega
        all_goals
          have HN := HE3.out (refsep_no HS0 Hx (by omega))
          go_ret
          exact ⟨by rw [HN]; rfl, hb.alloc hz _⟩
    · have hkl : k = l.length := by omega
      have hs2 : sepFrom s.size (-1) l = true := by
        have := hsep.out
        rw [List.drop_eq_nil_of_le (by omega)] at this
        rw [this]
        unfold sepFrom
        rfl
      have HE := Lib.hid (HE0.out hs2)
      have hq2 : Hid (q = s.size + tsum l - dsum l) := by
        have := hq.out
        rw [List.take_of_length_le (by omega)] at this
        exact this
      clear hq hs2 hsep hin HE0 HE3
      by_cases hbig : (2000 : Int) < q
      · go_wp2
        go_ret
        exact ⟨by rw [HE.out, if_pos (by rw [← hq2.out]; omega)]; rfl, hb⟩
      · go_wp2
        go_ret
        exact ⟨by rw [HE.out, if_neg (by rw [← hq2.out]; omega)]; rfl, hb⟩
end Go.Proofs.Ytbkiliiopondaaa
