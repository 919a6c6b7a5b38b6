/-
  What the four conversions of package position answer, in plain words; and what the laws ask of these answers. No run of a program in this text.
-/
import Derived.Test.YtmdfkahodbfjnaaDoorRune
namespace Go.Proofs.YtmdfkahodbfjnaaDoor
open Go.Lib

/-- The columns of a rune: its code units, or one. -/
def wd (u : Bool) (r : R) : Nat := if u then r.u else 1

/-- The column at which an offset stands on a line; none: within a rune. -/
def colOf (u : Bool) (off : Nat) : List R → Nat → Option Nat
  | [], c => some c
  | r :: rs, c => if off ≤ r.p then some c else if off < r.p + r.l then none else colOf u off rs (c + wd u r)

/-- The offset at which a column stands on a line, and the error. -/
def offOf (u : Bool) (t : Int) : List R → Nat → Nat → Nat × Int
  | [], c, e => if (c : Int) = t then (e, 0) else (0, 1)
  | r :: rs, c, _ => if (c : Int) = t then (r.p, 0) else if u = true ∧ r.u = 2 ∧ (c : Int) + 1 = t then (0, 3) else offOf u t rs (c + wd u r) (r.p + r.l)

/-- The runes of the line that starts at p. -/
def lineAt (s : ByteArray) (p : Nat) : List R := runes s (le s p) p

def posOf (s : ByteArray) (n : Nat) : Option Nat → Int × Int × Int
  | none => (0, 0, 3)
  | some c => (nl s n, c, 0)
def posV (s : ByteArray) (u : Bool) (off : Int) : Int × Int × Int :=
  if off < 0 ∨ (s.size : Int) < off then (0, 0, 1) else posOf s off.toNat (colOf u off.toNat (lineAt s (ls s off.toNat)) 0)

def offV (s : ByteArray) (u : Bool) (ln col : Int) : Int × Int :=
  if ln < 0 ∨ (nl s s.size : Int) < ln then (0, 5) else
    (((offOf u col (lineAt s ((lst s s.size).getD ln.toNat 0).toNat) 0 ((lst s s.size).getD ln.toNat 0).toNat).1 : Int), (offOf u col (lineAt s ((lst s s.size).getD ln.toNat 0).toNat) 0 ((lst s s.size).getD ln.toNat 0).toNat).2)

theorem posV_bad {s : ByteArray} {u : Bool} {off : Int} (h : off < 0 ∨ (s.size : Int) < off) : posV s u off = (0, 0, 1) := by unfold posV; rw [if_pos h]
theorem posV_in {s : ByteArray} {u : Bool} {n : Nat} (h : n ≤ s.size) : posV s u n = posOf s n (colOf u n (lineAt s (ls s n)) 0) := by
  unfold posV; rw [if_neg (by omega)]; rfl
theorem offV_out {s : ByteArray} {u : Bool} {ln col : Int} (h : ln < 0 ∨ (nl s s.size : Int) < ln) : offV s u ln col = (0, 5) := by unfold offV; rw [if_pos h]
theorem offV_in {s : ByteArray} {u : Bool} {k p : Nat} {col : Int} (h : (lst s s.size)[k]? = some (p : Int)) : offV s u k col = (((offOf u col (lineAt s p) 0 p).1 : Int), (offOf u col (lineAt s p) 0 p).2) := by
  have hk : k < (lst s s.size).length := (List.getElem?_eq_some_iff.1 h).1
  rw [lst_length] at hk
  unfold offV; rw [if_neg (by omega)]
  simp only [Int.toNat_natCast, List.getD, h, Option.getD_some]

theorem offOf_neg {u : Bool} {t : Int} (h : t < 0) : ∀ (l : List R) (c e : Nat), offOf u t l c e = (0, 1)
  | [], c, e => by rw [offOf, if_neg (by omega)]
  | r :: l, c, e => by rw [offOf, if_neg (by omega), if_neg (by omega)]; exact offOf_neg h l _ _

/-! ### the steps of the two walks -/
theorem col_end {u : Bool} {off : Nat} {s : ByteArray} {stop p c : Nat} (h : stop ≤ p) : colOf u off (runes s stop p) c = some c := by rw [runes_nil h]; rfl
theorem col_at {u : Bool} {off : Nat} {s : ByteArray} {stop p c : Nat} (hs : stop ≤ s.size) (h : off ≤ p) : colOf u off (runes s stop p) c = some c := by
  rcases Nat.lt_or_ge p stop with h1 | h1
  · rw [runes_cons h1 hs, colOf, if_pos h]
  · exact col_end h1
theorem col_in {u : Bool} {off : Nat} {s : ByteArray} {stop p c : Nat} (hs : stop ≤ s.size) (hp : p < stop) (h1 : p < off) (h2 : off < p + dW s p) : colOf u off (runes s stop p) c = none := by
  rw [runes_cons hp hs, colOf, if_neg (by simpa using h1), if_pos h2]
theorem col_go {u : Bool} {off : Nat} {s : ByteArray} {stop p c : Nat} (hs : stop ≤ s.size) (hp : p < stop) (h1 : p < off) (h2 : p + dW s p ≤ off) :
    colOf u off (runes s stop p) c = colOf u off (runes s stop (p + dW s p)) (c + wd u ⟨p, dW s p, dU s p⟩) := by
  rw [runes_cons hp hs, colOf, if_neg (by simpa using h1), if_neg (by simpa using h2)]
theorem off_eq {u : Bool} {t : Int} {s : ByteArray} {stop p c : Nat} (hs : stop ≤ s.size) (h : (c : Int) = t) : offOf u t (runes s stop p) c p = (p, 0) := by
  rcases Nat.lt_or_ge p stop with h1 | h1
  · rw [runes_cons h1 hs, offOf, if_pos h]
  · rw [runes_nil h1, offOf, if_pos h]
theorem off_end {u : Bool} {t : Int} {s : ByteArray} {stop p c : Nat} (h1 : stop ≤ p) (h : ¬ (c : Int) = t) : offOf u t (runes s stop p) c p = (0, 1) := by rw [runes_nil h1, offOf, if_neg h]
theorem off_half {u : Bool} {t : Int} {s : ByteArray} {stop p c : Nat} (hs : stop ≤ s.size) (hp : p < stop) (hc : (c : Int) < t) (h : t < c + wd u ⟨p, dW s p, dU s p⟩) : offOf u t (runes s stop p) c p = (0, 3) := by
  rw [runes_cons hp hs, offOf, if_neg (by omega), if_pos]
  unfold wd at h
  rcases dU_cases s p with e | e
  · cases u <;> simp [e] at h <;> omega
  · cases u with
    | false => simp at h; omega
    | true => simp [e] at h; exact ⟨rfl, e, by omega⟩
theorem off_go {u : Bool} {t : Int} {s : ByteArray} {stop p c : Nat} (hs : stop ≤ s.size) (hp : p < stop) (hc : (c : Int) < t) (h : (c : Int) + wd u ⟨p, dW s p, dU s p⟩ ≤ t) :
    offOf u t (runes s stop p) c p = offOf u t (runes s stop (p + dW s p)) (c + wd u ⟨p, dW s p, dU s p⟩) (p + dW s p) := by
  rw [runes_cons hp hs, offOf, if_neg (by omega), if_neg]
  rintro ⟨rfl, e, e2⟩
  simp only at e
  unfold wd at h
  simp [e] at h
  omega
theorem wd_pos (u : Bool) (s : ByteArray) (p l : Nat) : 1 ≤ wd u ⟨p, l, dU s p⟩ ∧ wd u ⟨p, l, dU s p⟩ ≤ 2 := by
  unfold wd
  rcases dU_cases s p with e | e <;> cases u <;> simp [e]

/-! ### the laws -/
/-- To the column and back. -/
theorem back {s : ByteArray} {u : Bool} {stop off : Nat} (hs : stop ≤ s.size) (ho : off ≤ stop) :
    ∀ (f p c x : Nat), stop - p ≤ f → p ≤ off → colOf u off (runes s stop p) c = some x → c ≤ x ∧ offOf u x (runes s stop p) c p = (off, 0)
  | 0, p, c, x, hf, hp, h => by
    rw [col_at hs (by omega)] at h
    obtain rfl := Option.some.inj h
    rw [off_eq hs rfl]
    exact ⟨Nat.le_refl _, by rw [show p = off from by omega]⟩
  | f + 1, p, c, x, hf, hp, h => by
    rcases Nat.lt_or_ge p off with h1 | h1
    · rcases Nat.lt_or_ge off (p + dW s p) with h2 | h2
      · rw [col_in hs (by omega) h1 h2] at h; cases h
      · have hw := dW_pos (s := s) (p := p) (by omega)
        have hd := wd_pos u s p (dW s p)
        rw [col_go hs (by omega) h1 h2] at h
        obtain ⟨a, b⟩ := back hs ho f (p + dW s p) _ x (by omega) h2 h
        exact ⟨by omega, by rw [off_go hs (by omega) (by omega) (by omega), b]⟩
    · rw [col_at hs h1] at h
      obtain rfl := Option.some.inj h
      rw [off_eq hs rfl]
      exact ⟨Nat.le_refl _, by rw [show p = off from by omega]⟩

theorem round_trip {s : ByteArray} {u : Bool} {off L C : Int} (h : posV s u off = (L, C, 0)) : 0 ≤ off ∧ off ≤ s.size ∧ offV s u L C = (off, 0) := by
  by_cases hb : off < 0 ∨ (s.size : Int) < off
  · rw [posV_bad hb] at h; simp at h
  · obtain ⟨n, rfl⟩ : ∃ n : Nat, off = n := ⟨off.toNat, by omega⟩
    have hn : n ≤ s.size := by omega
    rw [posV_in hn] at h
    cases hc : colOf u n (lineAt s (ls s n)) 0 with
    | none => rw [hc] at h; simp [posOf] at h
    | some c =>
      rw [hc] at h
      simp [posOf] at h
      obtain ⟨rfl, rfl⟩ := h
      have hz := ls_le s n
      have hsp := le_spec (s := s) (p := ls s n) (by omega)
      obtain ⟨_, b⟩ := back hsp.2.1 (le_off s n hn) _ (ls s n) 0 c (Nat.le_refl _) hz hc
      refine ⟨by omega, by omega, ?_⟩
      rw [offV_in (lst_at s hn)]
      unfold lineAt
      rw [b]

theorem two_cols {s : ByteArray} {off stop : Nat} (hs : stop ≤ s.size) : ∀ (f p c d : Nat), stop - p ≤ f → d ≤ c →
    (colOf true off (runes s stop p) c = none ∧ colOf false off (runes s stop p) d = none) ∨ ∃ x y, colOf true off (runes s stop p) c = some x ∧ colOf false off (runes s stop p) d = some y ∧ y ≤ x
  | 0, p, c, d, hf, h => by rw [col_end (by omega), col_end (by omega)]; exact .inr ⟨c, d, rfl, rfl, h⟩
  | f + 1, p, c, d, hf, h => by
    rcases Nat.lt_or_ge p stop with hp | hp
    · rcases Nat.lt_or_ge p off with h1 | h1
      · rcases Nat.lt_or_ge off (p + dW s p) with h2 | h2
        · rw [col_in hs hp h1 h2, col_in hs hp h1 h2]; exact .inl ⟨rfl, rfl⟩
        · have hw := dW_pos (s := s) (p := p) (by omega)
          rw [col_go hs hp h1 h2, col_go hs hp h1 h2]
          refine two_cols hs f _ _ _ (by omega) ?_
          have := wd_pos true s p (dW s p)
          have e : wd false ⟨p, dW s p, dU s p⟩ = 1 := rfl
          omega
      · rw [col_at hs h1, col_at hs h1]; exact .inr ⟨c, d, rfl, rfl, h⟩
    · rw [col_end hp, col_end hp]; exact .inr ⟨c, d, rfl, rfl, h⟩

/-- Both ways to count: the same error, the same line; no fewer code units than code points; else nothing but the error. -/
theorem two_ways (s : ByteArray) (off : Int) : (∃ e, e ≠ 0 ∧ posV s true off = (0, 0, e) ∧ posV s false off = (0, 0, e)) ∨ ∃ L x y, posV s true off = (L, x, 0) ∧ posV s false off = (L, y, 0) ∧ y ≤ x := by
  by_cases hb : off < 0 ∨ (s.size : Int) < off
  · exact .inl ⟨1, by decide, posV_bad hb, posV_bad hb⟩
  · obtain ⟨n, rfl⟩ : ∃ n : Nat, off = n := ⟨off.toNat, by omega⟩
    have hn : n ≤ s.size := by omega
    rw [posV_in hn, posV_in hn]
    have hz := ls_le s n
    have hsp := le_spec (s := s) (p := ls s n) (by omega)
    rcases two_cols (off := n) hsp.2.1 _ (ls s n) 0 0 (Nat.le_refl _) (Nat.le_refl _) with ⟨a, b⟩ | ⟨x, y, a, b, h⟩
    · refine .inl ⟨3, by decide, ?_, ?_⟩ <;> unfold lineAt
      · rw [a]; rfl
      · rw [b]; rfl
    · refine .inr ⟨nl s n, x, y, ?_, ?_, by omega⟩ <;> unfold lineAt
      · rw [a]; rfl
      · rw [b]; rfl

theorem cols_lt {s : ByteArray} {u : Bool} {a b stop : Nat} (hs : stop ≤ s.size) (hab : a < b) (hb : b ≤ stop) :
    ∀ (f p c x y : Nat), stop - p ≤ f → p ≤ a → colOf u a (runes s stop p) c = some x → colOf u b (runes s stop p) c = some y → x < y
  | 0, p, c, x, y, hf, hp, _, _ => by omega
  | f + 1, p, c, x, y, hf, hp, h, k => by
    rcases Nat.lt_or_ge p a with h1 | h1
    · rcases Nat.lt_or_ge a (p + dW s p) with h2 | h2
      · rw [col_in hs (by omega) h1 h2] at h; cases h
      · have hw := dW_pos (s := s) (p := p) (by omega)
        rw [col_go hs (by omega) h1 h2] at h
        rw [col_go hs (by omega) (by omega) (by omega)] at k
        exact cols_lt hs hab hb f _ _ x y (by omega) h2 h k
    · rw [col_at hs h1] at h
      obtain rfl := Option.some.inj h
      obtain rfl : p = a := by omega
      rcases Nat.lt_or_ge b (p + dW s p) with h2 | h2
      · rw [col_in hs (by omega) hab h2] at k; cases k
      · rw [col_go hs (by omega) hab h2] at k
        have := (back hs hb f _ _ y (by have := dW_pos (s := s) (p := p) (by omega); omega) h2 k).1
        have := wd_pos u s p (dW s p)
        omega

theorem later {s : ByteArray} {u : Bool} {a b L C M D : Int} (ha : posV s u a = (L, C, 0)) (hb : posV s u b = (M, D, 0)) (hab : a < b) : L < M ∨ L = M ∧ C < D := by
  by_cases ba : a < 0 ∨ (s.size : Int) < a
  · rw [posV_bad ba] at ha; simp at ha
  by_cases bb : b < 0 ∨ (s.size : Int) < b
  · rw [posV_bad bb] at hb; simp at hb
  obtain ⟨n, rfl⟩ : ∃ n : Nat, a = n := ⟨a.toNat, by omega⟩
  obtain ⟨m, rfl⟩ : ∃ m : Nat, b = m := ⟨b.toNat, by omega⟩
  have hn : n ≤ s.size := by omega
  have hm : m ≤ s.size := by omega
  rw [posV_in hn] at ha
  rw [posV_in hm] at hb
  cases hc : colOf u n (lineAt s (ls s n)) 0 with
  | none => rw [hc] at ha; simp [posOf] at ha
  | some c =>
    cases hd : colOf u m (lineAt s (ls s m)) 0 with
    | none => rw [hd] at hb; simp [posOf] at hb
    | some d =>
      rw [hc] at ha; rw [hd] at hb
      simp [posOf] at ha hb
      obtain ⟨rfl, rfl⟩ := ha
      obtain ⟨rfl, rfl⟩ := hb
      have hmono := nl_mono s (a := n) (b := m) (by omega)
      by_cases e : nl s n = nl s m
      · right
        have hls := ls_same s (a := n) (b := m) (by omega) e
        rw [← hls] at hd
        have hz := ls_le s n
        have hsp := le_spec (s := s) (p := ls s n) (by omega)
        have ho := le_off s m hm
        rw [← hls] at ho
        have := cols_lt hsp.2.1 (by omega) ho _ (ls s n) 0 c d (Nat.le_refl _) hz hc hd
        exact ⟨by omega, by omega⟩
      · left; omega

/-- Column 0 of a line. -/
theorem col_zero {s : ByteArray} {u : Bool} {k : Nat} {z : Int} (h : (lst s s.size)[k]? = some z) : offV s u k 0 = (z, 0) := by
  obtain ⟨p, rfl, hp, _⟩ := lst_ls s _ _ _ h
  rw [offV_in h]
  have hsp := le_spec (s := s) (p := p) hp
  unfold lineAt
  rw [off_eq (c := 0) (t := 0) hsp.2.1 rfl]
end Go.Proofs.YtmdfkahodbfjnaaDoor
