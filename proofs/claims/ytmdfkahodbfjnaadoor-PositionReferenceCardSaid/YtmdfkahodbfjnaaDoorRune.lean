/-
  Plain words on a source: its line feeds, where its lines start and end, the runes of a line. No run of a program in this text.
-/
import Derived.Lib.RuneCount
import Derived.Lib.RuneCountTail
import Derived.Lib.LastIndexByte
import Derived.Lib.Bytealg
namespace Go.Proofs.YtmdfkahodbfjnaaDoor
open Go.Lib

def isNl (s : ByteArray) (i : Nat) : Bool := s.get! i == 10

/-- How many line feeds stand among the first k bytes. -/
def nl (s : ByteArray) : Nat → Nat
  | 0 => 0
  | k + 1 => nl s k + (if isNl s k then 1 else 0)

/-- Where the line of offset k starts. -/
def ls (s : ByteArray) : Nat → Nat
  | 0 => 0
  | k + 1 => if isNl s k then k + 1 else ls s k

/-- The lines' starts that stand among the first k bytes, and the one behind them. -/
def lst (s : ByteArray) : Nat → List Int
  | 0 => [0]
  | k + 1 => lst s k ++ (if isNl s k then [(k : Int) + 1] else [])

theorem lst_yes {s : ByteArray} {k : Nat} (h : isNl s k = true) : lst s (k + 1) = lst s k ++ [(k : Int) + 1] := by rw [lst, if_pos h]
theorem lst_no {s : ByteArray} {k : Nat} (h : isNl s k = false) : lst s (k + 1) = lst s k := by rw [lst, h]; simp

theorem lst_length (s : ByteArray) : ∀ k, (lst s k).length = nl s k + 1
  | 0 => rfl
  | k + 1 => by
    rw [lst, nl, List.length_append, lst_length s k]
    cases isNl s k <;> simp

theorem nl_le (s : ByteArray) : ∀ k, nl s k ≤ k
  | 0 => Nat.le_refl _
  | k + 1 => by
    have := nl_le s k
    rw [nl]; split <;> omega

theorem ls_le (s : ByteArray) : ∀ k, ls s k ≤ k
  | 0 => Nat.le_refl _
  | k + 1 => by
    have := ls_le s k
    rw [ls]; split <;> omega

theorem lst_last (s : ByteArray) : ∀ k, (lst s k)[nl s k]? = some (ls s k : Int)
  | 0 => rfl
  | k + 1 => by
    cases h : isNl s k with
    | true =>
      rw [lst_yes h, nl, ls, h]
      rw [List.getElem?_append_right (by rw [lst_length]; simp)]
      rw [lst_length]; simp
    | false =>
      rw [lst_no h, nl, ls, h]
      simpa using lst_last s k

/-- The starts among more bytes: the elder ones, and more that lie behind. -/
theorem lst_more (s : ByteArray) (k : Nat) : ∀ d, ∃ t, lst s (k + d) = lst s k ++ t ∧ ∀ z, z ∈ t → (k : Int) < z
  | 0 => ⟨[], by simp, fun z h => by cases h⟩
  | d + 1 => by
    obtain ⟨t, h, ht⟩ := lst_more s k d
    cases hn : isNl s (k + d) with
    | true =>
      refine ⟨t ++ [((k + d : Nat) : Int) + 1], ?_, ?_⟩
      · rw [← Nat.add_assoc, lst_yes hn, h, List.append_assoc]
      · intro z hz
        rcases List.mem_append.1 hz with hz | hz
        · exact ht z hz
        · simp at hz; omega
    | false => exact ⟨t, by rw [← Nat.add_assoc, lst_no hn, h], ht⟩

theorem lst_at (s : ByteArray) {k n : Nat} (h : k ≤ n) : (lst s n)[nl s k]? = some (ls s k : Int) := by
  obtain ⟨t, e, _⟩ := lst_more s k (n - k)
  rw [show k + (n - k) = n from by omega] at e
  rw [e, List.getElem?_append_left (by rw [lst_length]; omega)]
  exact lst_last s k

theorem lst_past (s : ByteArray) {k n j : Nat} (h : k ≤ n) {z : Int} (hj : nl s k < j) (hz : (lst s n)[j]? = some z) : (k : Int) < z := by
  obtain ⟨t, e, ht⟩ := lst_more s k (n - k)
  rw [show k + (n - k) = n from by omega] at e
  rw [e, List.getElem?_append_right (by rw [lst_length]; omega)] at hz
  exact ht z (List.mem_of_getElem? hz)

theorem nl_mono (s : ByteArray) {a b : Nat} (h : a ≤ b) : nl s a ≤ nl s b := by
  induction b with
  | zero => obtain rfl : a = 0 := by omega
            exact Nat.le_refl _
  | succ b ih =>
    rcases Nat.lt_or_ge a (b + 1) with h1 | h1
    · exact Nat.le_trans (ih (by omega)) (by rw [nl]; omega)
    · obtain rfl : a = b + 1 := by omega
      exact Nat.le_refl _

theorem ls_same (s : ByteArray) {a b : Nat} (h : a ≤ b) (e : nl s a = nl s b) : ls s a = ls s b := by
  have h1 := lst_at s (k := a) (n := b) h
  rw [e, lst_at s (Nat.le_refl b)] at h1
  have := Option.some.inj h1
  omega

/-- Each start is the line's start of itself. -/
theorem lst_ls (s : ByteArray) : ∀ (n j : Nat) (z : Int), (lst s n)[j]? = some z → ∃ p : Nat, z = p ∧ p ≤ n ∧ ls s p = p ∧ nl s p = j
  | 0, j, z, h => by
    rcases j with _ | j
    · simp [lst] at h; exact ⟨0, h.symm, Nat.le_refl _, rfl, rfl⟩
    · simp [lst] at h
  | n + 1, j, z, h => by
    cases hn : isNl s n with
    | true =>
      rw [lst_yes hn] at h
      by_cases hj : j < nl s n + 1
      · rw [List.getElem?_append_left (by rw [lst_length]; omega)] at h
        obtain ⟨p, a, b, c⟩ := lst_ls s n j z h
        exact ⟨p, a, by omega, c⟩
      · rw [List.getElem?_append_right (by rw [lst_length]; omega), lst_length] at h
        have hl := (List.getElem?_eq_some_iff.1 h).1
        simp at hl
        have hj' : j = nl s n + 1 := by omega
        subst hj'
        simp at h
        exact ⟨n + 1, by omega, Nat.le_refl _, by rw [ls, if_pos hn], by rw [nl, if_pos hn]⟩
    | false =>
      rw [lst_no hn] at h
      obtain ⟨p, a, b, c⟩ := lst_ls s n j z h
      exact ⟨p, a, by omega, c⟩

/-! ### where a line ends -/
def leF (s : ByteArray) : Nat → Nat → Nat
  | 0, p => p
  | f + 1, p => if isNl s p then p else leF s f (p + 1)
def le (s : ByteArray) (p : Nat) : Nat := leF s (s.size - p) p

theorem le_stop {s : ByteArray} {p : Nat} (h : s.size ≤ p) : le s p = p := by
  unfold le; rw [show s.size - p = 0 from by omega]; rfl
theorem le_nl {s : ByteArray} {p : Nat} (h : isNl s p = true) : le s p = p := by
  unfold le
  cases s.size - p with
  | zero => rfl
  | succ f => rw [leF, if_pos h]
theorem le_go {s : ByteArray} {p : Nat} (hp : p < s.size) (h : isNl s p = false) : le s p = le s (p + 1) := by
  unfold le
  rw [show s.size - p = (s.size - (p + 1)) + 1 from by omega, leF, h]
  simp

theorem leF_spec (s : ByteArray) : ∀ f p, p + f = s.size → p ≤ leF s f p ∧ leF s f p ≤ s.size ∧ (leF s f p = s.size ∨ isNl s (leF s f p) = true) ∧ ∀ j, p ≤ j → j < leF s f p → isNl s j = false
  | 0, p, h => ⟨Nat.le_refl _, by show p ≤ _; omega, .inl (by show p = _; omega), fun j h1 h2 => by have h2 : j < p := h2; omega⟩
  | f + 1, p, h => by
    cases hn : isNl s p with
    | true => rw [leF, if_pos hn]; exact ⟨Nat.le_refl _, by omega, .inr hn, fun j h1 h2 => by omega⟩
    | false =>
      obtain ⟨a, b, c, d⟩ := leF_spec s f (p + 1) (by omega)
      rw [leF, hn]
      refine ⟨by simp; omega, by simpa using b, by simpa using c, fun j h1 h2 => ?_⟩
      rcases Nat.lt_or_ge p j with h3 | h3
      · exact d j (by omega) (by simpa using h2)
      · obtain rfl : j = p := by omega
        exact hn
theorem le_spec {s : ByteArray} {p : Nat} (h : p ≤ s.size) : p ≤ le s p ∧ le s p ≤ s.size ∧ (le s p = s.size ∨ isNl s (le s p) = true) ∧ ∀ j, p ≤ j → j < le s p → isNl s j = false :=
  leF_spec s _ p (by omega)

/-- The offset lies on its line. -/
theorem le_off (s : ByteArray) : ∀ k, k ≤ s.size → k ≤ le s (ls s k)
  | 0, h => (le_spec h).1
  | k + 1, h => by
    cases hn : isNl s k with
    | true => rw [ls, if_pos hn]; exact (le_spec h).1
    | false =>
      rw [ls, hn]
      have h1 := le_off s k (by omega)
      have h2 := le_spec (s := s) (p := ls s k) (by have := ls_le s k; omega)
      simp
      rcases Nat.lt_or_ge k (le s (ls s k)) with h3 | h3
      · omega
      · have e : le s (ls s k) = k := by omega
        rcases h2.2.2.1 with h4 | h4
        · omega
        · rw [e, hn] at h4; cases h4

/-! ### a rune -/
def dW (s : ByteArray) (p : Nat) : Nat := (Utf8.decode s p).2
def dU (s : ByteArray) (p : Nat) : Nat := if 65535 < (Utf8.decode s p).1 then 2 else 1

theorem cont_not (x : UInt8) (h : x.toNat / 64 = 2) : (x == 10) = false := by
  have : x.toNat ≠ 10 := by omega
  simp only [beq_eq_false_iff_ne, ne_eq]
  intro e; subst e; exact this rfl

/-- A rune's bytes behind its first one are continuation bytes of the source. -/
theorem decode_span (s : ByteArray) (p : Nat) (h : p < s.size) : p + (Utf8.decode s p).2 ≤ s.size ∧ ∀ j, p < j → j < p + (Utf8.decode s p).2 → (s.get! j).toNat / 64 = 2 := by
  have one : ∀ c : Nat, p + ((c, 1) : Nat × Nat).2 ≤ s.size ∧ ∀ j, p < j → j < p + ((c, 1) : Nat × Nat).2 → (s.get! j).toNat / 64 = 2 := fun c => ⟨h, fun j h1 h2 => by have h2 : j < p + 1 := h2; omega⟩
  unfold Utf8.decode
  simp only
  split
  · exact one _
  split
  · rename_i hc
    simp only [Bool.and_eq_true, beq_iff_eq, decide_eq_true_eq] at hc
    split
    · refine ⟨by show p + 2 ≤ _; omega, fun j h1 h2 => ?_⟩
      have h2 : j < p + 2 := h2
      obtain rfl : j = p + 1 := by omega
      exact hc.2.2
    · exact one _
  split
  · rename_i hc
    simp only [Bool.and_eq_true, beq_iff_eq, decide_eq_true_eq] at hc
    split
    · refine ⟨by show p + 3 ≤ _; omega, fun j h1 h2 => ?_⟩
      have h2 : j < p + 3 := h2
      rcases (show j = p + 1 ∨ j = p + 2 from by omega) with rfl | rfl
      · exact hc.1.2.2
      · exact hc.2.2
    · exact one _
  split
  · rename_i hc
    simp only [Bool.and_eq_true, beq_iff_eq, decide_eq_true_eq] at hc
    split
    · refine ⟨by show p + 4 ≤ _; omega, fun j h1 h2 => ?_⟩
      have h2 : j < p + 4 := h2
      rcases (show j = p + 1 ∨ j = p + 2 ∨ j = p + 3 from by omega) with rfl | rfl | rfl
      · exact hc.1.1.2.2
      · exact hc.1.2.2
      · exact hc.2.2
    · exact one _
  · exact one _

theorem get_cut (s : ByteArray) (a b i : Nat) (hb : b ≤ s.size) (hi : a + i < b) : (s.extract a b).get! i = s.get! (a + i) := by
  have h1 : (s.extract a b).data = s.data.extract a b := by simp
  show (s.extract a b).data[i]! = s.data[a + i]!
  rw [h1]
  have hs : s.data.size = s.size := rfl
  rw [getElem!_pos _ _ (by simp; omega), getElem!_pos _ _ (by omega)]
  simp

/-- Within a line a rune reads as it does in the source. -/
theorem decode_cut (s : ByteArray) (a b i : Nat) (hb : b ≤ s.size) (he : b = s.size ∨ isNl s b = true) (hi : a + i < b) : Utf8.decode (s.extract a b) i = Utf8.decode s (a + i) := by
  have hz : (s.extract a b).size = b - a := by simp; omega
  have g : ∀ k, a + i + k < b → (s.extract a b).get! (i + k) = s.get! (a + i + k) := fun k hk => by rw [get_cut s a b (i + k) hb (by omega), Nat.add_assoc]
  have g0 := g 0 (by omega)
  have c1 : ∀ k, a + i + k < b → decide (i + k < (s.extract a b).size) = decide (a + i + k < s.size) := fun k hk => by
    rw [hz, decide_eq_true (by omega), decide_eq_true (by omega)]
  have c2 : ∀ k, a + i + k = b → (decide (a + i + k < s.size) && (s.get! (a + i + k)).toNat / 64 == 2) = false := fun k hk => by
    rw [hk]
    rcases he with h | h
    · rw [h]; simp
    · have h10 : s.get! b = 10 := by unfold isNl at h; exact eq_of_beq h
      rw [h10, show ((10 : UInt8).toNat / 64 == 2) = false from by decide, Bool.and_false]
  have c3 : ∀ k, b ≤ a + i + k → decide (i + k < (s.extract a b).size) = false := fun k hk => by rw [hz]; exact decide_eq_false (by omega)
  unfold Utf8.decode
  rcases (show a + i + 1 = b ∨ a + i + 2 = b ∨ a + i + 3 = b ∨ a + i + 3 < b from by omega) with h | h | h | h
  · simp only [g0, c2 1 h, c3 1 (by omega), Bool.false_and, Bool.and_false, Bool.false_eq_true, if_false]
  · simp only [g0, c2 2 h, c3 2 (by omega), c1 1 (by omega), g 1 (by omega), Bool.false_and, Bool.and_false, Bool.false_eq_true, if_false]
  · simp only [g0, c2 3 h, c3 3 (by omega), c1 1 (by omega), g 1 (by omega), c1 2 (by omega), g 2 (by omega), Bool.false_and, Bool.and_false, Bool.false_eq_true, if_false]
  · simp only [g0, c1 1 (by omega), g 1 (by omega), c1 2 (by omega), g 2 (by omega), c1 3 (by omega), g 3 (by omega)]

theorem dW_pos {s : ByteArray} {p : Nat} (h : p < s.size) : 1 ≤ dW s p := decode_width_pos s p h

/-- A rune within a line ends within it. -/
theorem dW_le {s : ByteArray} {p stop : Nat} (h : p < stop) (hs : stop ≤ s.size) (he : stop = s.size ∨ isNl s stop = true) : p + dW s p ≤ stop := by
  obtain ⟨h1, h2⟩ := decode_span s p (by omega)
  rcases he with rfl | he
  · exact h1
  · rcases Nat.lt_or_ge stop (p + dW s p) with h3 | h3
    · have := cont_not _ (h2 stop h h3)
      unfold isNl at he
      rw [this] at he; cases he
    · exact h3

structure R where
  p : Nat
  l : Nat
  u : Nat

def runesF (s : ByteArray) (stop : Nat) : Nat → Nat → List R
  | 0, _ => []
  | f + 1, p => if p < stop then ⟨p, dW s p, dU s p⟩ :: runesF s stop f (p + dW s p) else []
/-- The runes from p up to stop. -/
def runes (s : ByteArray) (stop p : Nat) : List R := runesF s stop (stop - p) p

theorem runes_nil {s : ByteArray} {stop p : Nat} (h : stop ≤ p) : runes s stop p = [] := by
  unfold runes; rw [show stop - p = 0 from by omega]; rfl
theorem runesF_fuel (s : ByteArray) (stop : Nat) (hs : stop ≤ s.size) : ∀ f g p, stop - p ≤ f → stop - p ≤ g → runesF s stop f p = runesF s stop g p
  | 0, 0, p, _, _ => rfl
  | 0, g + 1, p, h, _ => by rw [runesF, runesF, if_neg (by omega)]
  | f + 1, 0, p, _, h => by rw [runesF, runesF, if_neg (by omega)]
  | f + 1, g + 1, p, h1, h2 => by
    rw [runesF, runesF]
    by_cases h : p < stop
    · have := dW_pos (s := s) (p := p) (by omega)
      rw [if_pos h, if_pos h, runesF_fuel s stop hs f g (p + dW s p) (by omega) (by omega)]
    · rw [if_neg h, if_neg h]
theorem runes_cons {s : ByteArray} {stop p : Nat} (h : p < stop) (hs : stop ≤ s.size) : runes s stop p = ⟨p, dW s p, dU s p⟩ :: runes s stop (p + dW s p) := by
  unfold runes
  have := dW_pos (s := s) (p := p) (by omega)
  rw [show stop - p = (stop - p - 1) + 1 from by omega, runesF, if_pos h, runesF_fuel s stop hs (stop - p - 1) (stop - (p + dW s p)) _ (by omega) (by omega)]

theorem runes_length (s : ByteArray) (stop : Nat) (hs : stop ≤ s.size) : ∀ f p, stop - p ≤ f → (runes s stop p).length ≤ stop - p
  | 0, p, h => by rw [runes_nil (by omega)]; simp
  | f + 1, p, h => by
    by_cases hp : p < stop
    · have := dW_pos (s := s) (p := p) (by omega)
      have := runes_length s stop hs f (p + dW s p) (by omega)
      rw [runes_cons hp hs]
      simp only [List.length_cons]; omega
    · rw [runes_nil (by omega)]; simp

theorem dU_cases (s : ByteArray) (p : Nat) : dU s p = 1 ∨ dU s p = 2 := by unfold dU; split <;> simp

/-- Every rune of a line: its place and length lie within it. -/
theorem runes_mem {s : ByteArray} {stop : Nat} (hs : stop ≤ s.size) (he : stop = s.size ∨ isNl s stop = true) : ∀ f p, stop - p ≤ f → ∀ r, r ∈ runes s stop p → p ≤ r.p ∧ 1 ≤ r.l ∧ r.p + r.l ≤ stop ∧ (r.u = 1 ∨ r.u = 2)
  | 0, p, h, r, hr => by rw [runes_nil (by omega)] at hr; cases hr
  | f + 1, p, h, r, hr => by
    by_cases hp : p < stop
    · have h1 := dW_pos (s := s) (p := p) (by omega)
      rw [runes_cons hp hs] at hr
      rcases List.mem_cons.1 hr with rfl | hr
      · exact ⟨Nat.le_refl _, h1, dW_le hp hs he, dU_cases s p⟩
      · obtain ⟨a, b⟩ := runes_mem hs he f (p + dW s p) (by omega) r hr
        exact ⟨by omega, b⟩
    · rw [runes_nil (by omega)] at hr; cases hr
end Go.Proofs.YtmdfkahodbfjnaaDoor
