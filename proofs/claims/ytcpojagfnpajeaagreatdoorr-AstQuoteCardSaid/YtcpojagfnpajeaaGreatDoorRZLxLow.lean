/-
  The tokens of a list of bytes, without any program: what chapter 5 says, and what follows from it.
  Common words for the walks of package lexer: tokens in memory, strings as lists of bytes.
-/
import Derived.Test.YtcpojagfnpajeaaGreatDoorRProg
import Derived.WalkKit
import Derived.KernelRfl
import Derived.Lib.Hide
import Derived.Deep.AppendLies
import Derived.Deep.QuietTactic
import Derived.BigQuiet
import Derived.Laws.StructEq
import Derived.Laws.MakeOwn
import Derived.Laws.AppendOwn
import Derived.Laws.Concat
import Derived.Lib.Builder
namespace Go.Proofs.YtcpojagfnpajeaaGreatDoorR.Lx
def spI (c : Int) : Bool := decide (c = 32) || decide (c = 9) || decide (c = 10) || decide (c = 13)
def dgI (c : Int) : Bool := decide (48 ≤ c) && decide (c ≤ 57)
def wdI (c : Int) : Bool := ((decide (65 ≤ c) && decide (c ≤ 90)) || (decide (97 ≤ c) && decide (c ≤ 122))) || decide (c = 95) || dgI c
def nnI (c : Int) : Bool := !decide (c = 10)

/-- How many bytes at the start belong to a class. -/
def run (p : Int → Bool) (l : List UInt8) : Nat := (l.takeWhile fun c => p (c.toNat : Int)).length

/-- The end of the literal whose inner bytes begin at k, or 0; is the next byte escaped? -/
def lit : List UInt8 → Nat → Bool → Nat
  | [], _, _ => 0
  | c :: r, k, q => if c = 10 then 0 else if q = false ∧ c = 34 then k + 1 else lit r (k + 1) (!q && c == 92)

def pairs : List (List UInt8) := [[58, 58], [61, 62], [45, 62], [61, 61], [38, 38], [124, 124]]
def singles : List UInt8 := [40, 41, 123, 125, 91, 93, 60, 62, 44, 59, 58, 46, 61, 43, 45, 42, 47, 33, 38, 124]
def kws : List (List UInt8) := [[117, 115, 101], [112, 117, 98], [97, 115], [102, 110], [115, 116, 114, 117, 99, 116], [101, 110, 117, 109], [116, 114, 97, 105, 116], [105, 109, 112, 108], [102, 111, 114], [99, 111, 110, 115, 116], [109, 97, 99, 114, 111],
  [108, 101, 116], [109, 117, 116], [119, 104, 105, 108, 101], [114, 101, 116, 117, 114, 110], [109, 97, 116, 99, 104], [105, 102], [101, 108, 115, 101], [110, 101, 119], [116, 114, 117, 101], [102, 97, 108, 115, 101], [116, 121, 112, 101]]

/-- Kind and length of the first token, a keyword counted as an identifier. -/
def tok0 : List UInt8 → Int × Nat
  | [] => (108, 1)
  | c :: r =>
    if spI c.toNat then (101, run spI (c :: r))
    else if (c :: r).take 2 = [47, 47] then (102, run nnI (c :: r))
    else if dgI c.toNat then (105, run dgI (c :: r))
    else if wdI c.toNat then (103, run wdI (c :: r))
    else if c = 34 then (if lit r 1 false = 0 then (108, run nnI (c :: r)) else (106, lit r 1 false))
    else if pairs.contains ((c :: r).take 2) then (107, 2)
    else if singles.contains c then (107, 1)
    else (108, 1)

def tokN (l : List UInt8) : Nat := (tok0 l).2
def tokK (l : List UInt8) : Int := if (tok0 l).1 = 103 ∧ kws.contains (l.take (tokN l)) = true then 104 else (tok0 l).1

theorem run_le (p : Int → Bool) (l : List UInt8) : run p l ≤ l.length := by
  unfold run
  exact List.Sublist.length_le (List.takeWhile_sublist _)

theorem run_cons {p : Int → Bool} {c : UInt8} {r : List UInt8} (h : p c.toNat = true) : run p (c :: r) = run p r + 1 := by simp [run, h]
theorem run_zero {p : Int → Bool} {c : UInt8} {r : List UInt8} (h : p c.toNat = false) : run p (c :: r) = 0 := by simp [run, h]
/-- The next byte belongs to the class. -/
theorem run_more {p : Int → Bool} {l : List UInt8} : ∀ {i : Nat} {c : UInt8}, i ≤ run p l → l[i]? = some c → p c.toNat = true → i + 1 ≤ run p l := by
  induction l with
  | nil => intro i c _ h; simp at h
  | cons x r ih =>
    intro i c hi h hp
    by_cases hx : p x.toNat = true
    · rw [run_cons hx] at hi ⊢
      cases i with
      | zero => omega
      | succ i =>
        have := ih (i := i) (c := c) (by omega) (by simpa using h) hp
        omega
    · rw [run_zero (by simpa using hx)] at hi
      obtain rfl : i = 0 := by omega
      simp at h
      subst h
      exact absurd hp hx

/-- The next byte doesn't belong to it. -/
theorem run_done {p : Int → Bool} {l : List UInt8} : ∀ {i : Nat} {c : UInt8}, i ≤ run p l → l[i]? = some c → p c.toNat = false → i = run p l := by
  induction l with
  | nil => intro i c _ h; simp at h
  | cons x r ih =>
    intro i c hi h hp
    by_cases hx : p x.toNat = true
    · rw [run_cons hx] at hi ⊢
      cases i with
      | zero => simp at h; subst h; rw [hx] at hp; cases hp
      | succ i =>
        have := ih (i := i) (c := c) (by omega) (by simpa using h) hp
        omega
    · rw [run_zero (by simpa using hx)] at hi ⊢
      omega

theorem run_end {p : Int → Bool} {l : List UInt8} {i : Nat} (hi : i ≤ run p l) (h : l.length ≤ i) : i = run p l := by have := run_le p l; omega

theorem run_at {p : Int → Bool} {l : List UInt8} : ∀ {i : Nat} {c : UInt8}, i < run p l → l[i]? = some c → p c.toNat = true := by
  intro i c hi h
  cases hp : p c.toNat with
  | true => rfl
  | false => have := run_done (Nat.le_of_lt hi) h hp; omega

theorem lit_le : ∀ (l : List UInt8) (k : Nat) (q : Bool), lit l k q ≤ l.length + k := by
  intro l
  induction l with
  | nil => intro k q; simp [lit]
  | cons c r ih =>
    intro k q
    rw [lit]
    split
    · omega
    · split
      · simp; omega
      · have := ih (k + 1) (!q && c == 92); simp; omega

theorem lit_gt : ∀ (l : List UInt8) (k : Nat) (q : Bool), lit l k q = 0 ∨ k < lit l k q := by
  intro l
  induction l with
  | nil => intro k q; simp [lit]
  | cons c r ih =>
    intro k q
    rw [lit]
    split
    · simp
    · split
      · simp
      · have := ih (k + 1) (!q && c == 92); omega

theorem pairs_two {l : List UInt8} (h : pairs.contains (l.take 2) = true) : 2 ≤ l.length := by
  match l, h with
  | [], h => simp [pairs] at h
  | [c], h => simp [pairs] at h
  | _ :: _ :: _, _ => simp

theorem tokN_bound {l : List UInt8} (hl : l ≠ []) : 1 ≤ tokN l ∧ tokN l ≤ l.length := by
  unfold tokN
  cases l with
  | nil => exact absurd rfl hl
  | cons c r =>
    have h1 : 1 ≤ (c :: r).length := by simp
    have run1 : ∀ p : Int → Bool, p c.toNat = true → 1 ≤ run p (c :: r) ∧ run p (c :: r) ≤ (c :: r).length := fun p hp => ⟨by rw [run_cons hp]; omega, run_le _ _⟩
    rw [tok0]
    split
    · exact run1 _ (by assumption)
    · split
      · rename_i h
        refine run1 _ ?_
        have : c = 47 := by simp at h; exact h.1
        subst this; rfl
      · split
        · exact run1 _ (by assumption)
        · split
          · exact run1 _ (by assumption)
          · split
            · rename_i hc
              split
              · exact run1 _ (by subst hc; rfl)
              · have a := lit_le r 1 false
                have b := lit_gt r 1 false
                simp only [List.length_cons] at *
                omega
            · split
              · rename_i h
                exact ⟨by simp, pairs_two h⟩
              · split
                · exact ⟨Nat.le_refl _, h1⟩
                · exact ⟨Nat.le_refl _, h1⟩

/-- The tokens, by fuel. -/
def ltoks : Nat → List UInt8 → List (Int × List UInt8)
  | 0, _ => []
  | f + 1, l => if l.isEmpty then [] else (tokK l, l.take (tokN l)) :: ltoks f (l.drop (tokN l))

theorem ltoks_nil (f : Nat) : ltoks f [] = [] := by cases f <;> rfl

theorem ltoks_fuel : ∀ (f g : Nat) (l : List UInt8), l.length ≤ f → l.length ≤ g → ltoks f l = ltoks g l := by
  intro f
  induction f with
  | zero => intro g l hf _; have : l = [] := List.eq_nil_of_length_eq_zero (by omega); subst this; rw [ltoks_nil, ltoks_nil]
  | succ f ih =>
    intro g l hf hg
    by_cases hl : l = []
    · subst hl; rw [ltoks_nil, ltoks_nil]
    · have hb := tokN_bound hl
      cases g with
      | zero => omega
      | succ g =>
        rw [ltoks, ltoks, ih g _ (by rw [List.length_drop]; omega) (by rw [List.length_drop]; omega)]

def T (l : List UInt8) : List (Int × List UInt8) := ltoks l.length l

theorem T_nil : T [] = [] := rfl

theorem T_cons {l : List UInt8} (hl : l ≠ []) : T l = (tokK l, l.take (tokN l)) :: T (l.drop (tokN l)) := by
  have hb := tokN_bound hl
  unfold T
  have hp : 0 < l.length := by omega
  obtain ⟨n, hn⟩ : ∃ n, l.length = n + 1 := ⟨l.length - 1, by omega⟩
  rw [hn, ltoks, if_neg (by simpa using hl), ltoks_fuel n (l.drop (tokN l)).length _ (by rw [List.length_drop]; omega) (Nat.le_refl _)]

/-- The texts of tokens, put together. -/
def glue (t : List (Int × List UInt8)) : List UInt8 := t.flatMap fun x => x.2

theorem T_length (n : Nat) : ∀ l : List UInt8, l.length ≤ n → (T l).length ≤ l.length := by
  induction n with
  | zero => intro l h; have : l = [] := List.eq_nil_of_length_eq_zero (by omega); subst this; simp [T_nil]
  | succ n ih =>
    intro l h
    by_cases hl : l = []
    · subst hl; simp [T_nil]
    · have hb := tokN_bound hl
      have := ih (l.drop (tokN l)) (by rw [List.length_drop]; omega)
      rw [List.length_drop] at this
      rw [T_cons hl, List.length_cons]; omega

theorem glue_T (n : Nat) : ∀ l : List UInt8, l.length ≤ n → glue (T l) = l := by
  induction n with
  | zero => intro l h; have : l = [] := List.eq_nil_of_length_eq_zero (by omega); subst this; rfl
  | succ n ih =>
    intro l h
    by_cases hl : l = []
    · subst hl; rfl
    · have hb := tokN_bound hl
      rw [T_cons hl]
      have := ih (l.drop (tokN l)) (by rw [List.length_drop]; omega)
      unfold glue at this ⊢
      rw [List.flatMap_cons, this, List.take_append_drop]

theorem T_some (n : Nat) : ∀ l : List UInt8, l.length ≤ n → ∀ x ∈ T l, x.2 ≠ [] := by
  induction n with
  | zero => intro l h x hx; have : l = [] := List.eq_nil_of_length_eq_zero (by omega); subst this; simp [T_nil] at hx
  | succ n ih =>
    intro l h x hx
    by_cases hl : l = []
    · subst hl; simp [T_nil] at hx
    · have hb := tokN_bound hl
      rw [T_cons hl] at hx
      rcases List.mem_cons.1 hx with rfl | hx
      · intro he
        have := congrArg List.length he
        simp only [List.length_take, List.length_nil] at this
        omega
      · exact ih (l.drop (tokN l)) (by rw [List.length_drop]; omega) x hx

/-- The tokens other than white space. -/
def sig (t : List (Int × List UInt8)) : List (Int × List UInt8) := t.filter fun x => !decide (x.1 = 101)

end Go.Proofs.YtcpojagfnpajeaaGreatDoorR.Lx

namespace Go.Proofs.YtcpojagfnpajeaaGreatDoorR.Lx
open Go.RowKit

/-- A list of bytes as a string, and back. -/
def bs (l : List UInt8) : ByteArray := ⟨l.toArray⟩
def L (s : ByteArray) : List UInt8 := s.data.toList
theorem bs_L (s : ByteArray) : bs (L s) = s := by cases s; simp [bs, L]
theorem L_bs (l : List UInt8) : L (bs l) = l := by simp [bs, L]
theorem L_len (s : ByteArray) : (L s).length = s.size := Array.length_toList
theorem bs_size (l : List UInt8) : (bs l).size = l.length := List.size_toArray
theorem bs_inj {a b : List UInt8} (h : bs a = bs b) : a = b := by rw [← L_bs a, h, L_bs]
theorem L_inj {a b : ByteArray} (h : L a = L b) : a = b := by rw [← bs_L a, h, bs_L]
theorem L_extract (s : ByteArray) (a b : Nat) : L (s.extract a b) = ((L s).drop a).take (b - a) := by
  unfold L; rw [ByteArray.data_extract, Array.toList_extract]
theorem take_is (s : ByteArray) (n : Nat) : s.extract 0 n = bs ((L s).take n) := by
  rw [← bs_L (s.extract 0 n), L_extract, List.drop_zero, Nat.sub_zero]
theorem drop_is (s : ByteArray) (n : Nat) : s.extract n s.size = bs ((L s).drop n) := by
  rw [← bs_L (s.extract n s.size), L_extract, List.take_of_length_le (by rw [List.length_drop, L_len]; omega)]
theorem at_L (s : ByteArray) (i : Nat) (h : i < s.size) : (L s)[i]? = some (s[i]'h) := by
  unfold L
  rw [List.getElem?_eq_getElem (by simpa using h)]
  simp
  rfl
theorem byte_eq {c d : UInt8} (h : (c.toNat : Int) = d.toNat) : c = d := UInt8.toNat_inj.1 (by omega)

abbrev Tk := Int × List UInt8

theorem info_tok : (Tryz.prog.info? 69).map (fun i => (i.zero, i.size, i.bytes)) = some (some (.agg #[.int .i64 0, .string ⟨#[]⟩]), 2, 24) := by kernel_rfl

def tkCells (x : Tk) : List Value := [.int .i64 x.1, .string (bs x.2)]
def cellsT (l : List Tk) : List Value := l.flatMap tkCells

theorem cellsT_append (a b : List Tk) : cellsT (a ++ b) = cellsT a ++ cellsT b := by simp [cellsT]

theorem cellsT_at {l : List Tk} : ∀ {i : Nat} {x : Tk}, l[i]? = some x → (cellsT l)[i * 2]? = some (.int .i64 x.1) ∧ (cellsT l)[i * 2 + 1]? = some (.string (bs x.2)) := by
  induction l with
  | nil => intro i x h; simp at h
  | cons y r ih =>
    intro i x h
    cases i with
    | zero => simp at h; subst h; simp [cellsT, tkCells]
    | succ i =>
      simp at h
      obtain ⟨a, b⟩ := ih h
      have e : cellsT (y :: r) = [.int .i64 y.1, .string (bs y.2)] ++ cellsT r := rfl
      refine ⟨?_, ?_⟩
      · rw [e, List.getElem?_append_right (by simp; omega)]
        simp only [List.length_cons, List.length_nil]
        rw [show (i + 1) * 2 - (0 + 1 + 1) = i * 2 from by omega]; exact a
      · rw [e, List.getElem?_append_right (by simp; omega)]
        simp only [List.length_cons, List.length_nil]
        rw [show (i + 1) * 2 + 1 - (0 + 1 + 1) = i * 2 + 1 from by omega]; exact b

/-- The value v owns the tokens l, from block B on. -/
def OwnsT (w : World) (B : Nat) (v : Value) (l : List Tk) : Prop := w.ownsRow B 69 2 v l.length (cellsT l)

theorem OwnsT.nil (w : World) (B : Nat) : OwnsT w B (.slice none 0 0) [] := World.ownsRow_nil w B 69 2

/-- The slice at a reads in w as the list l of tokens. -/
def Tks (w : World) (B : Nat) (a : Option Addr) (l : List Tk) : Prop :=
  ∀ i x, l[i]? = some x → ∃ b o, a = some ⟨b, o, none⟩ ∧ b < B ∧ w.cell? ⟨b, o + i * 2, none⟩ = some (.int .i64 x.1) ∧ w.cell? ⟨b, o + i * 2 + 1, none⟩ = some (.string (bs x.2))

theorem Tks.nil {w : World} {B : Nat} {a : Option Addr} : Tks w B a [] := fun i x hx => by simp at hx

theorem OwnsT.tks {w : World} {B : Nat} {v : Value} {l : List Tk} (h : OwnsT w B v l) : ∃ a cap, v = .slice a l.length cap ∧ l.length ≤ cap ∧ Tks w w.heap.size a l ∧ (l ≠ [] → ∃ b o, a = some ⟨b, o, none⟩) := by
  rcases h.2 with ⟨rfl, h0⟩ | ⟨g, cap, cur, rfl, hb, hg, h1, h2, h3, h4⟩
  · have : l = [] := List.eq_nil_of_length_eq_zero h0
    subst this
    exact ⟨none, 0, rfl, Nat.le_refl _, Tks.nil, fun h => absurd rfl h⟩
  · refine ⟨some ⟨g, 0, none⟩, cap, rfl, h1, ?_, fun _ => ⟨_, _, rfl⟩⟩
    intro i x hx
    obtain ⟨a, b⟩ := cellsT_at hx
    have hcell : ∀ j u, (cellsT l)[j]? = some u → w.cell? ⟨g, 0 + j, none⟩ = some u := by
      intro j u hu
      rw [← h4, List.getElem?_take] at hu
      split at hu
      · rw [Nat.zero_add, cell_of_row w g j cur 69 (0, 0) hg]
        simpa using hu
      · cases hu
    refine ⟨g, 0, rfl, ?_, hcell _ _ a, by have := hcell _ _ b; rwa [← Nat.add_assoc] at this⟩
    rcases Nat.lt_or_ge g w.heap.size with hlt | hge
    · exact hlt
    · rw [Array.getElem?_eq_none hge] at hg; cases hg

theorem ownsT_below {w w' : World} {B : Nat} {v : Value} {l : List Tk} (h : OwnsT w B v l) (hb : Below w.heap.size w w') : OwnsT w' B v l :=
  World.ownsRow.kept h (row := none) ⟨hb.os, hb.tape, hb.output, hb.size, fun k hk _ => hb.block k hk⟩ (by cases hv : v.ownBlock <;> simp)

/-- The slice at a reads in w as the list l of strings. -/
def Strs (w : World) (B : Nat) (a : Option Addr) (l : List (List UInt8)) : Prop :=
  ∀ i x, l[i]? = some x → ∃ b o, a = some ⟨b, o, none⟩ ∧ b < B ∧ w.cell? ⟨b, o + i, none⟩ = some (.string (bs x))

theorem Strs.below {w w' : World} {B B' : Nat} {a : Option Addr} {l : List (List UInt8)} (h : Strs w B a l) (hb : Below B w w') (hB : B ≤ B') : Strs w' B' a l := by
  intro i x hx
  obtain ⟨b, o, h1, h2, h3⟩ := h i x hx
  exact ⟨b, o, h1, Nat.lt_of_lt_of_le h2 hB, (hb.cell (p := ⟨b, _, none⟩) h2).trans h3⟩

theorem Strs.to {w w' : World} {a : Option Addr} {l : List (List UInt8)} (h : Strs w w.heap.size a l) (hb : Below w.heap.size w w') : Strs w' w'.heap.size a l := h.below hb hb.size

theorem Strs.new (w : World) (l : List (List UInt8)) : Strs (w.alloc (.cells (l.map fun x => Value.string (bs x)).toArray 9)) (w.alloc (.cells (l.map fun x => Value.string (bs x)).toArray 9)).heap.size (some ⟨w.heap.size, 0, none⟩) l := by
  intro i x hx
  have hb := heap_alloc_new w (.cells (l.map fun x => Value.string (bs x)).toArray 9)
  refine ⟨w.heap.size, 0, rfl, by simp, ?_⟩
  rw [Lib.cell_of_heap hb]
  simp [hx]

theorem below_drewN' {B : Nat} {a w : World} (h : Below B a w) (n : Nat) : Below B a (w.drewN n) := ⟨h.os, h.tape, h.output, h.size, h.block⟩
theorem below_drew' {B : Nat} {a w : World} (h : Below B a.drew w) : Below B a w := ⟨h.os, h.tape, h.output, h.size, h.block⟩
end Go.Proofs.YtcpojagfnpajeaaGreatDoorR.Lx
