/-
  Common words for the walks of package textedit: an edit, a slice that reads as a list of edits.
-/
import Derived.Test.YtbomilleckgalaaGreatProg
import Derived.WalkKit
import Derived.KernelRfl
import Derived.Lib.Hide
namespace Go.Proofs.YtbomilleckgalaaGreat.Te
open Go.RowKit

theorem info_byte : (Tryz.prog.info? 5).map (fun i => (i.zero, i.size, i.bytes)) = some (some (.int .u8 0), 1, 1) := by kernel_rfl

/-- An edit: its start, its end, its new text. -/
structure Ed where
  s : Int
  e : Int
  t : ByteArray

def Ed.cells (x : Ed) : List Value := [.int .i64 x.s, .int .i64 x.e, .string x.t]

/-- The integers fit their kind, the text is no longer than a string may be. -/
def Ed.ok (x : Ed) : Prop := -9223372036854775808 ≤ x.s ∧ x.s ≤ 9223372036854775807 ∧ -9223372036854775808 ≤ x.e ∧ x.e ≤ 9223372036854775807 ∧ x.t.size ≤ maxLen

/-- The slice value v reads in w as the list l of edits. -/
def Eds (w : World) (B : Nat) (a : Option Addr) (l : List Ed) : Prop :=
  ∀ i x, l[i]? = some x → x.ok ∧ ∃ b o, a = some ⟨b, o, none⟩ ∧ b < B ∧
    w.cell? ⟨b, o + i * 3, none⟩ = some (.int .i64 x.s) ∧ w.cell? ⟨b, o + i * 3 + 1, none⟩ = some (.int .i64 x.e) ∧ w.cell? ⟨b, o + i * 3 + 2, none⟩ = some (.string x.t)

theorem Eds.below {w w' : World} {B : Nat} {a : Option Addr} {l : List Ed} (h : Eds w B a l) (hb : Below B w w') : Eds w' B a l := by
  intro i x hx
  obtain ⟨hok, b, o, ha, hlt, h0, h1, h2⟩ := h i x hx
  exact ⟨hok, b, o, ha, hlt, (hb.cell (p := ⟨b, _, none⟩) hlt).trans h0, (hb.cell (p := ⟨b, _, none⟩) hlt).trans h1, (hb.cell (p := ⟨b, _, none⟩) hlt).trans h2⟩

def sepFrom (n : Int) : Int → List Ed → Bool
  | _, [] => true
  | p, x :: r => if x.s ≤ p ∨ x.e < x.s ∨ n < x.e then false else sepFrom n x.e r

def dsum : List Ed → Int
  | [] => 0
  | x :: r => (x.e - x.s) + dsum r

def tsum : List Ed → Nat
  | [] => 0
  | x :: r => x.t.size + tsum r

/-- Within a source of n bytes. -/
def Inside (n : Int) (l : List Ed) : Prop := ∀ x, x ∈ l → 0 ≤ x.s ∧ x.s ≤ x.e ∧ x.e ≤ n

theorem dsum_append (a b : List Ed) : dsum (a ++ b) = dsum a + dsum b := by
  induction a with
  | nil => simp [dsum]
  | cons x r ih => simp [dsum, ih]; omega

theorem tsum_append (a b : List Ed) : tsum (a ++ b) = tsum a + tsum b := by
  induction a with
  | nil => simp [tsum]
  | cons x r ih => simp [tsum, ih]; omega

theorem take_snoc {l : List Ed} {k : Nat} {x : Ed} (h : l[k]? = some x) : l.take (k + 1) = l.take k ++ [x] := by
  rw [List.take_add_one, h]; rfl

theorem dsum_take {l : List Ed} {k : Nat} {x : Ed} (h : l[k]? = some x) : dsum (l.take (k + 1)) = dsum (l.take k) + (x.e - x.s) := by
  rw [take_snoc h, dsum_append]; simp [dsum]

theorem tsum_take {l : List Ed} {k : Nat} {x : Ed} (h : l[k]? = some x) : tsum (l.take (k + 1)) = tsum (l.take k) + x.t.size := by
  rw [take_snoc h, tsum_append]; simp [tsum]

theorem tsum_take_le (l : List Ed) (k : Nat) : tsum (l.take k) ≤ tsum l := by
  have h := tsum_append (l.take k) (l.drop k)
  rw [List.take_append_drop] at h
  omega

theorem dsum_bd {n : Int} {l : List Ed} (h : Inside n l) : 0 ≤ dsum l ∧ dsum l ≤ n * l.length := by
  induction l with
  | nil => simp [dsum]
  | cons x r ih =>
    have hx := h x (by simp)
    have hr := ih (fun y hy => h y (by simp [hy]))
    simp only [dsum, List.length_cons]
    have : n * ((r.length + 1 : Nat) : Int) = n * r.length + n := by rw [Int.natCast_add, Int.mul_add]; simp
    omega

theorem Inside.take {n : Int} {l : List Ed} (h : Inside n l) (k : Nat) : Inside n (l.take k) := fun x hx => h x (List.mem_of_mem_take hx)

theorem Inside.dsum_le {n : Int} {l : List Ed} (h : Inside n l) (hn : n ≤ 2000) (hl : l.length ≤ 50) (k : Nat) : 0 ≤ dsum (l.take k) ∧ dsum (l.take k) ≤ 100000 := by
  have h1 := dsum_bd (h.take k)
  have h2 : (l.take k).length ≤ 50 := Nat.le_trans (List.length_take_le' _ _) hl
  refine ⟨h1.1, Int.le_trans h1.2 ?_⟩
  by_cases h0 : 0 ≤ n
  · have : n * ((l.take k).length : Int) ≤ 2000 * 50 := Int.mul_le_mul hn (by omega) (by omega) (by omega)
    omega
  · have : n * ((l.take k).length : Int) ≤ 0 := Int.mul_nonpos_of_nonpos_of_nonneg (by omega) (by omega)
    omega

/-- Does the result have room? -/
def fitsB (n : Int) (l : List Ed) : Bool := decide ((tsum l : Int) ≤ 2000 - n + dsum l)

/-- What Validate answers for a source of n bytes. -/
def errV (n : Int) (l : List Ed) : Int :=
  if 2000 < n ∨ (50 : Int) < l.length then 2 else if sepFrom n (-1) l = false then 3 else if fitsB n l = false then 2 else 0

end Go.Proofs.YtbomilleckgalaaGreat.Te
