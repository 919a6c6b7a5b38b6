/-
  Ropes that a law holds in cells of its own; contracts seen from an earlier world.
-/
import Derived.Test.YtkbodbbbgibgfaaStrs
namespace Go.Proofs.Ytkbodbbbgibgfaa
open Go.RowKit

/-- The block b holds the rope whose root is p. -/
def Held (w : World) (b : Nat) (p : Option Addr) : Prop := w.cell? ⟨b, 0, none⟩ = some (.pointer p) ∧ b < w.heap.size

theorem Held.to {w w' : World} {b : Nat} {p : Option Addr} (h : Held w b p) (hb : Below w.heap.size w w') : Held w' b p :=
  ⟨(hb.cell (p := ⟨b, 0, none⟩) h.2).trans h.1, Nat.lt_of_lt_of_le h.2 hb.size⟩

theorem Held.later {w w' : World} {b : Nat} {p : Option Addr} (h : Hid (Held w b p)) (hb : Below w.heap.size w w') : Hid (Held w' b p) := Lib.hid (h.out.to hb)

theorem upto {w0 W : World} {f : FuncId} {args : Array Value} {v : Ending} (hW : Below w0.heap.size w0 W) (h : Calls Try.prog f args W fun e w' => e = v ∧ Below W.heap.size W w') :
    Calls Try.prog f args W fun e w' => e = v ∧ Below w0.heap.size w0 w' :=
  h.mono fun _ _ ⟨he, hb⟩ => ⟨he, hW.trans (hb.mono hW.size)⟩

theorem rstr_of (p : Option Addr) (S : ByteArray) (c : List UInt8) (hS : S.data.toList = c) (w : World) (R : Hid (IsRope w p c)) (hn : c.length ≤ 1099511627776) : Calls Try.prog 10 #[.agg #[.pointer p]] w fun e w' => e = .returned (.string S) ∧ Below w.heap.size w w' := by
  have := rstr_any p c w R hn
  rw [← hS] at this
  have e : (⟨S.data.toList.toArray⟩ : ByteArray) = S := by cases S; simp
  rwa [e] at this

theorem byteAt_of (p : Option Addr) (S : ByteArray) (c : List UInt8) (hS : S.data.toList = c) (i : Int) (w : World) (R : Hid (IsRope w p c)) (h0 : 0 ≤ i) (h1 : i.toNat < S.size) (hn : c.length ≤ 1099511627776) :
    Calls Try.prog 13 #[.agg #[.pointer p], .int .i64 i] w fun e w' => e = .returned (.tuple #[.int .u8 ((S[i.toNat]'h1).toNat : Int), .int .i64 0]) ∧ Below w.heap.size w w' := by
  have hl : S.size = c.length := by rw [← hS]; simp
  refine (byteAt_in p c i w R h0 (by omega) hn).mono ?_
  rintro e w' ⟨x, hx, rfl, hb⟩
  have hx2 : S.data.toList[i.toNat]? = some (S[i.toNat]'h1) := by
    rw [List.getElem?_eq_getElem (by simpa using h1)]
    simp
    rfl
  rw [hS] at hx2
  obtain rfl : x = S[i.toNat]'h1 := Option.some.inj (hx.symm.trans hx2)
  exact ⟨rfl, hb⟩
end Go.Proofs.Ytkbodbbbgibgfaa
