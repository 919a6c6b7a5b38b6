/-
  An argument of type api.Position, opened and shut: two integers.
-/
import Derived.Test.YtmdfkahodbfjnaaDoorLaid
import Derived.ChangeSame
namespace Go.Proofs.YtmdfkahodbfjnaaDoor
open Go.ChangeShapes Go.WideShapes Go.ChangeAt Go.RowKit

theorem cells23 : Tryd.prog.cellsOf 23 = 2 := by kernel_rfl
theorem cells3 : Tryd.prog.cellsOf 3 = 1 := by kernel_rfl

section
variable {H : Type} {enc : TypeId × Value → H} {W : World} {base : Nat} {sp : Nat → Bool} {held : Bool}

theorem open_pos {r : Reach} {b0 : Nat} {v : Value} {d : DataW H} {ps : List MemPlace} (hval : Value.okWide Tryd.prog W r b0 23 v) (hd : DataW.Trod enc Tryd.prog W base sp held 23 v d ps) :
    ∃ a b : Int, v = .agg #[.int .i64 a, .int .i64 b] ∧ d = .agg [.lit (.int .i64 a), .lit (.int .i64 b)] ∧ ps = [] ∧ (Lit.int .i64 a).wf = true ∧ (Lit.int .i64 b).wf = true := by
  obtain ⟨cs, rfl, hcs⟩ := okWide_struct Tryd.underlying23 hval
  rw [cells23] at hcs
  obtain ⟨fuel, hf⟩ := hd
  obtain ⟨y0, y1, n, hx, _, h0, h1⟩ := trod_struct2 Tryd.underlying23 hf
  obtain ⟨l⟩ := cs
  match l, hcs with
  | [c0, c1], _ =>
    rw [cells3] at h0 h1
    obtain ⟨a, ea, rfl, wa⟩ := DataW.trod_int Tryd.underlying3 h0
    obtain ⟨b, eb, rfl, wb⟩ := DataW.trod_int Tryd.underlying3 h1
    simp [Value.cells] at ea eb
    subst ea; subst eb
    simp only [Prod.mk.injEq] at hx
    exact ⟨a, b, rfl, hx.1, hx.2, wa, wb⟩

theorem shut_pos {a b : Int} (wa : (Lit.int .i64 a).wf = true) (wb : (Lit.int .i64 b).wf = true) :
    DataW.Trod enc Tryd.prog W base sp held 23 (.agg #[.int .i64 a, .int .i64 b]) (.agg [.lit (.int .i64 a), .lit (.int .i64 b)]) [] :=
  ⟨2, trod_struct2_mk (n := 1) (cs := [.int .i64 a, .int .i64 b]) (y0 := (.lit (.int .i64 a), [])) (y1 := (.lit (.int .i64 b), [])) Tryd.underlying23 (by rw [cells23]; rfl)
    (by rw [cells3]; exact trod_int_mk 0 Tryd.underlying3 wa) (by rw [cells3]; exact trod_int_mk 0 Tryd.underlying3 wb)⟩
end
end Go.Proofs.YtmdfkahodbfjnaaDoor
