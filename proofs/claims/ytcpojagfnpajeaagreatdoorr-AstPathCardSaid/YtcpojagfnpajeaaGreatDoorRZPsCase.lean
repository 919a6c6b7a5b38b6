/-
  The switches over the texts of tokens: startsItem, precedence, and what can start a type, a literal, a pattern, an expression.
  What can start a pattern, a literal, an expression; the kind of a member.
  What is to be proved of each method of the parser: it does what the plain function of its name does. The words for the walks.
-/
import Derived.Test.YtcpojagfnpajeaaGreatDoorRZPsAct
import Derived.Deep.LoopGhost
namespace Go.Proofs.YtcpojagfnpajeaaGreatDoorR.Ps
open Go.RowKit

theorem bs_list (X : List UInt8) : (Lx.bs X).toList = X := by rw [ByteArray.toList_eq]; exact Lx.L_bs X

set_option maxRecDepth 100000 in
set_option maxHeartbeats 1000000 in
theorem starts_bytes (E : Env) (A : Ho) (w0 w : World) (s : S) (q : Int) (y : ByteArray) (c : Bool) (hc : startsI y.toList = c) (h : At E A w0 s w) :
    Calls Tryz.prog 163 #[.agg #[.int .i64 q, .string y]] w fun e w' => e = .returned (.bool c) ∧ At E A w0 s w' := by
  have H := Lib.hid h
  clear h
  cases e1 : (y.toList == [112, 117, 98]) with
  | true =>
    have HC : Hid (c = true) := by show _ = _; rw [← hc, startsI, e1]; rfl
    clear hc
    go_enter Tryz.func163, Tryz.ntmps163
    go_wp2_with fail
    go_ret
    exact ⟨by rw [HC.out]; rfl, H.out.alloc _⟩
  | false =>
  cases e2 : (y.toList == [117, 115, 101]) with
  | true =>
    have HC : Hid (c = true) := by show _ = _; rw [← hc, startsI, e1, e2]; rfl
    clear hc
    go_enter Tryz.func163, Tryz.ntmps163
    go_wp2_with fail
    go_ret
    exact ⟨by rw [HC.out]; rfl, H.out.alloc _⟩
  | false =>
  cases e3 : (y.toList == [102, 110]) with
  | true =>
    have HC : Hid (c = true) := by show _ = _; rw [← hc, startsI, e1, e2, e3]; rfl
    clear hc
    go_enter Tryz.func163, Tryz.ntmps163
    go_wp2_with fail
    go_ret
    exact ⟨by rw [HC.out]; rfl, H.out.alloc _⟩
  | false =>
  cases e4 : (y.toList == [115, 116, 114, 117, 99, 116]) with
  | true =>
    have HC : Hid (c = true) := by show _ = _; rw [← hc, startsI, e1, e2, e3, e4]; rfl
    clear hc
    go_enter Tryz.func163, Tryz.ntmps163
    go_wp2_with fail
    go_ret
    exact ⟨by rw [HC.out]; rfl, H.out.alloc _⟩
  | false =>
  cases e5 : (y.toList == [101, 110, 117, 109]) with
  | true =>
    have HC : Hid (c = true) := by show _ = _; rw [← hc, startsI, e1, e2, e3, e4, e5]; rfl
    clear hc
    go_enter Tryz.func163, Tryz.ntmps163
    go_wp2_with fail
    go_ret
    exact ⟨by rw [HC.out]; rfl, H.out.alloc _⟩
  | false =>
  cases e6 : (y.toList == [116, 114, 97, 105, 116]) with
  | true =>
    have HC : Hid (c = true) := by show _ = _; rw [← hc, startsI, e1, e2, e3, e4, e5, e6]; rfl
    clear hc
    go_enter Tryz.func163, Tryz.ntmps163
    go_wp2_with fail
    go_ret
    exact ⟨by rw [HC.out]; rfl, H.out.alloc _⟩
  | false =>
  cases e7 : (y.toList == [105, 109, 112, 108]) with
  | true =>
    have HC : Hid (c = true) := by show _ = _; rw [← hc, startsI, e1, e2, e3, e4, e5, e6, e7]; rfl
    clear hc
    go_enter Tryz.func163, Tryz.ntmps163
    go_wp2_with fail
    go_ret
    exact ⟨by rw [HC.out]; rfl, H.out.alloc _⟩
  | false =>
  cases e8 : (y.toList == [99, 111, 110, 115, 116]) with
  | true =>
    have HC : Hid (c = true) := by show _ = _; rw [← hc, startsI, e1, e2, e3, e4, e5, e6, e7, e8]; rfl
    clear hc
    go_enter Tryz.func163, Tryz.ntmps163
    go_wp2_with fail
    go_ret
    exact ⟨by rw [HC.out]; rfl, H.out.alloc _⟩
  | false =>
  cases e9 : (y.toList == [109, 97, 99, 114, 111]) with
  | true =>
    have HC : Hid (c = true) := by show _ = _; rw [← hc, startsI, e1, e2, e3, e4, e5, e6, e7, e8, e9]; rfl
    clear hc
    go_enter Tryz.func163, Tryz.ntmps163
    go_wp2_with fail
    go_ret
    exact ⟨by rw [HC.out]; rfl, H.out.alloc _⟩
  | false =>
  have HC : Hid (c = false) := by show _ = _; rw [← hc, startsI, e1, e2, e3, e4, e5, e6, e7, e8, e9]; rfl
  clear hc
  go_enter Tryz.func163, Tryz.ntmps163
  go_wp2_with fail
  go_ret
  exact ⟨by rw [HC.out]; rfl, H.out.alloc _⟩

set_option maxRecDepth 100000 in
set_option maxHeartbeats 1000000 in
theorem prec_bytes (E : Env) (A : Ho) (w0 w : World) (s : S) (q : Int) (y : ByteArray) (h : At E A w0 s w) :
    Calls Tryz.prog 285 #[.agg #[.int .i64 q, .string y]] w fun e w' => e = .returned (.int .i64 (prec y.toList)) ∧ At E A w0 s w' := by
  have H := Lib.hid h
  clear h
  cases e1 : (y.toList == [124, 124]) with
  | true =>
    have HC : Hid ((prec y.toList : Int) = 1) := by show _ = _; rw [prec, e1]; rfl
    go_enter Tryz.func285, Tryz.ntmps285
    go_wp2_with fail
    go_ret
    exact ⟨by rw [HC.out]; rfl, H.out.alloc _⟩
  | false =>
  cases e2 : (y.toList == [38, 38]) with
  | true =>
    have HC : Hid ((prec y.toList : Int) = 2) := by show _ = _; rw [prec, e1, e2]; rfl
    go_enter Tryz.func285, Tryz.ntmps285
    go_wp2_with fail
    go_ret
    exact ⟨by rw [HC.out]; rfl, H.out.alloc _⟩
  | false =>
  cases e3 : (y.toList == [61, 61]) with
  | true =>
    have HC : Hid ((prec y.toList : Int) = 3) := by show _ = _; rw [prec, e1, e2, e3]; rfl
    go_enter Tryz.func285, Tryz.ntmps285
    go_wp2_with fail
    go_ret
    exact ⟨by rw [HC.out]; rfl, H.out.alloc _⟩
  | false =>
  cases e4 : (y.toList == [60]) with
  | true =>
    have HC : Hid ((prec y.toList : Int) = 3) := by show _ = _; rw [prec, e1, e2, e3, e4]; rfl
    go_enter Tryz.func285, Tryz.ntmps285
    go_wp2_with fail
    go_ret
    exact ⟨by rw [HC.out]; rfl, H.out.alloc _⟩
  | false =>
  cases e5 : (y.toList == [43]) with
  | true =>
    have HC : Hid ((prec y.toList : Int) = 4) := by show _ = _; rw [prec, e1, e2, e3, e4, e5]; rfl
    go_enter Tryz.func285, Tryz.ntmps285
    go_wp2_with fail
    go_ret
    exact ⟨by rw [HC.out]; rfl, H.out.alloc _⟩
  | false =>
  cases e6 : (y.toList == [45]) with
  | true =>
    have HC : Hid ((prec y.toList : Int) = 4) := by show _ = _; rw [prec, e1, e2, e3, e4, e5, e6]; rfl
    go_enter Tryz.func285, Tryz.ntmps285
    go_wp2_with fail
    go_ret
    exact ⟨by rw [HC.out]; rfl, H.out.alloc _⟩
  | false =>
  cases e7 : (y.toList == [42]) with
  | true =>
    have HC : Hid ((prec y.toList : Int) = 5) := by show _ = _; rw [prec, e1, e2, e3, e4, e5, e6, e7]; rfl
    go_enter Tryz.func285, Tryz.ntmps285
    go_wp2_with fail
    go_ret
    exact ⟨by rw [HC.out]; rfl, H.out.alloc _⟩
  | false =>
  cases e8 : (y.toList == [47]) with
  | true =>
    have HC : Hid ((prec y.toList : Int) = 5) := by show _ = _; rw [prec, e1, e2, e3, e4, e5, e6, e7, e8]; rfl
    go_enter Tryz.func285, Tryz.ntmps285
    go_wp2_with fail
    go_ret
    exact ⟨by rw [HC.out]; rfl, H.out.alloc _⟩
  | false =>
  have HC : Hid ((prec y.toList : Int) = 0) := by show _ = _; rw [prec, e1, e2, e3, e4, e5, e6, e7, e8]; rfl
  go_enter Tryz.func285, Tryz.ntmps285
  go_wp2_with fail
  go_ret
  exact ⟨by rw [HC.out]; rfl, H.out.alloc _⟩

theorem starts_any (E : Env) (A : Ho) (w0 w : World) (s : S) (t : Tk) (c : Bool) (hc : startsI t.2 = c) (h : At E A w0 s w) :
    Calls Tryz.prog 163 #[.agg #[.int .i64 t.1, .string (Lx.bs t.2)]] w fun e w' => e = .returned (.bool c) ∧ At E A w0 s w' := starts_bytes E A w0 w s _ _ c (by rw [bs_list]; exact hc) h
theorem prec_any (E : Env) (A : Ho) (w0 w : World) (s : S) (t : Tk) (c : Nat) (hc : prec t.2 = c) (h : At E A w0 s w) :
    Calls Tryz.prog 285 #[.agg #[.int .i64 t.1, .string (Lx.bs t.2)]] w fun e w' => e = .returned (.int .i64 c) ∧ At E A w0 s w' := by
  have := prec_bytes E A w0 w s t.1 (Lx.bs t.2) h
  rw [bs_list, hc] at this
  exact this

set_option maxRecDepth 100000 in
theorem atType_any (E : Env) (A : Ho) (w0 w : World) (s : S) (c : Bool) (hc : atType s = c) (h : At E A w0 s w) : Calls Tryz.prog 280 #[P E] w fun e w' => e = .returned (.bool c) ∧ At E A w0 s w' := by
  cases e0 : atB [38] s with
  | true =>
    have HC : Hid (c = true) := by show _ = _; rw [← hc, atType, e0]; rfl
    clear hc
    have K0 := Lib.hid (fun W (h : At E A w0 s W) => at_any E _ [38] rfl A w0 W s _ e0 h)
    go_enter Tryz.func280, Tryz.ntmps280
    go_wp2_with fail
    refine (K0.out _ h).mono ?_
    rintro e w1 ⟨rfl, h1⟩
    go_wp2_with fail
    go_ret
    exact ⟨by rw [HC.out]; rfl, h1⟩
  | false =>
  cases e1 : atB [102, 110] s with
  | true =>
    have HC : Hid (c = true) := by show _ = _; rw [← hc, atType, e0, e1]; rfl
    clear hc
    have K0 := Lib.hid (fun W (h : At E A w0 s W) => at_any E _ [38] rfl A w0 W s _ e0 h)
    have K1 := Lib.hid (fun W (h : At E A w0 s W) => at_any E _ [102, 110] rfl A w0 W s _ e1 h)
    go_enter Tryz.func280, Tryz.ntmps280
    go_wp2_with fail
    refine (K0.out _ h).mono ?_
    rintro e w1 ⟨rfl, h1⟩
    go_wp2_with fail
    refine (K1.out _ h1).mono ?_
    rintro e w2 ⟨rfl, h2⟩
    go_wp2_with fail
    go_ret
    exact ⟨by rw [HC.out]; rfl, h2⟩
  | false =>
  cases e2 : atName s with
  | true =>
    have HC : Hid (c = true) := by show _ = _; rw [← hc, atType, e0, e1, e2]; rfl
    clear hc
    have K0 := Lib.hid (fun W (h : At E A w0 s W) => at_any E _ [38] rfl A w0 W s _ e0 h)
    have K1 := Lib.hid (fun W (h : At E A w0 s W) => at_any E _ [102, 110] rfl A w0 W s _ e1 h)
    have K2 := Lib.hid (fun W (h : At E A w0 s W) => atName_any E A w0 W s _ e2 h)
    go_enter Tryz.func280, Tryz.ntmps280
    go_wp2_with fail
    refine (K0.out _ h).mono ?_
    rintro e w1 ⟨rfl, h1⟩
    go_wp2_with fail
    refine (K1.out _ h1).mono ?_
    rintro e w2 ⟨rfl, h2⟩
    go_wp2_with fail
    refine (K2.out _ h2).mono ?_
    rintro e w3 ⟨rfl, h3⟩
    go_wp2_with fail
    go_ret
    exact ⟨by rw [HC.out]; rfl, h3⟩
  | false =>
    have HC : Hid (c = false) := by show _ = _; rw [← hc, atType, e0, e1, e2]; rfl
    clear hc
    have K0 := Lib.hid (fun W (h : At E A w0 s W) => at_any E _ [38] rfl A w0 W s _ e0 h)
    have K1 := Lib.hid (fun W (h : At E A w0 s W) => at_any E _ [102, 110] rfl A w0 W s _ e1 h)
    have K2 := Lib.hid (fun W (h : At E A w0 s W) => atName_any E A w0 W s _ e2 h)
    go_enter Tryz.func280, Tryz.ntmps280
    go_wp2_with fail
    refine (K0.out _ h).mono ?_
    rintro e w1 ⟨rfl, h1⟩
    go_wp2_with fail
    refine (K1.out _ h1).mono ?_
    rintro e w2 ⟨rfl, h2⟩
    go_wp2_with fail
    refine (K2.out _ h2).mono ?_
    rintro e w3 ⟨rfl, h3⟩
    go_wp2_with fail
    go_ret
    exact ⟨by rw [HC.out]; rfl, h3⟩
end Go.Proofs.YtcpojagfnpajeaaGreatDoorR.Ps

namespace Go.Proofs.YtcpojagfnpajeaaGreatDoorR.Ps
open Go.RowKit

set_option maxRecDepth 100000 in
theorem atLit_any (E : Env) (A : Ho) (w0 w : World) (s : S) (c : Bool) (hc : atLit s = c) (h : At E A w0 s w) : Calls Tryz.prog 323 #[P E] w fun e w' => e = .returned (.bool c) ∧ At E A w0 s w' := by
  have KP := Lib.hid (peek_any E 0 (by omega) A w0 w s h)
  cases e0 : ((pk s.rest 0).1 == 105) with
  | true =>
    have HC : Hid (c = true) := by show _ = _; rw [← hc, atLit, e0]; rfl
    clear hc
    generalize Lx.bs (pk s.rest 0).2 = y at *
    generalize (pk s.rest 0).1 = q at *
    have r0 := run_field0 q y
    go_enter Tryz.func323, Tryz.ntmps323
    go_wp2_with fail
    refine KP.out.mono ?_
    rintro e w1 ⟨rfl, h1⟩
    go_wp2_with fail
    go_ret
    exact ⟨by rw [HC.out]; rfl, h1⟩
  | false =>
  cases e1 : atB [116, 114, 117, 101] s with
  | true =>
    have HC : Hid (c = true) := by show _ = _; rw [← hc, atLit, e0, e1]; rfl
    clear hc
    have K1 := Lib.hid (fun W (h : At E A w0 s W) => at_any E _ [116, 114, 117, 101] rfl A w0 W s _ e1 h)
    clear e1
    generalize Lx.bs (pk s.rest 0).2 = y at *
    generalize (pk s.rest 0).1 = q at *
    have r0 := run_field0 q y
    go_enter Tryz.func323, Tryz.ntmps323
    go_wp2_with fail
    refine KP.out.mono ?_
    rintro e w1 ⟨rfl, h1⟩
    go_wp2_with fail
    refine (K1.out _ h1).mono ?_
    rintro e w2 ⟨rfl, h2⟩
    go_wp2_with fail
    go_ret
    exact ⟨by rw [HC.out]; rfl, h2⟩
  | false =>
  cases e2 : atB [102, 97, 108, 115, 101] s with
  | true =>
    have HC : Hid (c = true) := by show _ = _; rw [← hc, atLit, e0, e1, e2]; rfl
    clear hc
    have K1 := Lib.hid (fun W (h : At E A w0 s W) => at_any E _ [116, 114, 117, 101] rfl A w0 W s _ e1 h)
    have K2 := Lib.hid (fun W (h : At E A w0 s W) => at_any E _ [102, 97, 108, 115, 101] rfl A w0 W s _ e2 h)
    clear e1 e2
    generalize Lx.bs (pk s.rest 0).2 = y at *
    generalize (pk s.rest 0).1 = q at *
    have r0 := run_field0 q y
    go_enter Tryz.func323, Tryz.ntmps323
    go_wp2_with fail
    refine KP.out.mono ?_
    rintro e w1 ⟨rfl, h1⟩
    go_wp2_with fail
    refine (K1.out _ h1).mono ?_
    rintro e w2 ⟨rfl, h2⟩
    go_wp2_with fail
    refine (K2.out _ h2).mono ?_
    rintro e w3 ⟨rfl, h3⟩
    go_wp2_with fail
    go_ret
    exact ⟨by rw [HC.out]; rfl, h3⟩
  | false =>
    have HC : Hid (c = false) := by show _ = _; rw [← hc, atLit, e0, e1, e2]; rfl
    clear hc
    have K1 := Lib.hid (fun W (h : At E A w0 s W) => at_any E _ [116, 114, 117, 101] rfl A w0 W s _ e1 h)
    have K2 := Lib.hid (fun W (h : At E A w0 s W) => at_any E _ [102, 97, 108, 115, 101] rfl A w0 W s _ e2 h)
    clear e1 e2
    generalize Lx.bs (pk s.rest 0).2 = y at *
    generalize (pk s.rest 0).1 = q at *
    have r0 := run_field0 q y
    go_enter Tryz.func323, Tryz.ntmps323
    go_wp2_with fail
    refine KP.out.mono ?_
    rintro e w1 ⟨rfl, h1⟩
    go_wp2_with fail
    refine (K1.out _ h1).mono ?_
    rintro e w2 ⟨rfl, h2⟩
    go_wp2_with fail
    refine (K2.out _ h2).mono ?_
    rintro e w3 ⟨rfl, h3⟩
    go_wp2_with fail
    go_ret
    exact ⟨by rw [HC.out]; rfl, h3⟩

set_option maxRecDepth 100000 in
theorem atPat_any (E : Env) (A : Ho) (w0 w : World) (s : S) (c : Bool) (hc : atPat s = c) (h : At E A w0 s w) : Calls Tryz.prog 326 #[P E] w fun e w' => e = .returned (.bool c) ∧ At E A w0 s w' := by
  cases e0 : atName s with
  | true =>
    have HC : Hid (c = true) := by show _ = _; rw [← hc, atPat, e0]; rfl
    clear hc
    have K0 := Lib.hid (fun W (h : At E A w0 s W) => atName_any E A w0 W s _ e0 h)
    go_enter Tryz.func326, Tryz.ntmps326
    go_wp2_with fail
    refine (K0.out _ h).mono ?_
    rintro e w1 ⟨rfl, h1⟩
    go_wp2_with fail
    go_ret
    exact ⟨by rw [HC.out]; rfl, h1⟩
  | false =>
  cases e1 : atB [109, 117, 116] s with
  | true =>
    have HC : Hid (c = true) := by show _ = _; rw [← hc, atPat, e0, e1]; rfl
    clear hc
    have K0 := Lib.hid (fun W (h : At E A w0 s W) => atName_any E A w0 W s _ e0 h)
    have K1 := Lib.hid (fun W (h : At E A w0 s W) => at_any E _ [109, 117, 116] rfl A w0 W s _ e1 h)
    go_enter Tryz.func326, Tryz.ntmps326
    go_wp2_with fail
    refine (K0.out _ h).mono ?_
    rintro e w1 ⟨rfl, h1⟩
    go_wp2_with fail
    refine (K1.out _ h1).mono ?_
    rintro e w2 ⟨rfl, h2⟩
    go_wp2_with fail
    go_ret
    exact ⟨by rw [HC.out]; rfl, h2⟩
  | false =>
  cases e2 : atLit s with
  | true =>
    have HC : Hid (c = true) := by show _ = _; rw [← hc, atPat, e0, e1, e2]; rfl
    clear hc
    have K0 := Lib.hid (fun W (h : At E A w0 s W) => atName_any E A w0 W s _ e0 h)
    have K1 := Lib.hid (fun W (h : At E A w0 s W) => at_any E _ [109, 117, 116] rfl A w0 W s _ e1 h)
    have K2 := Lib.hid (fun W (h : At E A w0 s W) => atLit_any E A w0 W s _ e2 h)
    go_enter Tryz.func326, Tryz.ntmps326
    go_wp2_with fail
    refine (K0.out _ h).mono ?_
    rintro e w1 ⟨rfl, h1⟩
    go_wp2_with fail
    refine (K1.out _ h1).mono ?_
    rintro e w2 ⟨rfl, h2⟩
    go_wp2_with fail
    refine (K2.out _ h2).mono ?_
    rintro e w3 ⟨rfl, h3⟩
    go_wp2_with fail
    go_ret
    exact ⟨by rw [HC.out]; rfl, h3⟩
  | false =>
    have HC : Hid (c = false) := by show _ = _; rw [← hc, atPat, e0, e1, e2]; rfl
    clear hc
    have K0 := Lib.hid (fun W (h : At E A w0 s W) => atName_any E A w0 W s _ e0 h)
    have K1 := Lib.hid (fun W (h : At E A w0 s W) => at_any E _ [109, 117, 116] rfl A w0 W s _ e1 h)
    have K2 := Lib.hid (fun W (h : At E A w0 s W) => atLit_any E A w0 W s _ e2 h)
    go_enter Tryz.func326, Tryz.ntmps326
    go_wp2_with fail
    refine (K0.out _ h).mono ?_
    rintro e w1 ⟨rfl, h1⟩
    go_wp2_with fail
    refine (K1.out _ h1).mono ?_
    rintro e w2 ⟨rfl, h2⟩
    go_wp2_with fail
    refine (K2.out _ h2).mono ?_
    rintro e w3 ⟨rfl, h3⟩
    go_wp2_with fail
    go_ret
    exact ⟨by rw [HC.out]; rfl, h3⟩

set_option maxRecDepth 100000 in
set_option maxHeartbeats 2000000 in
theorem atExpr_any (E : Env) (A : Ho) (w0 w : World) (s : S) (c : Bool) (hc : atExpr s = c) (h : At E A w0 s w) : Calls Tryz.prog 277 #[P E] w fun e w' => e = .returned (.bool c) ∧ At E A w0 s w' := by
  have KP := Lib.hid (peek_any E 0 (by omega) A w0 w s h)
  have HP := Lib.hid (fun W (h : At E A w0 s W) => prec_any E A w0 W s (pk s.rest 0) _ rfl h)
  have HC : Hid ((exprKind (pk s.rest 0).1 || exprText (pk s.rest 0).2 || decide (0 < prec (pk s.rest 0).2)) = c) := hc
  rw [← bs_list (pk s.rest 0).2] at HC
  clear hc h
  rw [bs_list (pk s.rest 0).2] at HC
  obtain ⟨x, hx⟩ : ∃ x, x = (pk s.rest 0).2 := ⟨_, rfl⟩
  obtain ⟨y, hy⟩ : ∃ y, y = Lx.bs (pk s.rest 0).2 := ⟨_, rfl⟩
  have HXY : Hid (x = y.toList) := by show _ = _; rw [hx, hy, bs_list]
  rw [← hy] at KP HP
  rw [← hx] at HC HP
  rw [HXY.out] at HC HP
  clear hx hy HXY x
  generalize (pk s.rest 0).1 = q at *
  cases k1 : (q == 103) with
  | true =>
    have HC2 : Hid (c = true) := by show _ = _; rw [← HC.out, exprKind, k1]; rfl
    clear HC
    go_enter Tryz.func277, Tryz.ntmps277
    go_wp2_with fail
    refine KP.out.mono ?_
    rintro e w1 ⟨rfl, h1⟩
    go_wp2_with fail
    go_ret
    exact ⟨by rw [HC2.out]; rfl, h1.alloc _⟩
  | false =>
  cases k2 : (q == 105) with
  | true =>
    have HC2 : Hid (c = true) := by show _ = _; rw [← HC.out, exprKind, k1, k2]; rfl
    clear HC
    go_enter Tryz.func277, Tryz.ntmps277
    go_wp2_with fail
    refine KP.out.mono ?_
    rintro e w1 ⟨rfl, h1⟩
    go_wp2_with fail
    go_ret
    exact ⟨by rw [HC2.out]; rfl, h1.alloc _⟩
  | false =>
  cases k3 : (q == 106) with
  | true =>
    have HC2 : Hid (c = true) := by show _ = _; rw [← HC.out, exprKind, k1, k2, k3]; rfl
    clear HC
    go_enter Tryz.func277, Tryz.ntmps277
    go_wp2_with fail
    refine KP.out.mono ?_
    rintro e w1 ⟨rfl, h1⟩
    go_wp2_with fail
    go_ret
    exact ⟨by rw [HC2.out]; rfl, h1.alloc _⟩
  | false =>
  cases e1 : (y.toList == [116, 114, 117, 101]) with
  | true =>
    have HC2 : Hid (c = true) := by show _ = _; rw [← HC.out, exprKind, exprText, k1, k2, k3, e1]; rfl
    clear HC
    go_enter Tryz.func277, Tryz.ntmps277
    go_wp2_with fail
    refine KP.out.mono ?_
    rintro e w1 ⟨rfl, h1⟩
    go_wp2_with fail
    go_ret
    exact ⟨by rw [HC2.out]; rfl, h1.alloc _⟩
  | false =>
  cases e2 : (y.toList == [102, 97, 108, 115, 101]) with
  | true =>
    have HC2 : Hid (c = true) := by show _ = _; rw [← HC.out, exprKind, exprText, k1, k2, k3, e1, e2]; rfl
    clear HC
    go_enter Tryz.func277, Tryz.ntmps277
    go_wp2_with fail
    refine KP.out.mono ?_
    rintro e w1 ⟨rfl, h1⟩
    go_wp2_with fail
    go_ret
    exact ⟨by rw [HC2.out]; rfl, h1.alloc _⟩
  | false =>
  cases e3 : (y.toList == [105, 102]) with
  | true =>
    have HC2 : Hid (c = true) := by show _ = _; rw [← HC.out, exprKind, exprText, k1, k2, k3, e1, e2, e3]; rfl
    clear HC
    go_enter Tryz.func277, Tryz.ntmps277
    go_wp2_with fail
    refine KP.out.mono ?_
    rintro e w1 ⟨rfl, h1⟩
    go_wp2_with fail
    go_ret
    exact ⟨by rw [HC2.out]; rfl, h1.alloc _⟩
  | false =>
  cases e4 : (y.toList == [109, 97, 116, 99, 104]) with
  | true =>
    have HC2 : Hid (c = true) := by show _ = _; rw [← HC.out, exprKind, exprText, k1, k2, k3, e1, e2, e3, e4]; rfl
    clear HC
    go_enter Tryz.func277, Tryz.ntmps277
    go_wp2_with fail
    refine KP.out.mono ?_
    rintro e w1 ⟨rfl, h1⟩
    go_wp2_with fail
    go_ret
    exact ⟨by rw [HC2.out]; rfl, h1.alloc _⟩
  | false =>
  cases e5 : (y.toList == [110, 101, 119]) with
  | true =>
    have HC2 : Hid (c = true) := by show _ = _; rw [← HC.out, exprKind, exprText, k1, k2, k3, e1, e2, e3, e4, e5]; rfl
    clear HC
    go_enter Tryz.func277, Tryz.ntmps277
    go_wp2_with fail
    refine KP.out.mono ?_
    rintro e w1 ⟨rfl, h1⟩
    go_wp2_with fail
    go_ret
    exact ⟨by rw [HC2.out]; rfl, h1.alloc _⟩
  | false =>
  cases e6 : (y.toList == [40]) with
  | true =>
    have HC2 : Hid (c = true) := by show _ = _; rw [← HC.out, exprKind, exprText, k1, k2, k3, e1, e2, e3, e4, e5, e6]; rfl
    clear HC
    go_enter Tryz.func277, Tryz.ntmps277
    go_wp2_with fail
    refine KP.out.mono ?_
    rintro e w1 ⟨rfl, h1⟩
    go_wp2_with fail
    go_ret
    exact ⟨by rw [HC2.out]; rfl, h1.alloc _⟩
  | false =>
  cases e7 : (y.toList == [123]) with
  | true =>
    have HC2 : Hid (c = true) := by show _ = _; rw [← HC.out, exprKind, exprText, k1, k2, k3, e1, e2, e3, e4, e5, e6, e7]; rfl
    clear HC
    go_enter Tryz.func277, Tryz.ntmps277
    go_wp2_with fail
    refine KP.out.mono ?_
    rintro e w1 ⟨rfl, h1⟩
    go_wp2_with fail
    go_ret
    exact ⟨by rw [HC2.out]; rfl, h1.alloc _⟩
  | false =>
  cases e8 : (y.toList == [124]) with
  | true =>
    have HC2 : Hid (c = true) := by show _ = _; rw [← HC.out, exprKind, exprText, k1, k2, k3, e1, e2, e3, e4, e5, e6, e7, e8]; rfl
    clear HC
    go_enter Tryz.func277, Tryz.ntmps277
    go_wp2_with fail
    refine KP.out.mono ?_
    rintro e w1 ⟨rfl, h1⟩
    go_wp2_with fail
    go_ret
    exact ⟨by rw [HC2.out]; rfl, h1.alloc _⟩
  | false =>
  cases e9 : (y.toList == [33]) with
  | true =>
    have HC2 : Hid (c = true) := by show _ = _; rw [← HC.out, exprKind, exprText, k1, k2, k3, e1, e2, e3, e4, e5, e6, e7, e8, e9]; rfl
    clear HC
    go_enter Tryz.func277, Tryz.ntmps277
    go_wp2_with fail
    refine KP.out.mono ?_
    rintro e w1 ⟨rfl, h1⟩
    go_wp2_with fail
    go_ret
    exact ⟨by rw [HC2.out]; rfl, h1.alloc _⟩
  | false =>
  cases e10 : (y.toList == [38]) with
  | true =>
    have HC2 : Hid (c = true) := by show _ = _; rw [← HC.out, exprKind, exprText, k1, k2, k3, e1, e2, e3, e4, e5, e6, e7, e8, e9, e10]; rfl
    clear HC
    go_enter Tryz.func277, Tryz.ntmps277
    go_wp2_with fail
    refine KP.out.mono ?_
    rintro e w1 ⟨rfl, h1⟩
    go_wp2_with fail
    go_ret
    exact ⟨by rw [HC2.out]; rfl, h1.alloc _⟩
  | false =>
  cases e11 : (y.toList == [46]) with
  | true =>
    have HC2 : Hid (c = true) := by show _ = _; rw [← HC.out, exprKind, exprText, k1, k2, k3, e1, e2, e3, e4, e5, e6, e7, e8, e9, e10, e11]; rfl
    clear HC
    go_enter Tryz.func277, Tryz.ntmps277
    go_wp2_with fail
    refine KP.out.mono ?_
    rintro e w1 ⟨rfl, h1⟩
    go_wp2_with fail
    go_ret
    exact ⟨by rw [HC2.out]; rfl, h1.alloc _⟩
  | false =>
  have HC2 : Hid (decide (0 < prec y.toList) = c) := by show _ = _; rw [← HC.out, exprKind, exprText, k1, k2, k3, e1, e2, e3, e4, e5, e6, e7, e8, e9, e10, e11]; simp
  clear HC
  generalize prec y.toList = pv at *
  go_enter Tryz.func277, Tryz.ntmps277
  go_wp2_with fail
  refine KP.out.mono ?_
  rintro e w1 ⟨rfl, h1⟩
  go_wp2_with fail
  refine (HP.out _ (h1.alloc _)).mono ?_
  rintro e w2 ⟨rfl, h2⟩
  go_wp2_with fail
  go_ret
  exact ⟨by rw [← HC2.out]; rfl, h2⟩

set_option maxRecDepth 100000 in
set_option maxHeartbeats 2000000 in
theorem memK_any (E : Env) (A : Ho) (w0 w : World) (s : S) (c : Int) (hc : memK s = c) (h : At E A w0 s w) : Calls Tryz.prog 329 #[P E] w fun e w' => e = .returned (.int .i64 c) ∧ At E A w0 s w' := by
  have K1 := Lib.hid (fun W (h : At E A w0 s W) => peek_any E 1 (by omega) A w0 W s h)
  have K2 := Lib.hid (fun W (h : At E A w0 s W) => peek_any E 2 (by omega) A w0 W s h)
  have HC : Hid (memK s = c) := hc
  clear hc
  have E1 := Lib.hid (bs_list (pk s.rest 1).2)
  have E2 := Lib.hid (bs_list (pk s.rest 2).2)
  unfold memK at HC
  rw [← E1.out, ← E2.out] at HC
  clear E1 E2
  generalize (pk s.rest 1).1 = q at *
  generalize Lx.bs (pk s.rest 1).2 = y at *
  generalize Lx.bs (pk s.rest 2).2 = z at *
  generalize (pk s.rest 2).1 = q2 at *
  have r0 := run_field0 q y
  have r1 := run_field1 q y
  have r2 := run_field1 q2 z
  cases e1 : (q == 103) with
  | true =>
    cases e2 : (z.toList == [40]) with
    | true =>
      have HC2 : Hid (c = 31) := by show _ = _; have := HC.out; rw [← this, e1]; simp [e2]
      clear HC
      go_enter Tryz.func329, Tryz.ntmps329
      go_wp2_with fail
      refine (K1.out _ h).mono ?_
      rintro e w1 ⟨rfl, h1⟩
      go_wp2_with fail
      refine (K2.out _ h1).mono ?_
      rintro e w2 ⟨rfl, h2⟩
      go_wp2_with fail
      go_ret
      exact ⟨by rw [HC2.out]; rfl, h2⟩
    | false =>
      have HC2 : Hid (c = 32) := by show _ = _; have := HC.out; rw [← this, e1]; simp [e2]
      clear HC
      go_enter Tryz.func329, Tryz.ntmps329
      go_wp2_with fail
      refine (K1.out _ h).mono ?_
      rintro e w1 ⟨rfl, h1⟩
      go_wp2_with fail
      refine (K2.out _ h1).mono ?_
      rintro e w2 ⟨rfl, h2⟩
      go_wp2_with fail
      go_ret
      exact ⟨by rw [HC2.out]; rfl, h2⟩
  | false =>
    cases e2 : (y.toList == [40]) with
    | true =>
      have HC2 : Hid (c = 31) := by show _ = _; have := HC.out; rw [← this, e1]; simp [e2]
      clear HC
      go_enter Tryz.func329, Tryz.ntmps329
      go_wp2_with fail
      refine (K1.out _ h).mono ?_
      rintro e w1 ⟨rfl, h1⟩
      go_wp2_with fail
      refine (K1.out _ h1).mono ?_
      rintro e w2 ⟨rfl, h2⟩
      go_wp2_with fail
      go_ret
      exact ⟨by rw [HC2.out]; rfl, h2⟩
    | false =>
      have HC2 : Hid (c = 32) := by show _ = _; have := HC.out; rw [← this, e1]; simp [e2]
      clear HC
      go_enter Tryz.func329, Tryz.ntmps329
      go_wp2_with fail
      refine (K1.out _ h).mono ?_
      rintro e w1 ⟨rfl, h1⟩
      go_wp2_with fail
      refine (K1.out _ h1).mono ?_
      rintro e w2 ⟨rfl, h2⟩
      go_wp2_with fail
      go_ret
      exact ⟨by rw [HC2.out]; rfl, h2⟩
end Go.Proofs.YtcpojagfnpajeaaGreatDoorR.Ps

namespace Go.Proofs.YtcpojagfnpajeaaGreatDoorR.Ps
open Go.RowKit

def sgf : Sg → Nat | .seg => 215 | .tseg => 258
def stf : El → Nat
  | .typ => 280 | .tparam => 222 | .field => 222 | .variant => 222 | .param => 222 | .pat => 326 | .expr => 277 | .arm => 326 | .finit => 222
def elf : El → Nat
  | .typ => 226 | .tparam => 248 | .field => 223 | .variant => 224 | .param => 264 | .pat => 300 | .expr => 228 | .arm => 327 | .finit => 328

/-- The functions' numbers (a loop's have none). -/
def fnum : NT → Option Nat
  | .typ => some 226 | .optTyp _ => some 243 | .typs _ => some 252 | .tparams => some 220 | .tparam => some 248 | .bounds => none | .path _ => some 257 | .pathLoop _ => none | .sg g => some (sgf g) | .list _ _ => some 221
  | .block => some 219 | .blockLoop => none | .stmt => none | .estmt => none | .letS => some 271 | .whileS => some 272 | .returnS => some 273 | .pat => some 300 | .vmatch => some 322
  | .expr => some 228 | .oper _ => some 262 | .operLoop _ => none | .unary => some 284 | .posF => some 313 | .postLoop => none | .args => some 325 | .member => some 330 | .prim => some 274 | .pathMac => some 301
  | .paren => some 302 | .ifE => some 303 | .matchE => some 304 | .arm => some 327 | .structLit => some 305 | .finit => some 328 | .lambda => some 306 | .params _ => some 229 | .param => some 264
  | .useI => some 155 | .useLoop => none | .funcI => some 156 | .sigN => some 218 | .structI => some 157 | .field => some 223 | .enumI => some 158 | .variant => some 224 | .traitI => some 159 | .implI => some 160
  | .members => some 225 | .membersLoop => none | .assoc => some 253 | .method => some 254 | .constI => some 161 | .macroI => some 162 | .skip => some 96 | .skipLoop => none | .file => none

/-- What they are called with. -/
def argsOf (E : Env) : NT → Array Value
  | .optTyp x => #[P E, .string (Lx.bs x)]
  | .typs x => #[P E, .string (Lx.bs x)]
  | .params x => #[P E, .string (Lx.bs x)]
  | .path g => #[P E, .func (.func (sgf g)) #[P E] #[]]
  | .list x e => #[P E, .string (Lx.bs x), .func (.func (stf e)) #[P E] #[], .func (.func (elf e)) #[P E] #[]]
  | .oper k => #[P E, .int .i64 k]
  | _ => #[P E]

/-- A method whose result is the flag. -/
def DoesB (E : Env) (f : Nat) (a : PA) : Prop :=
  ∀ (A : Ho) (w0 w : World) (s s' : S), At E A w0 s w → a s = some s' → Calls Tryz.prog f #[P E] w fun e w' => e = .returned (.bool s'.val) ∧ At E A w0 s' w'

structure Specs (E : Env) (n : Nat) : Prop where
  v : ∀ nt f, fnum nt = some f → Does E f (argsOf E nt) (run n nt)
  st : DoesB E 245 (run n .stmt)
  es : DoesB E 278 (run n .estmt)

/-- The box at bp holds the parser's address and is held fast. -/
def BoxAt (E : Env) (A : Ho) (w0 : World) (bp : Nat) : Prop := A.h bp ∧ w0.heap[bp]? = some (.cells #[P E] 89 (0, 0))

theorem At.lt {E : Env} {A : Ho} {w0 w : World} {s : S} (h : At E A w0 s w) {j : Nat} (hj : A.h j) : j < w.heap.size := by
  obtain ⟨⟨k, aa, ac, v, l, m, hp⟩, _⟩ := h
  exact hp.lt j hj
theorem At.ne {E : Env} {A : Ho} {w0 w : World} {s : S} (h : At E A w0 s w) {j : Nat} (hj : A.h j) : j ≠ E.b := by
  obtain ⟨⟨k, aa, ac, v, l, m, hp⟩, _⟩ := h
  exact fun e => hp.nb (e ▸ hj)
theorem BoxAt.cell {E : Env} {A : Ho} {w0 w : World} {s : S} {bp : Nat} (h : BoxAt E A w0 bp) (ha : At E A w0 s w) : w.cell? ⟨bp, 0, none⟩ = some (P E) := (one_facts (ha.keeps h.1 h.2)).1
theorem BoxAt.lt {E : Env} {A : Ho} {w0 w : World} {s : S} {bp : Nat} (h : BoxAt E A w0 bp) (ha : At E A w0 s w) : bp < w.heap.size := ha.lt h.1

/-- A closure that captures the box alone. -/
def DoesC (E : Env) (f : Nat) (a : PA) : Prop :=
  ∀ (A : Ho) (w0 w : World) (s s' : S) (bp : Nat), BoxAt E A w0 bp → At E A w0 s w → a s = some s' → Calls Tryz.prog f #[.pointer (some ⟨bp, 0, none⟩)] w fun e w' => e = .returned (.tuple #[]) ∧ At E A w0 s' w'

theorem DoesC.clo {E : Env} {f : Nat} {a : PA} (h : DoesC E f a) (he : ∀ xs W, (callFunc f xs).run Tryz.prog W = .ok (.enter f xs) W) {A : Ho} {w0 w : World} {s : S} {bp : Nat} (hb : BoxAt E A w0 bp) (ha : At E A w0 s w) (w1 : World)
    (hw : ∀ j, j < w.heap.size → j ≠ E.b → w1.heap[j]? = w.heap[j]?) : Clo E A w1 (.func (.func f) #[] #[.pointer (some ⟨bp, 0, none⟩)]) a := by
  have hlt := ha.lt hb.1
  have hne := ha.ne hb.1
  have h1 : w1.heap[bp]? = some (.cells #[P E] 89 (0, 0)) := (hw bp hlt hne).trans (ha.keeps hb.1 hb.2)
  have hl1 := (Array.getElem?_eq_some_iff.1 h1).1
  refine ⟨f, #[], #[.pointer (some ⟨bp, 0, none⟩)], rfl, he, fun w2 s s' hw2 hA hr => ?_⟩
  exact h (In E A w1) w2 w2 s s' bp ⟨⟨hl1, hne⟩, (hw2 bp hl1 hne).trans h1⟩ hA hr

theorem box_enter {E : Env} {A : Ho} {w0 w : World} {s : S} (h : At E A w0 s w) :
    ∃ w1 A1, w1 = w.alloc (.cells #[P E] 89) ∧ At E A1 w1 s w1 ∧ BoxAt E A1 w1 w.heap.size ∧ w.heap.size < w1.heap.size ∧ ∀ s' w', At E A1 w1 s' w' → At E A w0 s' w' := by
  have hb : Below w.heap.size w (w.alloc (.cells #[P E] 89)) := (Below.refl _ _).alloc (Nat.le_refl _) _
  exact ⟨_, More A w _, rfl, h.rebase hb, ⟨Or.inr ⟨Nat.le_refl _, by simp⟩, heap_alloc_new w _⟩, by simp, fun s' w' h' => h.unbase hb h'⟩

/-- A box with something else. -/
def BoxV (A : Ho) (w0 : World) (bq : Nat) (v : Value) (t : TypeId) : Prop := A.h bq ∧ w0.heap[bq]? = some (.cells #[v] t (0, 0))
theorem BoxV.cell {E : Env} {A : Ho} {w0 w : World} {s : S} {bq : Nat} {v : Value} {t : TypeId} (h : BoxV A w0 bq v t) (ha : At E A w0 s w) : w.cell? ⟨bq, 0, none⟩ = some v := (one_facts (ha.keeps h.1 h.2)).1
theorem BoxV.lt {E : Env} {A : Ho} {w0 w : World} {s : S} {bq : Nat} {v : Value} {t : TypeId} (h : BoxV A w0 bq v t) (ha : At E A w0 s w) : bq < w.heap.size := ha.lt h.1

theorem box2_enter {E : Env} {A : Ho} {w0 w : World} {s : S} (h : At E A w0 s w) (v : Value) (t : TypeId) :
    ∃ w1 A1, w1 = (w.alloc (.cells #[P E] 89)).alloc (.cells #[v] t) ∧ At E A1 w1 s w1 ∧ BoxAt E A1 w1 w.heap.size ∧ BoxV A1 w1 (w.heap.size + 1) v t ∧ ∀ s' w', At E A1 w1 s' w' → At E A w0 s' w' := by
  have hb : Below w.heap.size w ((w.alloc (.cells #[P E] 89)).alloc (.cells #[v] t)) := ((Below.refl _ _).alloc (Nat.le_refl _) _).alloc (by simp) _
  have h2 := heap_alloc_new (w.alloc (.cells #[P E] 89)) (.cells #[v] t)
  rw [show (w.alloc (.cells #[P E] 89)).heap.size = w.heap.size + 1 from by simp] at h2
  exact ⟨_, More A w _, rfl, h.rebase hb, ⟨Or.inr ⟨Nat.le_refl _, by simp; omega⟩, alloc_keeps _ (heap_alloc_new w _)⟩, ⟨Or.inr ⟨by omega, by simp⟩, h2⟩, fun s' w' h' => h.unbase hb h'⟩

theorem clo2 {E : Env} {f : Nat} {cs : Array Value} {a : PA} {bp bq : Nat} {v : Value} {t : TypeId}
    (h : ∀ (A : Ho) (w0 w : World) (s s' : S), BoxAt E A w0 bp → BoxV A w0 bq v t → At E A w0 s w → a s = some s' → Calls Tryz.prog f cs w fun e w' => e = .returned (.tuple #[]) ∧ At E A w0 s' w')
    (he : ∀ xs W, (callFunc f xs).run Tryz.prog W = .ok (.enter f xs) W) {A : Ho} {w0 w : World} {s : S} (hb : BoxAt E A w0 bp) (hq : BoxV A w0 bq v t) (ha : At E A w0 s w) (w1 : World)
    (hw : ∀ j, j < w.heap.size → j ≠ E.b → w1.heap[j]? = w.heap[j]?) : Clo E A w1 (.func (.func f) #[] cs) a := by
  have hlt := ha.lt hb.1
  have hne := ha.ne hb.1
  have hlq := ha.lt hq.1
  have hnq := ha.ne hq.1
  have h1 : w1.heap[bp]? = some (.cells #[P E] 89 (0, 0)) := (hw bp hlt hne).trans (ha.keeps hb.1 hb.2)
  have h2 : w1.heap[bq]? = some (.cells #[v] t (0, 0)) := (hw bq hlq hnq).trans (ha.keeps hq.1 hq.2)
  have hl1 := (Array.getElem?_eq_some_iff.1 h1).1
  have hl2 := (Array.getElem?_eq_some_iff.1 h2).1
  refine ⟨f, #[], cs, rfl, he, fun w2 s s' hw2 hA hr => ?_⟩
  rw [Array.empty_append]
  exact h (In E A w1) w2 w2 s s' ⟨⟨hl1, hne⟩, (hw2 bp hl1 hne).trans h1⟩ ⟨⟨hl2, hnq⟩, (hw2 bq hl2 hnq).trans h2⟩ hA hr

theorem onAcc_true {x : List UInt8} {a b : PA} {s m : S} (c : atB x s = true) (h : onAcc x a b s = some m) : ∃ t, take s = some t ∧ a t = some m := by
  unfold onAcc at h
  rw [if_pos c] at h
  cases ht : take s with
  | none => simp [ht] at h
  | some t => exact ⟨t, rfl, by simpa [ht] using h⟩
theorem onAcc_false {x : List UInt8} {a b : PA} {s m : S} (c : atB x s = false) (h : onAcc x a b s = some m) : b s = some m := by
  unfold onAcc at h
  rw [c] at h
  exact h
theorem cond_true {t : S → Bool} {a b : PA} {s m : S} (h : cond t a b s = some m) (c : t s = true) : a s = some m := by
  unfold cond at h
  rw [if_pos c] at h
  exact h
theorem cond_false {t : S → Bool} {a b : PA} {s m : S} (h : cond t a b s = some m) (c : t s = false) : b s = some m := by
  unfold cond at h
  rw [c] at h
  exact h
theorem some_eq {s m : S} (h : (some : PA) s = some m) : m = s := (Option.some.inj h).symm
theorem val_eq {b : Bool} {s m : S} (h : setVal b s = some m) : m = { s with val := b } := (Option.some.inj h).symm
theorem acc_some {x : List UInt8} {s m : S} (h : accept x s = some m) (c : Bool) (hc : atB x s = c) : (if c then take s else some s) = some m := by
  unfold accept at h
  rw [hc] at h
  exact h

theorem memK_i64 (s : S) : I64 (memK s) := by
  unfold memK I64
  split
  · split
    · omega
    · omega
  · split
    · omega
    · omega

theorem starts_does (E : Env) (e : El) (A : Ho) (w0 w : World) (s : S) (c : Bool) (hc : starts e s = c) (h : At E A w0 s w) : Calls Tryz.prog (stf e) #[P E] w fun r w' => r = .returned (.bool c) ∧ At E A w0 s w' := by
  cases e
  case typ => exact atType_any E A w0 w s c hc h
  case pat => exact atPat_any E A w0 w s c hc h
  case arm => exact atPat_any E A w0 w s c hc h
  case expr => exact atExpr_any E A w0 w s c hc h
  all_goals exact atName_any E A w0 w s c hc h

theorem enters_st (e : El) : ∀ xs W, (callFunc (stf e) xs).run Tryz.prog W = .ok (.enter (stf e) xs) W := by
  cases e
  case typ => exact enters_of Tryz.func280 (by kernel_rfl) rfl
  case pat => exact enters_of Tryz.func326 (by kernel_rfl) rfl
  case arm => exact enters_of Tryz.func326 (by kernel_rfl) rfl
  case expr => exact enters_of Tryz.func277 (by kernel_rfl) rfl
  all_goals exact enters_of Tryz.func222 (by kernel_rfl) rfl

theorem enters_el (e : El) : ∀ xs W, (callFunc (elf e) xs).run Tryz.prog W = .ok (.enter (elf e) xs) W := by
  cases e
  case typ => exact enters_of Tryz.func226 (by kernel_rfl) rfl
  case tparam => exact enters_of Tryz.func248 (by kernel_rfl) rfl
  case field => exact enters_of Tryz.func223 (by kernel_rfl) rfl
  case variant => exact enters_of Tryz.func224 (by kernel_rfl) rfl
  case param => exact enters_of Tryz.func264 (by kernel_rfl) rfl
  case pat => exact enters_of Tryz.func300 (by kernel_rfl) rfl
  case expr => exact enters_of Tryz.func228 (by kernel_rfl) rfl
  case arm => exact enters_of Tryz.func327 (by kernel_rfl) rfl
  case finit => exact enters_of Tryz.func328 (by kernel_rfl) rfl

theorem enters_sg (g : Sg) : ∀ xs W, (callFunc (sgf g) xs).run Tryz.prog W = .ok (.enter (sgf g) xs) W := by
  cases g
  · exact enters_of Tryz.func215 (by kernel_rfl) rfl
  · exact enters_of Tryz.func258 (by kernel_rfl) rfl

theorem el_num (e : El) : fnum (elN e) = some (elf e) := by cases e <;> rfl
theorem el_args (E : Env) (e : El) : argsOf E (elN e) = #[P E] := by cases e <;> rfl

theorem el_does (E : Env) (e : El) (n : Nat) (H : Specs E n) : Does E (elf e) #[P E] (run n (elN e)) := by
  have h := H.v (elN e) (elf e) (el_num e)
  rw [el_args] at h
  exact h

set_option maxRecDepth 100000 in
theorem unexp_does (E : Env) : Does E 249 #[P E] unexpected := by
  intro A w0 w s s' h hr
  have K := Lib.hid (node_any E 46 (by unfold I64; omega) _ take A w0 w s s' ((take_does E).clo (enters_of Tryz.func99 (by kernel_rfl) rfl) A w) h hr)
  go_enter Tryz.func249, Tryz.ntmps249
  go_wp2_with fail
  refine K.out.mono ?_
  rintro e w1 ⟨rfl, h1⟩
  go_wp2_with fail
  go_end0
  exact ⟨rfl, h1⟩
end Go.Proofs.YtcpojagfnpajeaaGreatDoorR.Ps
