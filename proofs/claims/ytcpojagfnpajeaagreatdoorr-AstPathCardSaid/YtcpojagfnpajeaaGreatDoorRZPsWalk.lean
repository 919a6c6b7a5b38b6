/-
  Types and their parameters, by their contracts.
  Statements and expressions that are sequences, by their contracts.
  Items that are sequences, by their contracts.
  Optional types, lists of types, a type parameter with its bounds, by their contracts.
  Blocks, what is passed over, members, by their contracts.
  Macro calls, imports, calls and members behind an expression, by their contracts.
-/
import Derived.Test.YtcpojagfnpajeaaGreatDoorRZPsCase
import Derived.Deep.DeepCutAuto
namespace Go.Proofs.YtcpojagfnpajeaaGreatDoorR.Ps
open Go.RowKit Go.Shelf

set_option maxRecDepth 100000 in
set_option maxHeartbeats 2000000 in
theorem clo99 (E : Env) (n : Nat) (H : ∀ m, m ≤ n → Specs E m) : DoesC E 255 (seq [take, accept [109, 117, 116], run n .typ]) := by
  intro A w0 w s s' bp hb h hr
  have c1 := hb.cell h
  have z1 := hb.lt h
  go_enter Tryz.func255, Tryz.ntmps255
  go_wp2_with fail
  obtain ⟨m2, p2, q2⟩ := seq_some hr
  refine (take_does E A w0 _ s m2 h p2).mono ?_
  rintro e v3 ⟨rfl, h3⟩
  clear c1 z1
  have c4 := hb.cell h3
  have z4 := hb.lt h3
  go_wp2_with fail
  obtain ⟨m5, p5, q5⟩ := seq_some q2
  cases x6 : atB [109, 117, 116] m2 with
  | true =>
    refine (accept_any E _ [109, 117, 116] rfl A w0 _ m2 m5 true x6 h3 (acc_some p5 true x6)).mono ?_
    rintro e v7 ⟨rfl, h7⟩
    clear c4 z4
    have c8 := hb.cell h7
    have z8 := hb.lt h7
    go_wp2_with fail
    obtain ⟨m9, p9, q9⟩ := seq_some q5
    refine ((H n (Nat.le_refl n)).v (.typ) 226 rfl A w0 _ m5 m9 h7 p9).mono ?_
    rintro e v10 ⟨rfl, h10⟩
    clear c8 z8
    have c11 := hb.cell h10
    have z11 := hb.lt h10
    go_wp2_with fail
    have g12 : At E A w0 s' _ := (by rw [seq_nil q9]; exact h10)
    first | go_end0 | refine bodyPost_ret (results_none rfl _ _ _) rfl ?_
    exact ⟨rfl, g12⟩
  | false =>
    refine (accept_any E _ [109, 117, 116] rfl A w0 _ m2 m5 false x6 h3 (acc_some p5 false x6)).mono ?_
    rintro e v13 ⟨rfl, h13⟩
    clear c4 z4
    have c14 := hb.cell h13
    have z14 := hb.lt h13
    go_wp2_with fail
    obtain ⟨m15, p15, q15⟩ := seq_some q5
    refine ((H n (Nat.le_refl n)).v (.typ) 226 rfl A w0 _ m5 m15 h13 p15).mono ?_
    rintro e v16 ⟨rfl, h16⟩
    clear c14 z14
    have c17 := hb.cell h16
    have z17 := hb.lt h16
    go_wp2_with fail
    have g18 : At E A w0 s' _ := (by rw [seq_nil q15]; exact h16)
    first | go_end0 | refine bodyPost_ret (results_none rfl _ _ _) rfl ?_
    exact ⟨rfl, g18⟩

set_option maxRecDepth 100000 in
set_option maxHeartbeats 2000000 in
theorem clo100 (E : Env) (n : Nat) (H : ∀ m, m ≤ n → Specs E m) : DoesC E 256 (seq [take, expect [40], run n (.typs [41]), run n (.optTyp [45, 62])]) := by
  intro A w0 w s s' bp hb h hr
  have c1 := hb.cell h
  have z1 := hb.lt h
  go_enter Tryz.func256, Tryz.ntmps256
  go_wp2_with fail
  obtain ⟨m2, p2, q2⟩ := seq_some hr
  refine (take_does E A w0 _ s m2 h p2).mono ?_
  rintro e v3 ⟨rfl, h3⟩
  clear c1 z1
  have c4 := hb.cell h3
  have z4 := hb.lt h3
  go_wp2_with fail
  obtain ⟨m5, p5, q5⟩ := seq_some q2
  refine (expect_does E _ [40] rfl A w0 _ m2 m5 h3 p5).mono ?_
  rintro e v6 ⟨rfl, h6⟩
  clear c4 z4
  have c7 := hb.cell h6
  have z7 := hb.lt h6
  go_wp2_with fail
  obtain ⟨m8, p8, q8⟩ := seq_some q5
  refine ((H n (Nat.le_refl n)).v (.typs [41]) 252 rfl A w0 _ m5 m8 h6 p8).mono ?_
  rintro e v9 ⟨rfl, h9⟩
  clear c7 z7
  have c10 := hb.cell h9
  have z10 := hb.lt h9
  go_wp2_with fail
  obtain ⟨m11, p11, q11⟩ := seq_some q8
  refine ((H n (Nat.le_refl n)).v (.optTyp [45, 62]) 243 rfl A w0 _ m8 m11 h9 p11).mono ?_
  rintro e v12 ⟨rfl, h12⟩
  clear c10 z10
  have c13 := hb.cell h12
  have z13 := hb.lt h12
  go_wp2_with fail
  have g14 : At E A w0 s' _ := (by rw [seq_nil q11]; exact h12)
  first | go_end0 | refine bodyPost_ret (results_none rfl _ _ _) rfl ?_
  exact ⟨rfl, g14⟩

set_option maxRecDepth 100000 in
set_option maxHeartbeats 2000000 in
theorem step80 (E : Env) (n : Nat) (H : ∀ m, m ≤ n → Specs E m) : Does E 226 #[P E] (run (n + 1) (.typ)) := by
  intro A w0 w s s' h hr
  have hr : (cond (atB [38]) (node 19 (seq [take, accept [109, 117, 116], (run n) .typ])) (cond (atB [102, 110]) (node 20 (seq [take, expect [40], (run n) (.typs [41]), (run n) (.optTyp [45, 62])])) (cond atName ((run n) (.path .tseg)) missing))) s = some s' := hr
  obtain ⟨w1, A1, hw1, h0, hb, hlt, hback⟩ := box_enter h
  go_enter Tryz.func226, Tryz.ntmps226
  go_upto_region 1 with fail
  rw [← hw1]
  clear hw1
  have c1 := hb.cell h0
  have z1 := hb.lt h0
  go_wp2_with fail
  cases x2 : atB [38] s with
  | true =>
    have q3 := cond_true hr (by first | exact x2 | (show _ = _; simp [x2]))
    refine (at_any E _ [38] rfl A1 w1 _ s true x2 h0).mono ?_
    rintro e v4 ⟨rfl, h4⟩
    clear c1 z1
    have c5 := hb.cell h4
    have z5 := hb.lt h4
    go_wp2_with fail
    refine (node_any E 19 (by unfold I64; omega) _ _ A1 w1 _ s s' ((clo99 E n H).clo (enters_of Tryz.func255 (by kernel_rfl) rfl) hb h4 _ (fun _ _ _ => rfl)) h4 q3).mono ?_
    rintro e v6 ⟨rfl, h6⟩
    clear c5 z5
    have c7 := hb.cell h6
    have z7 := hb.lt h6
    go_wp2_with fail
    first | go_end0 | refine bodyPost_ret (results_none rfl _ _ _) rfl ?_
    exact ⟨rfl, hback _ _ h6⟩
  | false =>
    refine (at_any E _ [38] rfl A1 w1 _ s false x2 h0).mono ?_
    rintro e v8 ⟨rfl, h8⟩
    clear c1 z1
    have c9 := hb.cell h8
    have z9 := hb.lt h8
    go_wp2_with fail
    have q10 := cond_false hr (by first | exact x2 | (show _ = _; simp [x2]))
    cases x11 : atB [102, 110] s with
    | true =>
      have q12 := cond_true q10 (by first | exact x11 | (show _ = _; simp [x11]))
      refine (at_any E _ [102, 110] rfl A1 w1 _ s true x11 h8).mono ?_
      rintro e v13 ⟨rfl, h13⟩
      clear c9 z9
      have c14 := hb.cell h13
      have z14 := hb.lt h13
      go_wp2_with fail
      refine (node_any E 20 (by unfold I64; omega) _ _ A1 w1 _ s s' ((clo100 E n H).clo (enters_of Tryz.func256 (by kernel_rfl) rfl) hb h13 _ (fun _ _ _ => rfl)) h13 q12).mono ?_
      rintro e v15 ⟨rfl, h15⟩
      clear c14 z14
      have c16 := hb.cell h15
      have z16 := hb.lt h15
      go_wp2_with fail
      first | go_end0 | refine bodyPost_ret (results_none rfl _ _ _) rfl ?_
      exact ⟨rfl, hback _ _ h15⟩
    | false =>
      refine (at_any E _ [102, 110] rfl A1 w1 _ s false x11 h8).mono ?_
      rintro e v17 ⟨rfl, h17⟩
      clear c9 z9
      have c18 := hb.cell h17
      have z18 := hb.lt h17
      go_wp2_with fail
      have q19 := cond_false q10 (by first | exact x11 | (show _ = _; simp [x11]))
      cases x20 : atName s with
      | true =>
        have q21 := cond_true q19 (by first | exact x20 | (show _ = _; simp [x20]))
        refine (atName_any E A1 w1 _ s true x20 h17).mono ?_
        rintro e v22 ⟨rfl, h22⟩
        clear c18 z18
        have c23 := hb.cell h22
        have z23 := hb.lt h22
        go_wp2_with fail
        refine ((H n (Nat.le_refl n)).v (.path .tseg) 257 rfl A1 w1 _ s s' h22 q21).mono ?_
        rintro e v24 ⟨rfl, h24⟩
        clear c23 z23
        have c25 := hb.cell h24
        have z25 := hb.lt h24
        go_wp2_with fail
        first | go_end0 | refine bodyPost_ret (results_none rfl _ _ _) rfl ?_
        exact ⟨rfl, hback _ _ h24⟩
      | false =>
        refine (atName_any E A1 w1 _ s false x20 h17).mono ?_
        rintro e v26 ⟨rfl, h26⟩
        clear c18 z18
        have c27 := hb.cell h26
        have z27 := hb.lt h26
        go_wp2_with fail
        have q28 := cond_false q19 (by first | exact x20 | (show _ = _; simp [x20]))
        refine (missing_does E A1 w1 _ s s' h26 q28).mono ?_
        rintro e v29 ⟨rfl, h29⟩
        clear c27 z27
        have c30 := hb.cell h29
        have z30 := hb.lt h29
        go_wp2_with fail
        first | go_end0 | refine bodyPost_ret (results_none rfl _ _ _) rfl ?_
        exact ⟨rfl, hback _ _ h29⟩

set_option maxRecDepth 100000 in
set_option maxHeartbeats 2000000 in
theorem clo91 (E : Env) (n : Nat) (H : ∀ m, m ≤ n → Specs E m) : DoesC E 247 (onAcc [60] (run n (.list [62] .tparam)) some) := by
  intro A w0 w s s' bp hb h hr
  have c1 := hb.cell h
  have z1 := hb.lt h
  go_enter Tryz.func247, Tryz.ntmps247
  go_wp2_with fail
  cases x2 : atB [60] s with
  | true =>
    obtain ⟨t3, p3, q3⟩ := onAcc_true x2 hr
    refine (accept_any E _ [60] rfl A w0 _ s t3 true x2 h p3).mono ?_
    rintro e v4 ⟨rfl, h4⟩
    clear c1 z1
    have c5 := hb.cell h4
    have z5 := hb.lt h4
    go_wp2_with fail
    refine ((H n (Nat.le_refl n)).v (.list [62] .tparam) 221 rfl A w0 _ t3 s' h4 q3).mono ?_
    rintro e v6 ⟨rfl, h6⟩
    clear c5 z5
    have c7 := hb.cell h6
    have z7 := hb.lt h6
    go_wp2_with fail
    first | go_end0 | refine bodyPost_ret (results_none rfl _ _ _) rfl ?_
    exact ⟨rfl, h6⟩
  | false =>
    have q3 := onAcc_false x2 hr
    refine (accept_any E _ [60] rfl A w0 _ s s false x2 h rfl).mono ?_
    rintro e v8 ⟨rfl, h8⟩
    clear c1 z1
    have c9 := hb.cell h8
    have z9 := hb.lt h8
    go_wp2_with fail
    have g10 : At E A w0 s' _ := (by rw [some_eq q3]; exact h8)
    first | go_end0 | refine bodyPost_ret (results_none rfl _ _ _) rfl ?_
    exact ⟨rfl, g10⟩

set_option maxRecDepth 100000 in
set_option maxHeartbeats 2000000 in
theorem step74 (E : Env) (n : Nat) (H : ∀ m, m ≤ n → Specs E m) : Does E 220 #[P E] (run (n + 1) (.tparams)) := by
  intro A w0 w s s' h hr
  have hr : (node 10 (onAcc [60] ((run n) (.list [62] .tparam)) some)) s = some s' := hr
  obtain ⟨w1, A1, hw1, h0, hb, hlt, hback⟩ := box_enter h
  go_enter Tryz.func220, Tryz.ntmps220
  go_upto_region 1 with fail
  rw [← hw1]
  clear hw1
  have c1 := hb.cell h0
  have z1 := hb.lt h0
  go_wp2_with fail
  refine (node_any E 10 (by unfold I64; omega) _ _ A1 w1 _ s s' ((clo91 E n H).clo (enters_of Tryz.func247 (by kernel_rfl) rfl) hb h0 _ (fun _ _ _ => rfl)) h0 hr).mono ?_
  rintro e v2 ⟨rfl, h2⟩
  clear c1 z1
  have c3 := hb.cell h2
  have z3 := hb.lt h2
  go_wp2_with fail
  first | go_end0 | refine bodyPost_ret (results_none rfl _ _ _) rfl ?_
  exact ⟨rfl, hback _ _ h2⟩

set_option maxRecDepth 100000 in
set_option maxHeartbeats 2000000 in
theorem step69 (E : Env) (n : Nat) (_H : ∀ m, m ≤ n → Specs E m) : Does E 215 #[P E] (run (n + 1) (.sg .seg)) := by
  intro A w0 w s s' h hr
  have hr : (node 18 expName) s = some s' := hr
  go_enter Tryz.func215, Tryz.ntmps215
  go_wp2_with fail
  refine (node_any E 18 (by unfold I64; omega) _ _ A w0 _ s s' ((expName_does E).clo (enters_of Tryz.func216 (by kernel_rfl) rfl) A _) h hr).mono ?_
  rintro e v1 ⟨rfl, h1⟩
  go_wp2_with fail
  first | go_end0 | refine bodyPost_ret (results_none rfl _ _ _) rfl ?_
  exact ⟨rfl, h1⟩

set_option maxRecDepth 100000 in
set_option maxHeartbeats 2000000 in
theorem clo122 (E : Env) (n : Nat) (H : ∀ m, m ≤ n → Specs E m) : DoesC E 282 (seq [expName, onAcc [60] (run n (.typs [62])) some]) := by
  intro A w0 w s s' bp hb h hr
  have c1 := hb.cell h
  have z1 := hb.lt h
  go_enter Tryz.func282, Tryz.ntmps282
  go_wp2_with fail
  obtain ⟨m2, p2, q2⟩ := seq_some hr
  refine (expName_does E A w0 _ s m2 h p2).mono ?_
  rintro e v3 ⟨rfl, h3⟩
  clear c1 z1
  have c4 := hb.cell h3
  have z4 := hb.lt h3
  go_wp2_with fail
  obtain ⟨m5, p5, q5⟩ := seq_some q2
  cases x6 : atB [60] m2 with
  | true =>
    obtain ⟨t7, p7, q7⟩ := onAcc_true x6 p5
    refine (accept_any E _ [60] rfl A w0 _ m2 t7 true x6 h3 p7).mono ?_
    rintro e v8 ⟨rfl, h8⟩
    clear c4 z4
    have c9 := hb.cell h8
    have z9 := hb.lt h8
    go_wp2_with fail
    refine ((H n (Nat.le_refl n)).v (.typs [62]) 252 rfl A w0 _ t7 m5 h8 q7).mono ?_
    rintro e v10 ⟨rfl, h10⟩
    clear c9 z9
    have c11 := hb.cell h10
    have z11 := hb.lt h10
    go_wp2_with fail
    have g12 : At E A w0 s' _ := (by rw [seq_nil q5]; exact h10)
    first | go_end0 | refine bodyPost_ret (results_none rfl _ _ _) rfl ?_
    exact ⟨rfl, g12⟩
  | false =>
    have q7 := onAcc_false x6 p5
    refine (accept_any E _ [60] rfl A w0 _ m2 m2 false x6 h3 rfl).mono ?_
    rintro e v13 ⟨rfl, h13⟩
    clear c4 z4
    have c14 := hb.cell h13
    have z14 := hb.lt h13
    go_wp2_with fail
    have g15 : At E A w0 m5 _ := (by rw [some_eq q7]; exact h13)
    have g16 : At E A w0 s' _ := (by rw [seq_nil q5]; exact g15)
    first | go_end0 | refine bodyPost_ret (results_none rfl _ _ _) rfl ?_
    exact ⟨rfl, g16⟩

set_option maxRecDepth 100000 in
set_option maxHeartbeats 2000000 in
theorem step102 (E : Env) (n : Nat) (H : ∀ m, m ≤ n → Specs E m) : Does E 258 #[P E] (run (n + 1) (.sg .tseg)) := by
  intro A w0 w s s' h hr
  have hr : (node 18 (seq [expName, onAcc [60] ((run n) (.typs [62])) some])) s = some s' := hr
  obtain ⟨w1, A1, hw1, h0, hb, hlt, hback⟩ := box_enter h
  go_enter Tryz.func258, Tryz.ntmps258
  go_upto_region 1 with fail
  rw [← hw1]
  clear hw1
  have c1 := hb.cell h0
  have z1 := hb.lt h0
  go_wp2_with fail
  refine (node_any E 18 (by unfold I64; omega) _ _ A1 w1 _ s s' ((clo122 E n H).clo (enters_of Tryz.func282 (by kernel_rfl) rfl) hb h0 _ (fun _ _ _ => rfl)) h0 hr).mono ?_
  rintro e v2 ⟨rfl, h2⟩
  clear c1 z1
  have c3 := hb.cell h2
  have z3 := hb.lt h2
  go_wp2_with fail
  first | go_end0 | refine bodyPost_ret (results_none rfl _ _ _) rfl ?_
  exact ⟨rfl, hback _ _ h2⟩
end Go.Proofs.YtcpojagfnpajeaaGreatDoorR.Ps

namespace Go.Proofs.YtcpojagfnpajeaaGreatDoorR.Ps
open Go.RowKit Go.Shelf

set_option maxRecDepth 100000 in
set_option maxHeartbeats 2000000 in
theorem step111 (E : Env) (n : Nat) (H : ∀ m, m ≤ n → Specs E m) : Does E 271 #[P E] (run (n + 1) (.letS)) := by
  intro A w0 w s s' h hr
  have hr : (seq [take, (run n) .pat, (run n) (.optTyp [58]), expect [61], (run n) .expr, expect [59]]) s = some s' := hr
  go_enter Tryz.func271, Tryz.ntmps271
  go_wp2_with fail
  obtain ⟨m1, p1, q1⟩ := seq_some hr
  refine (take_does E A w0 _ s m1 h p1).mono ?_
  rintro e v2 ⟨rfl, h2⟩
  go_wp2_with fail
  obtain ⟨m3, p3, q3⟩ := seq_some q1
  refine ((H n (Nat.le_refl n)).v (.pat) 300 rfl A w0 _ m1 m3 h2 p3).mono ?_
  rintro e v4 ⟨rfl, h4⟩
  go_wp2_with fail
  obtain ⟨m5, p5, q5⟩ := seq_some q3
  refine ((H n (Nat.le_refl n)).v (.optTyp [58]) 243 rfl A w0 _ m3 m5 h4 p5).mono ?_
  rintro e v6 ⟨rfl, h6⟩
  go_wp2_with fail
  obtain ⟨m7, p7, q7⟩ := seq_some q5
  refine (expect_does E _ [61] rfl A w0 _ m5 m7 h6 p7).mono ?_
  rintro e v8 ⟨rfl, h8⟩
  go_wp2_with fail
  obtain ⟨m9, p9, q9⟩ := seq_some q7
  refine ((H n (Nat.le_refl n)).v (.expr) 228 rfl A w0 _ m7 m9 h8 p9).mono ?_
  rintro e v10 ⟨rfl, h10⟩
  go_wp2_with fail
  obtain ⟨m11, p11, q11⟩ := seq_some q9
  refine (expect_does E _ [59] rfl A w0 _ m9 m11 h10 p11).mono ?_
  rintro e v12 ⟨rfl, h12⟩
  go_wp2_with fail
  have g13 : At E A w0 s' _ := (by rw [seq_nil q11]; exact h12)
  first | go_end0 | refine bodyPost_ret (results_none rfl _ _ _) rfl ?_
  exact ⟨rfl, g13⟩

set_option maxRecDepth 100000 in
set_option maxHeartbeats 2000000 in
theorem step112 (E : Env) (n : Nat) (H : ∀ m, m ≤ n → Specs E m) : Does E 272 #[P E] (run (n + 1) (.whileS)) := by
  intro A w0 w s s' h hr
  have hr : (seq [take, (run n) .expr, (run n) .block]) s = some s' := hr
  go_enter Tryz.func272, Tryz.ntmps272
  go_wp2_with fail
  obtain ⟨m1, p1, q1⟩ := seq_some hr
  refine (take_does E A w0 _ s m1 h p1).mono ?_
  rintro e v2 ⟨rfl, h2⟩
  go_wp2_with fail
  obtain ⟨m3, p3, q3⟩ := seq_some q1
  refine ((H n (Nat.le_refl n)).v (.expr) 228 rfl A w0 _ m1 m3 h2 p3).mono ?_
  rintro e v4 ⟨rfl, h4⟩
  go_wp2_with fail
  obtain ⟨m5, p5, q5⟩ := seq_some q3
  refine ((H n (Nat.le_refl n)).v (.block) 219 rfl A w0 _ m3 m5 h4 p5).mono ?_
  rintro e v6 ⟨rfl, h6⟩
  go_wp2_with fail
  have g7 : At E A w0 s' _ := (by rw [seq_nil q5]; exact h6)
  first | go_end0 | refine bodyPost_ret (results_none rfl _ _ _) rfl ?_
  exact ⟨rfl, g7⟩

set_option maxRecDepth 100000 in
set_option maxHeartbeats 2000000 in
theorem step113 (E : Env) (n : Nat) (H : ∀ m, m ≤ n → Specs E m) : Does E 273 #[P E] (run (n + 1) (.returnS)) := by
  intro A w0 w s s' h hr
  have hr : (seq [take, cond atExpr ((run n) .expr) addNone, expect [59]]) s = some s' := hr
  go_enter Tryz.func273, Tryz.ntmps273
  go_wp2_with fail
  obtain ⟨m1, p1, q1⟩ := seq_some hr
  refine (take_does E A w0 _ s m1 h p1).mono ?_
  rintro e v2 ⟨rfl, h2⟩
  go_wp2_with fail
  obtain ⟨m3, p3, q3⟩ := seq_some q1
  cases x4 : atExpr m1 with
  | true =>
    have q5 := cond_true p3 (by first | exact x4 | (show _ = _; simp [x4]))
    refine (atExpr_any E A w0 _ m1 true x4 h2).mono ?_
    rintro e v6 ⟨rfl, h6⟩
    go_wp2_with fail
    refine ((H n (Nat.le_refl n)).v (.expr) 228 rfl A w0 _ m1 m3 h6 q5).mono ?_
    rintro e v7 ⟨rfl, h7⟩
    go_wp2_with fail
    obtain ⟨m8, p8, q8⟩ := seq_some q3
    refine (expect_does E _ [59] rfl A w0 _ m3 m8 h7 p8).mono ?_
    rintro e v9 ⟨rfl, h9⟩
    go_wp2_with fail
    have g10 : At E A w0 s' _ := (by rw [seq_nil q8]; exact h9)
    first | go_end0 | refine bodyPost_ret (results_none rfl _ _ _) rfl ?_
    exact ⟨rfl, g10⟩
  | false =>
    refine (atExpr_any E A w0 _ m1 false x4 h2).mono ?_
    rintro e v11 ⟨rfl, h11⟩
    go_wp2_with fail
    have q12 := cond_false p3 (by first | exact x4 | (show _ = _; simp [x4]))
    refine (none_does E A w0 _ m1 m3 h11 q12).mono ?_
    rintro e v13 ⟨rfl, h13⟩
    go_wp2_with fail
    obtain ⟨m14, p14, q14⟩ := seq_some q3
    refine (expect_does E _ [59] rfl A w0 _ m3 m14 h13 p14).mono ?_
    rintro e v15 ⟨rfl, h15⟩
    go_wp2_with fail
    have g16 : At E A w0 s' _ := (by rw [seq_nil q14]; exact h15)
    first | go_end0 | refine bodyPost_ret (results_none rfl _ _ _) rfl ?_
    exact ⟨rfl, g16⟩

set_option maxRecDepth 100000 in
set_option maxHeartbeats 2000000 in
theorem step147 (E : Env) (n : Nat) (H : ∀ m, m ≤ n → Specs E m) : Does E 322 #[P E] (run (n + 1) (.vmatch)) := by
  intro A w0 w s s' h hr
  have hr : (seq [(run n) (.path .seg), onAcc [40] ((run n) (.list [41] .pat)) some]) s = some s' := hr
  go_enter Tryz.func322, Tryz.ntmps322
  go_wp2_with fail
  obtain ⟨m1, p1, q1⟩ := seq_some hr
  refine ((H n (Nat.le_refl n)).v (.path .seg) 257 rfl A w0 _ s m1 h p1).mono ?_
  rintro e v2 ⟨rfl, h2⟩
  go_wp2_with fail
  obtain ⟨m3, p3, q3⟩ := seq_some q1
  cases x4 : atB [40] m1 with
  | true =>
    obtain ⟨t5, p5, q5⟩ := onAcc_true x4 p3
    refine (accept_any E _ [40] rfl A w0 _ m1 t5 true x4 h2 p5).mono ?_
    rintro e v6 ⟨rfl, h6⟩
    go_wp2_with fail
    refine ((H n (Nat.le_refl n)).v (.list [41] .pat) 221 rfl A w0 _ t5 m3 h6 q5).mono ?_
    rintro e v7 ⟨rfl, h7⟩
    go_wp2_with fail
    have g8 : At E A w0 s' _ := (by rw [seq_nil q3]; exact h7)
    first | go_end0 | refine bodyPost_ret (results_none rfl _ _ _) rfl ?_
    exact ⟨rfl, g8⟩
  | false =>
    have q5 := onAcc_false x4 p3
    refine (accept_any E _ [40] rfl A w0 _ m1 m1 false x4 h2 rfl).mono ?_
    rintro e v9 ⟨rfl, h9⟩
    go_wp2_with fail
    have g10 : At E A w0 m3 _ := (by rw [some_eq q5]; exact h9)
    have g11 : At E A w0 s' _ := (by rw [seq_nil q3]; exact g10)
    first | go_end0 | refine bodyPost_ret (results_none rfl _ _ _) rfl ?_
    exact ⟨rfl, g11⟩

set_option maxRecDepth 100000 in
set_option maxHeartbeats 2000000 in
theorem step82 (E : Env) (n : Nat) (H : ∀ m, m ≤ n → Specs E m) : Does E 228 #[P E] (run (n + 1) (.expr)) := by
  intro A w0 w s s' h hr
  have hr : ((run n) (.oper 1)) s = some s' := hr
  go_enter Tryz.func228, Tryz.ntmps228
  go_wp2_with fail
  refine ((H n (Nat.le_refl n)).v (.oper 1) 262 rfl A w0 _ s s' h hr).mono ?_
  rintro e v1 ⟨rfl, h1⟩
  go_wp2_with fail
  first | go_end0 | refine bodyPost_ret (results_none rfl _ _ _) rfl ?_
  exact ⟨rfl, h1⟩

set_option maxRecDepth 100000 in
set_option maxHeartbeats 2000000 in
theorem clo142 (E : Env) (n : Nat) (H : ∀ m, m ≤ n → Specs E m) : DoesC E 311 (seq [take, run n .unary]) := by
  intro A w0 w s s' bp hb h hr
  have c1 := hb.cell h
  have z1 := hb.lt h
  go_enter Tryz.func311, Tryz.ntmps311
  go_wp2_with fail
  obtain ⟨m2, p2, q2⟩ := seq_some hr
  refine (take_does E A w0 _ s m2 h p2).mono ?_
  rintro e v3 ⟨rfl, h3⟩
  clear c1 z1
  have c4 := hb.cell h3
  have z4 := hb.lt h3
  go_wp2_with fail
  obtain ⟨m5, p5, q5⟩ := seq_some q2
  refine ((H n (Nat.le_refl n)).v (.unary) 284 rfl A w0 _ m2 m5 h3 p5).mono ?_
  rintro e v6 ⟨rfl, h6⟩
  clear c4 z4
  have c7 := hb.cell h6
  have z7 := hb.lt h6
  go_wp2_with fail
  have g8 : At E A w0 s' _ := (by rw [seq_nil q5]; exact h6)
  first | go_end0 | refine bodyPost_ret (results_none rfl _ _ _) rfl ?_
  exact ⟨rfl, g8⟩

set_option maxRecDepth 100000 in
set_option maxHeartbeats 2000000 in
theorem clo143 (E : Env) (n : Nat) (H : ∀ m, m ≤ n → Specs E m) : DoesC E 312 (seq [take, accept [109, 117, 116], run n .unary]) := by
  intro A w0 w s s' bp hb h hr
  have c1 := hb.cell h
  have z1 := hb.lt h
  go_enter Tryz.func312, Tryz.ntmps312
  go_wp2_with fail
  obtain ⟨m2, p2, q2⟩ := seq_some hr
  refine (take_does E A w0 _ s m2 h p2).mono ?_
  rintro e v3 ⟨rfl, h3⟩
  clear c1 z1
  have c4 := hb.cell h3
  have z4 := hb.lt h3
  go_wp2_with fail
  obtain ⟨m5, p5, q5⟩ := seq_some q2
  cases x6 : atB [109, 117, 116] m2 with
  | true =>
    refine (accept_any E _ [109, 117, 116] rfl A w0 _ m2 m5 true x6 h3 (acc_some p5 true x6)).mono ?_
    rintro e v7 ⟨rfl, h7⟩
    clear c4 z4
    have c8 := hb.cell h7
    have z8 := hb.lt h7
    go_wp2_with fail
    obtain ⟨m9, p9, q9⟩ := seq_some q5
    refine ((H n (Nat.le_refl n)).v (.unary) 284 rfl A w0 _ m5 m9 h7 p9).mono ?_
    rintro e v10 ⟨rfl, h10⟩
    clear c8 z8
    have c11 := hb.cell h10
    have z11 := hb.lt h10
    go_wp2_with fail
    have g12 : At E A w0 s' _ := (by rw [seq_nil q9]; exact h10)
    first | go_end0 | refine bodyPost_ret (results_none rfl _ _ _) rfl ?_
    exact ⟨rfl, g12⟩
  | false =>
    refine (accept_any E _ [109, 117, 116] rfl A w0 _ m2 m5 false x6 h3 (acc_some p5 false x6)).mono ?_
    rintro e v13 ⟨rfl, h13⟩
    clear c4 z4
    have c14 := hb.cell h13
    have z14 := hb.lt h13
    go_wp2_with fail
    obtain ⟨m15, p15, q15⟩ := seq_some q5
    refine ((H n (Nat.le_refl n)).v (.unary) 284 rfl A w0 _ m5 m15 h13 p15).mono ?_
    rintro e v16 ⟨rfl, h16⟩
    clear c14 z14
    have c17 := hb.cell h16
    have z17 := hb.lt h16
    go_wp2_with fail
    have g18 : At E A w0 s' _ := (by rw [seq_nil q15]; exact h16)
    first | go_end0 | refine bodyPost_ret (results_none rfl _ _ _) rfl ?_
    exact ⟨rfl, g18⟩

set_option maxRecDepth 100000 in
set_option maxHeartbeats 2000000 in
theorem step124 (E : Env) (n : Nat) (H : ∀ m, m ≤ n → Specs E m) : Does E 284 #[P E] (run (n + 1) (.unary)) := by
  intro A w0 w s s' h hr
  have hr : (cond (fun s => atB [45] s || atB [33] s || atB [42] s) (node 40 (seq [take, (run n) .unary])) (cond (atB [38]) (node 41 (seq [take, accept [109, 117, 116], (run n) .unary])) ((run n) .posF))) s = some s' := hr
  obtain ⟨w1, A1, hw1, h0, hb, hlt, hback⟩ := box_enter h
  go_enter Tryz.func284, Tryz.ntmps284
  go_upto_region 1 with fail
  rw [← hw1]
  clear hw1
  have c1 := hb.cell h0
  have z1 := hb.lt h0
  go_wp2_with fail
  cases x2 : atB [45] s with
  | true =>
    have q3 := cond_true hr (by first | exact x2 | (show _ = _; simp [x2]))
    refine (at_any E _ [45] rfl A1 w1 _ s true x2 h0).mono ?_
    rintro e v4 ⟨rfl, h4⟩
    clear c1 z1
    have c5 := hb.cell h4
    have z5 := hb.lt h4
    go_wp2_with fail
    refine (node_any E 40 (by unfold I64; omega) _ _ A1 w1 _ s s' ((clo142 E n H).clo (enters_of Tryz.func311 (by kernel_rfl) rfl) hb h4 _ (fun _ _ _ => rfl)) h4 q3).mono ?_
    rintro e v6 ⟨rfl, h6⟩
    clear c5 z5
    have c7 := hb.cell h6
    have z7 := hb.lt h6
    go_wp2_with fail
    first | go_end0 | refine bodyPost_ret (results_none rfl _ _ _) rfl ?_
    exact ⟨rfl, hback _ _ h6⟩
  | false =>
    refine (at_any E _ [45] rfl A1 w1 _ s false x2 h0).mono ?_
    rintro e v8 ⟨rfl, h8⟩
    clear c1 z1
    have c9 := hb.cell h8
    have z9 := hb.lt h8
    go_wp2_with fail
    cases x10 : atB [33] s with
    | true =>
      have q11 := cond_true hr (by first | exact x10 | (show _ = _; simp [x2, x10]))
      refine (at_any E _ [33] rfl A1 w1 _ s true x10 h8).mono ?_
      rintro e v12 ⟨rfl, h12⟩
      clear c9 z9
      have c13 := hb.cell h12
      have z13 := hb.lt h12
      go_wp2_with fail
      refine (node_any E 40 (by unfold I64; omega) _ _ A1 w1 _ s s' ((clo142 E n H).clo (enters_of Tryz.func311 (by kernel_rfl) rfl) hb h12 _ (fun _ _ _ => rfl)) h12 q11).mono ?_
      rintro e v14 ⟨rfl, h14⟩
      clear c13 z13
      have c15 := hb.cell h14
      have z15 := hb.lt h14
      go_wp2_with fail
      first | go_end0 | refine bodyPost_ret (results_none rfl _ _ _) rfl ?_
      exact ⟨rfl, hback _ _ h14⟩
    | false =>
      refine (at_any E _ [33] rfl A1 w1 _ s false x10 h8).mono ?_
      rintro e v16 ⟨rfl, h16⟩
      clear c9 z9
      have c17 := hb.cell h16
      have z17 := hb.lt h16
      go_wp2_with fail
      cases x18 : atB [42] s with
      | true =>
        have q19 := cond_true hr (by first | exact x18 | (show _ = _; simp [x2, x10, x18]))
        refine (at_any E _ [42] rfl A1 w1 _ s true x18 h16).mono ?_
        rintro e v20 ⟨rfl, h20⟩
        clear c17 z17
        have c21 := hb.cell h20
        have z21 := hb.lt h20
        go_wp2_with fail
        refine (node_any E 40 (by unfold I64; omega) _ _ A1 w1 _ s s' ((clo142 E n H).clo (enters_of Tryz.func311 (by kernel_rfl) rfl) hb h20 _ (fun _ _ _ => rfl)) h20 q19).mono ?_
        rintro e v22 ⟨rfl, h22⟩
        clear c21 z21
        have c23 := hb.cell h22
        have z23 := hb.lt h22
        go_wp2_with fail
        first | go_end0 | refine bodyPost_ret (results_none rfl _ _ _) rfl ?_
        exact ⟨rfl, hback _ _ h22⟩
      | false =>
        refine (at_any E _ [42] rfl A1 w1 _ s false x18 h16).mono ?_
        rintro e v24 ⟨rfl, h24⟩
        clear c17 z17
        have c25 := hb.cell h24
        have z25 := hb.lt h24
        go_wp2_with fail
        have q26 := cond_false hr (by first | exact x18 | (show _ = _; simp [x2, x10, x18]))
        cases x27 : atB [38] s with
        | true =>
          have q28 := cond_true q26 (by first | exact x27 | (show _ = _; simp [x27]))
          refine (at_any E _ [38] rfl A1 w1 _ s true x27 h24).mono ?_
          rintro e v29 ⟨rfl, h29⟩
          clear c25 z25
          have c30 := hb.cell h29
          have z30 := hb.lt h29
          go_wp2_with fail
          refine (node_any E 41 (by unfold I64; omega) _ _ A1 w1 _ s s' ((clo143 E n H).clo (enters_of Tryz.func312 (by kernel_rfl) rfl) hb h29 _ (fun _ _ _ => rfl)) h29 q28).mono ?_
          rintro e v31 ⟨rfl, h31⟩
          clear c30 z30
          have c32 := hb.cell h31
          have z32 := hb.lt h31
          go_wp2_with fail
          first | go_end0 | refine bodyPost_ret (results_none rfl _ _ _) rfl ?_
          exact ⟨rfl, hback _ _ h31⟩
        | false =>
          refine (at_any E _ [38] rfl A1 w1 _ s false x27 h24).mono ?_
          rintro e v33 ⟨rfl, h33⟩
          clear c25 z25
          have c34 := hb.cell h33
          have z34 := hb.lt h33
          go_wp2_with fail
          have q35 := cond_false q26 (by first | exact x27 | (show _ = _; simp [x27]))
          refine ((H n (Nat.le_refl n)).v (.posF) 313 rfl A1 w1 _ s s' h33 q35).mono ?_
          rintro e v36 ⟨rfl, h36⟩
          clear c34 z34
          have c37 := hb.cell h36
          have z37 := hb.lt h36
          go_wp2_with fail
          first | go_end0 | refine bodyPost_ret (results_none rfl _ _ _) rfl ?_
          exact ⟨rfl, hback _ _ h36⟩

set_option maxRecDepth 100000 in
set_option maxHeartbeats 2000000 in
theorem step150 (E : Env) (n : Nat) (H : ∀ m, m ≤ n → Specs E m) : Does E 325 #[P E] (run (n + 1) (.args)) := by
  intro A w0 w s s' h hr
  have hr : (seq [take, (run n) (.list [41] .expr)]) s = some s' := hr
  go_enter Tryz.func325, Tryz.ntmps325
  go_wp2_with fail
  obtain ⟨m1, p1, q1⟩ := seq_some hr
  refine (take_does E A w0 _ s m1 h p1).mono ?_
  rintro e v2 ⟨rfl, h2⟩
  go_wp2_with fail
  obtain ⟨m3, p3, q3⟩ := seq_some q1
  refine ((H n (Nat.le_refl n)).v (.list [41] .expr) 221 rfl A w0 _ m1 m3 h2 p3).mono ?_
  rintro e v4 ⟨rfl, h4⟩
  go_wp2_with fail
  have g5 : At E A w0 s' _ := (by rw [seq_nil q3]; exact h4)
  first | go_end0 | refine bodyPost_ret (results_none rfl _ _ _) rfl ?_
  exact ⟨rfl, g5⟩

set_option maxRecDepth 100000 in
set_option maxHeartbeats 2000000 in
theorem step155 (E : Env) (n : Nat) (H : ∀ m, m ≤ n → Specs E m) : Does E 330 #[P E] (run (n + 1) (.member)) := by
  intro A w0 w s s' h hr
  have hr : (seq [take, expName, cond (atB [40]) ((run n) .args) some]) s = some s' := hr
  go_enter Tryz.func330, Tryz.ntmps330
  go_wp2_with fail
  obtain ⟨m1, p1, q1⟩ := seq_some hr
  refine (take_does E A w0 _ s m1 h p1).mono ?_
  rintro e v2 ⟨rfl, h2⟩
  go_wp2_with fail
  obtain ⟨m3, p3, q3⟩ := seq_some q1
  refine (expName_does E A w0 _ m1 m3 h2 p3).mono ?_
  rintro e v4 ⟨rfl, h4⟩
  go_wp2_with fail
  obtain ⟨m5, p5, q5⟩ := seq_some q3
  cases x6 : atB [40] m3 with
  | true =>
    have q7 := cond_true p5 (by first | exact x6 | (show _ = _; simp [x6]))
    refine (at_any E _ [40] rfl A w0 _ m3 true x6 h4).mono ?_
    rintro e v8 ⟨rfl, h8⟩
    go_wp2_with fail
    refine ((H n (Nat.le_refl n)).v (.args) 325 rfl A w0 _ m3 m5 h8 q7).mono ?_
    rintro e v9 ⟨rfl, h9⟩
    go_wp2_with fail
    have g10 : At E A w0 s' _ := (by rw [seq_nil q5]; exact h9)
    first | go_end0 | refine bodyPost_ret (results_none rfl _ _ _) rfl ?_
    exact ⟨rfl, g10⟩
  | false =>
    refine (at_any E _ [40] rfl A w0 _ m3 false x6 h4).mono ?_
    rintro e v11 ⟨rfl, h11⟩
    go_wp2_with fail
    have q12 := cond_false p5 (by first | exact x6 | (show _ = _; simp [x6]))
    have g13 : At E A w0 m5 _ := (by rw [some_eq q12]; exact h11)
    have g14 : At E A w0 s' _ := (by rw [seq_nil q5]; exact g13)
    first | go_end0 | refine bodyPost_ret (results_none rfl _ _ _) rfl ?_
    exact ⟨rfl, g14⟩

set_option maxRecDepth 100000 in
set_option maxHeartbeats 2000000 in
theorem step133 (E : Env) (n : Nat) (H : ∀ m, m ≤ n → Specs E m) : Does E 302 #[P E] (run (n + 1) (.paren)) := by
  intro A w0 w s s' h hr
  have hr : (seq [take, (run n) .expr, expect [41]]) s = some s' := hr
  go_enter Tryz.func302, Tryz.ntmps302
  go_wp2_with fail
  obtain ⟨m1, p1, q1⟩ := seq_some hr
  refine (take_does E A w0 _ s m1 h p1).mono ?_
  rintro e v2 ⟨rfl, h2⟩
  go_wp2_with fail
  obtain ⟨m3, p3, q3⟩ := seq_some q1
  refine ((H n (Nat.le_refl n)).v (.expr) 228 rfl A w0 _ m1 m3 h2 p3).mono ?_
  rintro e v4 ⟨rfl, h4⟩
  go_wp2_with fail
  obtain ⟨m5, p5, q5⟩ := seq_some q3
  refine (expect_does E _ [41] rfl A w0 _ m3 m5 h4 p5).mono ?_
  rintro e v6 ⟨rfl, h6⟩
  go_wp2_with fail
  have g7 : At E A w0 s' _ := (by rw [seq_nil q5]; exact h6)
  first | go_end0 | refine bodyPost_ret (results_none rfl _ _ _) rfl ?_
  exact ⟨rfl, g7⟩

set_option maxRecDepth 100000 in
set_option maxHeartbeats 2000000 in
theorem step134 (E : Env) (n : Nat) (H : ∀ m, m ≤ n → Specs E m) : Does E 303 #[P E] (run (n + 1) (.ifE)) := by
  intro A w0 w s s' h hr
  have hr : (seq [take, (run n) .expr, (run n) .block, onAcc [101, 108, 115, 101] (cond (atB [105, 102]) (node 37 ((run n) .ifE)) ((run n) .block)) addNone]) s = some s' := hr
  go_enter Tryz.func303, Tryz.ntmps303
  go_wp2_with fail
  obtain ⟨m1, p1, q1⟩ := seq_some hr
  refine (take_does E A w0 _ s m1 h p1).mono ?_
  rintro e v2 ⟨rfl, h2⟩
  go_wp2_with fail
  obtain ⟨m3, p3, q3⟩ := seq_some q1
  refine ((H n (Nat.le_refl n)).v (.expr) 228 rfl A w0 _ m1 m3 h2 p3).mono ?_
  rintro e v4 ⟨rfl, h4⟩
  go_wp2_with fail
  obtain ⟨m5, p5, q5⟩ := seq_some q3
  refine ((H n (Nat.le_refl n)).v (.block) 219 rfl A w0 _ m3 m5 h4 p5).mono ?_
  rintro e v6 ⟨rfl, h6⟩
  go_wp2_with fail
  obtain ⟨m7, p7, q7⟩ := seq_some q5
  cases x8 : atB [101, 108, 115, 101] m5 with
  | true =>
    obtain ⟨t9, p9, q9⟩ := onAcc_true x8 p7
    refine (accept_any E _ [101, 108, 115, 101] rfl A w0 _ m5 t9 true x8 h6 p9).mono ?_
    rintro e v10 ⟨rfl, h10⟩
    go_wp2_with fail
    cases x11 : atB [105, 102] t9 with
    | true =>
      have q12 := cond_true q9 (by first | exact x11 | (show _ = _; simp [x11]))
      refine (at_any E _ [105, 102] rfl A w0 _ t9 true x11 h10).mono ?_
      rintro e v13 ⟨rfl, h13⟩
      go_wp2_with fail
      refine (node_any E 37 (by unfold I64; omega) _ _ A w0 _ t9 m7 (((H n (Nat.le_refl n)).v (.ifE) 303 rfl).clo (enters_of Tryz.func303 (by kernel_rfl) rfl) A _) h13 q12).mono ?_
      rintro e v14 ⟨rfl, h14⟩
      go_wp2_with fail
      have g15 : At E A w0 s' _ := (by rw [seq_nil q7]; exact h14)
      first | go_end0 | refine bodyPost_ret (results_none rfl _ _ _) rfl ?_
      exact ⟨rfl, g15⟩
    | false =>
      refine (at_any E _ [105, 102] rfl A w0 _ t9 false x11 h10).mono ?_
      rintro e v16 ⟨rfl, h16⟩
      go_wp2_with fail
      have q17 := cond_false q9 (by first | exact x11 | (show _ = _; simp [x11]))
      refine ((H n (Nat.le_refl n)).v (.block) 219 rfl A w0 _ t9 m7 h16 q17).mono ?_
      rintro e v18 ⟨rfl, h18⟩
      go_wp2_with fail
      have g19 : At E A w0 s' _ := (by rw [seq_nil q7]; exact h18)
      first | go_end0 | refine bodyPost_ret (results_none rfl _ _ _) rfl ?_
      exact ⟨rfl, g19⟩
  | false =>
    have q9 := onAcc_false x8 p7
    refine (accept_any E _ [101, 108, 115, 101] rfl A w0 _ m5 m5 false x8 h6 rfl).mono ?_
    rintro e v20 ⟨rfl, h20⟩
    go_wp2_with fail
    refine (none_does E A w0 _ m5 m7 h20 q9).mono ?_
    rintro e v21 ⟨rfl, h21⟩
    go_wp2_with fail
    have g22 : At E A w0 s' _ := (by rw [seq_nil q7]; exact h21)
    first | go_end0 | refine bodyPost_ret (results_none rfl _ _ _) rfl ?_
    exact ⟨rfl, g22⟩

set_option maxRecDepth 100000 in
set_option maxHeartbeats 2000000 in
theorem step135 (E : Env) (n : Nat) (H : ∀ m, m ≤ n → Specs E m) : Does E 304 #[P E] (run (n + 1) (.matchE)) := by
  intro A w0 w s s' h hr
  have hr : (seq [take, (run n) .expr, expect [123], (run n) (.list [125] .arm)]) s = some s' := hr
  go_enter Tryz.func304, Tryz.ntmps304
  go_wp2_with fail
  obtain ⟨m1, p1, q1⟩ := seq_some hr
  refine (take_does E A w0 _ s m1 h p1).mono ?_
  rintro e v2 ⟨rfl, h2⟩
  go_wp2_with fail
  obtain ⟨m3, p3, q3⟩ := seq_some q1
  refine ((H n (Nat.le_refl n)).v (.expr) 228 rfl A w0 _ m1 m3 h2 p3).mono ?_
  rintro e v4 ⟨rfl, h4⟩
  go_wp2_with fail
  obtain ⟨m5, p5, q5⟩ := seq_some q3
  refine (expect_does E _ [123] rfl A w0 _ m3 m5 h4 p5).mono ?_
  rintro e v6 ⟨rfl, h6⟩
  go_wp2_with fail
  obtain ⟨m7, p7, q7⟩ := seq_some q5
  refine ((H n (Nat.le_refl n)).v (.list [125] .arm) 221 rfl A w0 _ m5 m7 h6 p7).mono ?_
  rintro e v8 ⟨rfl, h8⟩
  go_wp2_with fail
  have g9 : At E A w0 s' _ := (by rw [seq_nil q7]; exact h8)
  first | go_end0 | refine bodyPost_ret (results_none rfl _ _ _) rfl ?_
  exact ⟨rfl, g9⟩

set_option maxRecDepth 100000 in
set_option maxHeartbeats 2000000 in
theorem clo156 (E : Env) (n : Nat) (H : ∀ m, m ≤ n → Specs E m) : DoesC E 335 (seq [run n .pat, expect [61, 62], run n .expr]) := by
  intro A w0 w s s' bp hb h hr
  have c1 := hb.cell h
  have z1 := hb.lt h
  go_enter Tryz.func335, Tryz.ntmps335
  go_wp2_with fail
  obtain ⟨m2, p2, q2⟩ := seq_some hr
  refine ((H n (Nat.le_refl n)).v (.pat) 300 rfl A w0 _ s m2 h p2).mono ?_
  rintro e v3 ⟨rfl, h3⟩
  clear c1 z1
  have c4 := hb.cell h3
  have z4 := hb.lt h3
  go_wp2_with fail
  obtain ⟨m5, p5, q5⟩ := seq_some q2
  refine (expect_does E _ [61, 62] rfl A w0 _ m2 m5 h3 p5).mono ?_
  rintro e v6 ⟨rfl, h6⟩
  clear c4 z4
  have c7 := hb.cell h6
  have z7 := hb.lt h6
  go_wp2_with fail
  obtain ⟨m8, p8, q8⟩ := seq_some q5
  refine ((H n (Nat.le_refl n)).v (.expr) 228 rfl A w0 _ m5 m8 h6 p8).mono ?_
  rintro e v9 ⟨rfl, h9⟩
  clear c7 z7
  have c10 := hb.cell h9
  have z10 := hb.lt h9
  go_wp2_with fail
  have g11 : At E A w0 s' _ := (by rw [seq_nil q8]; exact h9)
  first | go_end0 | refine bodyPost_ret (results_none rfl _ _ _) rfl ?_
  exact ⟨rfl, g11⟩

set_option maxRecDepth 100000 in
set_option maxHeartbeats 2000000 in
theorem step152 (E : Env) (n : Nat) (H : ∀ m, m ≤ n → Specs E m) : Does E 327 #[P E] (run (n + 1) (.arm)) := by
  intro A w0 w s s' h hr
  have hr : (node 36 (seq [(run n) .pat, expect [61, 62], (run n) .expr])) s = some s' := hr
  obtain ⟨w1, A1, hw1, h0, hb, hlt, hback⟩ := box_enter h
  go_enter Tryz.func327, Tryz.ntmps327
  go_upto_region 1 with fail
  rw [← hw1]
  clear hw1
  have c1 := hb.cell h0
  have z1 := hb.lt h0
  go_wp2_with fail
  refine (node_any E 36 (by unfold I64; omega) _ _ A1 w1 _ s s' ((clo156 E n H).clo (enters_of Tryz.func335 (by kernel_rfl) rfl) hb h0 _ (fun _ _ _ => rfl)) h0 hr).mono ?_
  rintro e v2 ⟨rfl, h2⟩
  clear c1 z1
  have c3 := hb.cell h2
  have z3 := hb.lt h2
  go_wp2_with fail
  first | go_end0 | refine bodyPost_ret (results_none rfl _ _ _) rfl ?_
  exact ⟨rfl, hback _ _ h2⟩

set_option maxRecDepth 100000 in
set_option maxHeartbeats 2000000 in
theorem step136 (E : Env) (n : Nat) (H : ∀ m, m ≤ n → Specs E m) : Does E 305 #[P E] (run (n + 1) (.structLit)) := by
  intro A w0 w s s' h hr
  have hr : (seq [take, (run n) (.path .seg), expect [123], (run n) (.list [125] .finit)]) s = some s' := hr
  go_enter Tryz.func305, Tryz.ntmps305
  go_wp2_with fail
  obtain ⟨m1, p1, q1⟩ := seq_some hr
  refine (take_does E A w0 _ s m1 h p1).mono ?_
  rintro e v2 ⟨rfl, h2⟩
  go_wp2_with fail
  obtain ⟨m3, p3, q3⟩ := seq_some q1
  refine ((H n (Nat.le_refl n)).v (.path .seg) 257 rfl A w0 _ m1 m3 h2 p3).mono ?_
  rintro e v4 ⟨rfl, h4⟩
  go_wp2_with fail
  obtain ⟨m5, p5, q5⟩ := seq_some q3
  refine (expect_does E _ [123] rfl A w0 _ m3 m5 h4 p5).mono ?_
  rintro e v6 ⟨rfl, h6⟩
  go_wp2_with fail
  obtain ⟨m7, p7, q7⟩ := seq_some q5
  refine ((H n (Nat.le_refl n)).v (.list [125] .finit) 221 rfl A w0 _ m5 m7 h6 p7).mono ?_
  rintro e v8 ⟨rfl, h8⟩
  go_wp2_with fail
  have g9 : At E A w0 s' _ := (by rw [seq_nil q7]; exact h8)
  first | go_end0 | refine bodyPost_ret (results_none rfl _ _ _) rfl ?_
  exact ⟨rfl, g9⟩

set_option maxRecDepth 100000 in
set_option maxHeartbeats 2000000 in
theorem clo157 (E : Env) (n : Nat) (H : ∀ m, m ≤ n → Specs E m) : DoesC E 336 (seq [expName, expect [58], run n .expr]) := by
  intro A w0 w s s' bp hb h hr
  have c1 := hb.cell h
  have z1 := hb.lt h
  go_enter Tryz.func336, Tryz.ntmps336
  go_wp2_with fail
  obtain ⟨m2, p2, q2⟩ := seq_some hr
  refine (expName_does E A w0 _ s m2 h p2).mono ?_
  rintro e v3 ⟨rfl, h3⟩
  clear c1 z1
  have c4 := hb.cell h3
  have z4 := hb.lt h3
  go_wp2_with fail
  obtain ⟨m5, p5, q5⟩ := seq_some q2
  refine (expect_does E _ [58] rfl A w0 _ m2 m5 h3 p5).mono ?_
  rintro e v6 ⟨rfl, h6⟩
  clear c4 z4
  have c7 := hb.cell h6
  have z7 := hb.lt h6
  go_wp2_with fail
  obtain ⟨m8, p8, q8⟩ := seq_some q5
  refine ((H n (Nat.le_refl n)).v (.expr) 228 rfl A w0 _ m5 m8 h6 p8).mono ?_
  rintro e v9 ⟨rfl, h9⟩
  clear c7 z7
  have c10 := hb.cell h9
  have z10 := hb.lt h9
  go_wp2_with fail
  have g11 : At E A w0 s' _ := (by rw [seq_nil q8]; exact h9)
  first | go_end0 | refine bodyPost_ret (results_none rfl _ _ _) rfl ?_
  exact ⟨rfl, g11⟩

set_option maxRecDepth 100000 in
set_option maxHeartbeats 2000000 in
theorem step153 (E : Env) (n : Nat) (H : ∀ m, m ≤ n → Specs E m) : Does E 328 #[P E] (run (n + 1) (.finit)) := by
  intro A w0 w s s' h hr
  have hr : (node 34 (seq [expName, expect [58], (run n) .expr])) s = some s' := hr
  obtain ⟨w1, A1, hw1, h0, hb, hlt, hback⟩ := box_enter h
  go_enter Tryz.func328, Tryz.ntmps328
  go_upto_region 1 with fail
  rw [← hw1]
  clear hw1
  have c1 := hb.cell h0
  have z1 := hb.lt h0
  go_wp2_with fail
  refine (node_any E 34 (by unfold I64; omega) _ _ A1 w1 _ s s' ((clo157 E n H).clo (enters_of Tryz.func336 (by kernel_rfl) rfl) hb h0 _ (fun _ _ _ => rfl)) h0 hr).mono ?_
  rintro e v2 ⟨rfl, h2⟩
  clear c1 z1
  have c3 := hb.cell h2
  have z3 := hb.lt h2
  go_wp2_with fail
  first | go_end0 | refine bodyPost_ret (results_none rfl _ _ _) rfl ?_
  exact ⟨rfl, hback _ _ h2⟩

set_option maxRecDepth 100000 in
set_option maxHeartbeats 2000000 in
theorem step137 (E : Env) (n : Nat) (H : ∀ m, m ≤ n → Specs E m) : Does E 306 #[P E] (run (n + 1) (.lambda)) := by
  intro A w0 w s s' h hr
  have hr : (seq [onAcc [124, 124] (add (leaf 12)) (seq [take, (run n) (.params [124])]), (run n) .expr]) s = some s' := hr
  go_enter Tryz.func306, Tryz.ntmps306
  go_wp2_with fail
  obtain ⟨m1, p1, q1⟩ := seq_some hr
  cases x2 : atB [124, 124] s with
  | true =>
    obtain ⟨t3, p3, q3⟩ := onAcc_true x2 p1
    refine (accept_any E _ [124, 124] rfl A w0 _ s t3 true x2 h p3).mono ?_
    rintro e v4 ⟨rfl, h4⟩
    go_wp2_with fail
    refine (add_any E (leaf 12) none 0 0 A w0 _ t3 m1 (leaf_ok _ (by unfold I64; omega)) (Kids.nil _ _ _ _) h4 q3).mono ?_
    rintro e v5 ⟨rfl, h5⟩
    go_wp2_with fail
    obtain ⟨m6, p6, q6⟩ := seq_some q1
    refine ((H n (Nat.le_refl n)).v (.expr) 228 rfl A w0 _ m1 m6 h5 p6).mono ?_
    rintro e v7 ⟨rfl, h7⟩
    go_wp2_with fail
    have g8 : At E A w0 s' _ := (by rw [seq_nil q6]; exact h7)
    first | go_end0 | refine bodyPost_ret (results_none rfl _ _ _) rfl ?_
    exact ⟨rfl, g8⟩
  | false =>
    have q3 := onAcc_false x2 p1
    refine (accept_any E _ [124, 124] rfl A w0 _ s s false x2 h rfl).mono ?_
    rintro e v9 ⟨rfl, h9⟩
    go_wp2_with fail
    obtain ⟨m10, p10, q10⟩ := seq_some q3
    refine (take_does E A w0 _ s m10 h9 p10).mono ?_
    rintro e v11 ⟨rfl, h11⟩
    go_wp2_with fail
    obtain ⟨m12, p12, q12⟩ := seq_some q10
    refine ((H n (Nat.le_refl n)).v (.params [124]) 229 rfl A w0 _ m10 m12 h11 p12).mono ?_
    rintro e v13 ⟨rfl, h13⟩
    go_wp2_with fail
    have g14 : At E A w0 m1 _ := (by rw [seq_nil q12]; exact h13)
    obtain ⟨m15, p15, q15⟩ := seq_some q1
    refine ((H n (Nat.le_refl n)).v (.expr) 228 rfl A w0 _ m1 m15 g14 p15).mono ?_
    rintro e v16 ⟨rfl, h16⟩
    go_wp2_with fail
    have g17 : At E A w0 s' _ := (by rw [seq_nil q15]; exact h16)
    first | go_end0 | refine bodyPost_ret (results_none rfl _ _ _) rfl ?_
    exact ⟨rfl, g17⟩
end Go.Proofs.YtcpojagfnpajeaaGreatDoorR.Ps

namespace Go.Proofs.YtcpojagfnpajeaaGreatDoorR.Ps
open Go.RowKit Go.Shelf

set_option maxRecDepth 100000 in
set_option maxHeartbeats 2000000 in
theorem clo127 (E : Env) (n : Nat) (H : ∀ m, m ≤ n → Specs E m) : DoesC E 287 (seq [expName, run n (.optTyp [58])]) := by
  intro A w0 w s s' bp hb h hr
  have c1 := hb.cell h
  have z1 := hb.lt h
  go_enter Tryz.func287, Tryz.ntmps287
  go_wp2_with fail
  obtain ⟨m2, p2, q2⟩ := seq_some hr
  refine (expName_does E A w0 _ s m2 h p2).mono ?_
  rintro e v3 ⟨rfl, h3⟩
  clear c1 z1
  have c4 := hb.cell h3
  have z4 := hb.lt h3
  go_wp2_with fail
  obtain ⟨m5, p5, q5⟩ := seq_some q2
  refine ((H n (Nat.le_refl n)).v (.optTyp [58]) 243 rfl A w0 _ m2 m5 h3 p5).mono ?_
  rintro e v6 ⟨rfl, h6⟩
  clear c4 z4
  have c7 := hb.cell h6
  have z7 := hb.lt h6
  go_wp2_with fail
  have g8 : At E A w0 s' _ := (by rw [seq_nil q5]; exact h6)
  first | go_end0 | refine bodyPost_ret (results_none rfl _ _ _) rfl ?_
  exact ⟨rfl, g8⟩

set_option maxRecDepth 100000 in
set_option maxHeartbeats 2000000 in
theorem step108 (E : Env) (n : Nat) (H : ∀ m, m ≤ n → Specs E m) : Does E 264 #[P E] (run (n + 1) (.param)) := by
  intro A w0 w s s' h hr
  have hr : (node 13 (seq [expName, (run n) (.optTyp [58])])) s = some s' := hr
  obtain ⟨w1, A1, hw1, h0, hb, hlt, hback⟩ := box_enter h
  go_enter Tryz.func264, Tryz.ntmps264
  go_upto_region 1 with fail
  rw [← hw1]
  clear hw1
  have c1 := hb.cell h0
  have z1 := hb.lt h0
  go_wp2_with fail
  refine (node_any E 13 (by unfold I64; omega) _ _ A1 w1 _ s s' ((clo127 E n H).clo (enters_of Tryz.func287 (by kernel_rfl) rfl) hb h0 _ (fun _ _ _ => rfl)) h0 hr).mono ?_
  rintro e v2 ⟨rfl, h2⟩
  clear c1 z1
  have c3 := hb.cell h2
  have z3 := hb.lt h2
  go_wp2_with fail
  first | go_end0 | refine bodyPost_ret (results_none rfl _ _ _) rfl ?_
  exact ⟨rfl, hback _ _ h2⟩

set_option maxRecDepth 100000 in
set_option maxHeartbeats 2000000 in
theorem step55 (E : Env) (n : Nat) (H : ∀ m, m ≤ n → Specs E m) : Does E 156 #[P E] (run (n + 1) (.funcI)) := by
  intro A w0 w s s' h hr
  have hr : (seq [(run n) .sigN, (run n) .block]) s = some s' := hr
  go_enter Tryz.func156, Tryz.ntmps156
  go_wp2_with fail
  obtain ⟨m1, p1, q1⟩ := seq_some hr
  refine ((H n (Nat.le_refl n)).v (.sigN) 218 rfl A w0 _ s m1 h p1).mono ?_
  rintro e v2 ⟨rfl, h2⟩
  go_wp2_with fail
  obtain ⟨m3, p3, q3⟩ := seq_some q1
  refine ((H n (Nat.le_refl n)).v (.block) 219 rfl A w0 _ m1 m3 h2 p3).mono ?_
  rintro e v4 ⟨rfl, h4⟩
  go_wp2_with fail
  have g5 : At E A w0 s' _ := (by rw [seq_nil q3]; exact h4)
  first | go_end0 | refine bodyPost_ret (results_none rfl _ _ _) rfl ?_
  exact ⟨rfl, g5⟩

set_option maxRecDepth 100000 in
set_option maxHeartbeats 2000000 in
theorem step72 (E : Env) (n : Nat) (H : ∀ m, m ≤ n → Specs E m) : Does E 218 #[P E] (run (n + 1) (.sigN)) := by
  intro A w0 w s s' h hr
  have hr : (seq [expName, (run n) .tparams, expect [40], (run n) (.params [41]), (run n) (.optTyp [45, 62])]) s = some s' := hr
  go_enter Tryz.func218, Tryz.ntmps218
  go_wp2_with fail
  obtain ⟨m1, p1, q1⟩ := seq_some hr
  refine (expName_does E A w0 _ s m1 h p1).mono ?_
  rintro e v2 ⟨rfl, h2⟩
  go_wp2_with fail
  obtain ⟨m3, p3, q3⟩ := seq_some q1
  refine ((H n (Nat.le_refl n)).v (.tparams) 220 rfl A w0 _ m1 m3 h2 p3).mono ?_
  rintro e v4 ⟨rfl, h4⟩
  go_wp2_with fail
  obtain ⟨m5, p5, q5⟩ := seq_some q3
  refine (expect_does E _ [40] rfl A w0 _ m3 m5 h4 p5).mono ?_
  rintro e v6 ⟨rfl, h6⟩
  go_wp2_with fail
  obtain ⟨m7, p7, q7⟩ := seq_some q5
  refine ((H n (Nat.le_refl n)).v (.params [41]) 229 rfl A w0 _ m5 m7 h6 p7).mono ?_
  rintro e v8 ⟨rfl, h8⟩
  go_wp2_with fail
  obtain ⟨m9, p9, q9⟩ := seq_some q7
  refine ((H n (Nat.le_refl n)).v (.optTyp [45, 62]) 243 rfl A w0 _ m7 m9 h8 p9).mono ?_
  rintro e v10 ⟨rfl, h10⟩
  go_wp2_with fail
  have g11 : At E A w0 s' _ := (by rw [seq_nil q9]; exact h10)
  first | go_end0 | refine bodyPost_ret (results_none rfl _ _ _) rfl ?_
  exact ⟨rfl, g11⟩

set_option maxRecDepth 100000 in
set_option maxHeartbeats 2000000 in
theorem step56 (E : Env) (n : Nat) (H : ∀ m, m ≤ n → Specs E m) : Does E 157 #[P E] (run (n + 1) (.structI)) := by
  intro A w0 w s s' h hr
  have hr : (seq [expName, (run n) .tparams, expect [123], (run n) (.list [125] .field)]) s = some s' := hr
  go_enter Tryz.func157, Tryz.ntmps157
  go_wp2_with fail
  obtain ⟨m1, p1, q1⟩ := seq_some hr
  refine (expName_does E A w0 _ s m1 h p1).mono ?_
  rintro e v2 ⟨rfl, h2⟩
  go_wp2_with fail
  obtain ⟨m3, p3, q3⟩ := seq_some q1
  refine ((H n (Nat.le_refl n)).v (.tparams) 220 rfl A w0 _ m1 m3 h2 p3).mono ?_
  rintro e v4 ⟨rfl, h4⟩
  go_wp2_with fail
  obtain ⟨m5, p5, q5⟩ := seq_some q3
  refine (expect_does E _ [123] rfl A w0 _ m3 m5 h4 p5).mono ?_
  rintro e v6 ⟨rfl, h6⟩
  go_wp2_with fail
  obtain ⟨m7, p7, q7⟩ := seq_some q5
  refine ((H n (Nat.le_refl n)).v (.list [125] .field) 221 rfl A w0 _ m5 m7 h6 p7).mono ?_
  rintro e v8 ⟨rfl, h8⟩
  go_wp2_with fail
  have g9 : At E A w0 s' _ := (by rw [seq_nil q7]; exact h8)
  first | go_end0 | refine bodyPost_ret (results_none rfl _ _ _) rfl ?_
  exact ⟨rfl, g9⟩

set_option maxRecDepth 100000 in
set_option maxHeartbeats 2000000 in
theorem clo94 (E : Env) (n : Nat) (H : ∀ m, m ≤ n → Specs E m) : DoesC E 250 (seq [expName, expect [58], run n .typ]) := by
  intro A w0 w s s' bp hb h hr
  have c1 := hb.cell h
  have z1 := hb.lt h
  go_enter Tryz.func250, Tryz.ntmps250
  go_wp2_with fail
  obtain ⟨m2, p2, q2⟩ := seq_some hr
  refine (expName_does E A w0 _ s m2 h p2).mono ?_
  rintro e v3 ⟨rfl, h3⟩
  clear c1 z1
  have c4 := hb.cell h3
  have z4 := hb.lt h3
  go_wp2_with fail
  obtain ⟨m5, p5, q5⟩ := seq_some q2
  refine (expect_does E _ [58] rfl A w0 _ m2 m5 h3 p5).mono ?_
  rintro e v6 ⟨rfl, h6⟩
  clear c4 z4
  have c7 := hb.cell h6
  have z7 := hb.lt h6
  go_wp2_with fail
  obtain ⟨m8, p8, q8⟩ := seq_some q5
  refine ((H n (Nat.le_refl n)).v (.typ) 226 rfl A w0 _ m5 m8 h6 p8).mono ?_
  rintro e v9 ⟨rfl, h9⟩
  clear c7 z7
  have c10 := hb.cell h9
  have z10 := hb.lt h9
  go_wp2_with fail
  have g11 : At E A w0 s' _ := (by rw [seq_nil q8]; exact h9)
  first | go_end0 | refine bodyPost_ret (results_none rfl _ _ _) rfl ?_
  exact ⟨rfl, g11⟩

set_option maxRecDepth 100000 in
set_option maxHeartbeats 2000000 in
theorem step77 (E : Env) (n : Nat) (H : ∀ m, m ≤ n → Specs E m) : Does E 223 #[P E] (run (n + 1) (.field)) := by
  intro A w0 w s s' h hr
  have hr : (node 14 (seq [expName, expect [58], (run n) .typ])) s = some s' := hr
  obtain ⟨w1, A1, hw1, h0, hb, hlt, hback⟩ := box_enter h
  go_enter Tryz.func223, Tryz.ntmps223
  go_upto_region 1 with fail
  rw [← hw1]
  clear hw1
  have c1 := hb.cell h0
  have z1 := hb.lt h0
  go_wp2_with fail
  refine (node_any E 14 (by unfold I64; omega) _ _ A1 w1 _ s s' ((clo94 E n H).clo (enters_of Tryz.func250 (by kernel_rfl) rfl) hb h0 _ (fun _ _ _ => rfl)) h0 hr).mono ?_
  rintro e v2 ⟨rfl, h2⟩
  clear c1 z1
  have c3 := hb.cell h2
  have z3 := hb.lt h2
  go_wp2_with fail
  first | go_end0 | refine bodyPost_ret (results_none rfl _ _ _) rfl ?_
  exact ⟨rfl, hback _ _ h2⟩

set_option maxRecDepth 100000 in
set_option maxHeartbeats 2000000 in
theorem step57 (E : Env) (n : Nat) (H : ∀ m, m ≤ n → Specs E m) : Does E 158 #[P E] (run (n + 1) (.enumI)) := by
  intro A w0 w s s' h hr
  have hr : (seq [expName, (run n) .tparams, expect [123], (run n) (.list [125] .variant)]) s = some s' := hr
  go_enter Tryz.func158, Tryz.ntmps158
  go_wp2_with fail
  obtain ⟨m1, p1, q1⟩ := seq_some hr
  refine (expName_does E A w0 _ s m1 h p1).mono ?_
  rintro e v2 ⟨rfl, h2⟩
  go_wp2_with fail
  obtain ⟨m3, p3, q3⟩ := seq_some q1
  refine ((H n (Nat.le_refl n)).v (.tparams) 220 rfl A w0 _ m1 m3 h2 p3).mono ?_
  rintro e v4 ⟨rfl, h4⟩
  go_wp2_with fail
  obtain ⟨m5, p5, q5⟩ := seq_some q3
  refine (expect_does E _ [123] rfl A w0 _ m3 m5 h4 p5).mono ?_
  rintro e v6 ⟨rfl, h6⟩
  go_wp2_with fail
  obtain ⟨m7, p7, q7⟩ := seq_some q5
  refine ((H n (Nat.le_refl n)).v (.list [125] .variant) 221 rfl A w0 _ m5 m7 h6 p7).mono ?_
  rintro e v8 ⟨rfl, h8⟩
  go_wp2_with fail
  have g9 : At E A w0 s' _ := (by rw [seq_nil q7]; exact h8)
  first | go_end0 | refine bodyPost_ret (results_none rfl _ _ _) rfl ?_
  exact ⟨rfl, g9⟩

set_option maxRecDepth 100000 in
set_option maxHeartbeats 2000000 in
theorem clo95 (E : Env) (n : Nat) (H : ∀ m, m ≤ n → Specs E m) : DoesC E 251 (seq [expName, onAcc [40] (run n (.typs [41])) some]) := by
  intro A w0 w s s' bp hb h hr
  have c1 := hb.cell h
  have z1 := hb.lt h
  go_enter Tryz.func251, Tryz.ntmps251
  go_wp2_with fail
  obtain ⟨m2, p2, q2⟩ := seq_some hr
  refine (expName_does E A w0 _ s m2 h p2).mono ?_
  rintro e v3 ⟨rfl, h3⟩
  clear c1 z1
  have c4 := hb.cell h3
  have z4 := hb.lt h3
  go_wp2_with fail
  obtain ⟨m5, p5, q5⟩ := seq_some q2
  cases x6 : atB [40] m2 with
  | true =>
    obtain ⟨t7, p7, q7⟩ := onAcc_true x6 p5
    refine (accept_any E _ [40] rfl A w0 _ m2 t7 true x6 h3 p7).mono ?_
    rintro e v8 ⟨rfl, h8⟩
    clear c4 z4
    have c9 := hb.cell h8
    have z9 := hb.lt h8
    go_wp2_with fail
    refine ((H n (Nat.le_refl n)).v (.typs [41]) 252 rfl A w0 _ t7 m5 h8 q7).mono ?_
    rintro e v10 ⟨rfl, h10⟩
    clear c9 z9
    have c11 := hb.cell h10
    have z11 := hb.lt h10
    go_wp2_with fail
    have g12 : At E A w0 s' _ := (by rw [seq_nil q5]; exact h10)
    first | go_end0 | refine bodyPost_ret (results_none rfl _ _ _) rfl ?_
    exact ⟨rfl, g12⟩
  | false =>
    have q7 := onAcc_false x6 p5
    refine (accept_any E _ [40] rfl A w0 _ m2 m2 false x6 h3 rfl).mono ?_
    rintro e v13 ⟨rfl, h13⟩
    clear c4 z4
    have c14 := hb.cell h13
    have z14 := hb.lt h13
    go_wp2_with fail
    have g15 : At E A w0 m5 _ := (by rw [some_eq q7]; exact h13)
    have g16 : At E A w0 s' _ := (by rw [seq_nil q5]; exact g15)
    first | go_end0 | refine bodyPost_ret (results_none rfl _ _ _) rfl ?_
    exact ⟨rfl, g16⟩

set_option maxRecDepth 100000 in
set_option maxHeartbeats 2000000 in
theorem step78 (E : Env) (n : Nat) (H : ∀ m, m ≤ n → Specs E m) : Does E 224 #[P E] (run (n + 1) (.variant)) := by
  intro A w0 w s s' h hr
  have hr : (node 15 (seq [expName, onAcc [40] ((run n) (.typs [41])) some])) s = some s' := hr
  obtain ⟨w1, A1, hw1, h0, hb, hlt, hback⟩ := box_enter h
  go_enter Tryz.func224, Tryz.ntmps224
  go_upto_region 1 with fail
  rw [← hw1]
  clear hw1
  have c1 := hb.cell h0
  have z1 := hb.lt h0
  go_wp2_with fail
  refine (node_any E 15 (by unfold I64; omega) _ _ A1 w1 _ s s' ((clo95 E n H).clo (enters_of Tryz.func251 (by kernel_rfl) rfl) hb h0 _ (fun _ _ _ => rfl)) h0 hr).mono ?_
  rintro e v2 ⟨rfl, h2⟩
  clear c1 z1
  have c3 := hb.cell h2
  have z3 := hb.lt h2
  go_wp2_with fail
  first | go_end0 | refine bodyPost_ret (results_none rfl _ _ _) rfl ?_
  exact ⟨rfl, hback _ _ h2⟩

set_option maxRecDepth 100000 in
set_option maxHeartbeats 2000000 in
theorem step58 (E : Env) (n : Nat) (H : ∀ m, m ≤ n → Specs E m) : Does E 159 #[P E] (run (n + 1) (.traitI)) := by
  intro A w0 w s s' h hr
  have hr : (seq [expName, (run n) .members]) s = some s' := hr
  go_enter Tryz.func159, Tryz.ntmps159
  go_wp2_with fail
  obtain ⟨m1, p1, q1⟩ := seq_some hr
  refine (expName_does E A w0 _ s m1 h p1).mono ?_
  rintro e v2 ⟨rfl, h2⟩
  go_wp2_with fail
  obtain ⟨m3, p3, q3⟩ := seq_some q1
  refine ((H n (Nat.le_refl n)).v (.members) 225 rfl A w0 _ m1 m3 h2 p3).mono ?_
  rintro e v4 ⟨rfl, h4⟩
  go_wp2_with fail
  have g5 : At E A w0 s' _ := (by rw [seq_nil q3]; exact h4)
  first | go_end0 | refine bodyPost_ret (results_none rfl _ _ _) rfl ?_
  exact ⟨rfl, g5⟩

set_option maxRecDepth 100000 in
set_option maxHeartbeats 2000000 in
theorem step97 (E : Env) (n : Nat) (H : ∀ m, m ≤ n → Specs E m) : Does E 253 #[P E] (run (n + 1) (.assoc)) := by
  intro A w0 w s s' h hr
  have hr : (seq [take, expName, (run n) (.optTyp [61]), expect [59]]) s = some s' := hr
  go_enter Tryz.func253, Tryz.ntmps253
  go_wp2_with fail
  obtain ⟨m1, p1, q1⟩ := seq_some hr
  refine (take_does E A w0 _ s m1 h p1).mono ?_
  rintro e v2 ⟨rfl, h2⟩
  go_wp2_with fail
  obtain ⟨m3, p3, q3⟩ := seq_some q1
  refine (expName_does E A w0 _ m1 m3 h2 p3).mono ?_
  rintro e v4 ⟨rfl, h4⟩
  go_wp2_with fail
  obtain ⟨m5, p5, q5⟩ := seq_some q3
  refine ((H n (Nat.le_refl n)).v (.optTyp [61]) 243 rfl A w0 _ m3 m5 h4 p5).mono ?_
  rintro e v6 ⟨rfl, h6⟩
  go_wp2_with fail
  obtain ⟨m7, p7, q7⟩ := seq_some q5
  refine (expect_does E _ [59] rfl A w0 _ m5 m7 h6 p7).mono ?_
  rintro e v8 ⟨rfl, h8⟩
  go_wp2_with fail
  have g9 : At E A w0 s' _ := (by rw [seq_nil q7]; exact h8)
  first | go_end0 | refine bodyPost_ret (results_none rfl _ _ _) rfl ?_
  exact ⟨rfl, g9⟩

set_option maxRecDepth 100000 in
set_option maxHeartbeats 2000000 in
theorem step98 (E : Env) (n : Nat) (H : ∀ m, m ≤ n → Specs E m) : Does E 254 #[P E] (run (n + 1) (.method)) := by
  intro A w0 w s s' h hr
  have hr : (seq [take, (run n) .sigN, onAcc [59] addNone ((run n) .block)]) s = some s' := hr
  go_enter Tryz.func254, Tryz.ntmps254
  go_wp2_with fail
  obtain ⟨m1, p1, q1⟩ := seq_some hr
  refine (take_does E A w0 _ s m1 h p1).mono ?_
  rintro e v2 ⟨rfl, h2⟩
  go_wp2_with fail
  obtain ⟨m3, p3, q3⟩ := seq_some q1
  refine ((H n (Nat.le_refl n)).v (.sigN) 218 rfl A w0 _ m1 m3 h2 p3).mono ?_
  rintro e v4 ⟨rfl, h4⟩
  go_wp2_with fail
  obtain ⟨m5, p5, q5⟩ := seq_some q3
  cases x6 : atB [59] m3 with
  | true =>
    obtain ⟨t7, p7, q7⟩ := onAcc_true x6 p5
    refine (accept_any E _ [59] rfl A w0 _ m3 t7 true x6 h4 p7).mono ?_
    rintro e v8 ⟨rfl, h8⟩
    go_wp2_with fail
    refine (none_does E A w0 _ t7 m5 h8 q7).mono ?_
    rintro e v9 ⟨rfl, h9⟩
    go_wp2_with fail
    have g10 : At E A w0 s' _ := (by rw [seq_nil q5]; exact h9)
    first | go_end0 | refine bodyPost_ret (results_none rfl _ _ _) rfl ?_
    exact ⟨rfl, g10⟩
  | false =>
    have q7 := onAcc_false x6 p5
    refine (accept_any E _ [59] rfl A w0 _ m3 m3 false x6 h4 rfl).mono ?_
    rintro e v11 ⟨rfl, h11⟩
    go_wp2_with fail
    refine ((H n (Nat.le_refl n)).v (.block) 219 rfl A w0 _ m3 m5 h11 q7).mono ?_
    rintro e v12 ⟨rfl, h12⟩
    go_wp2_with fail
    have g13 : At E A w0 s' _ := (by rw [seq_nil q5]; exact h12)
    first | go_end0 | refine bodyPost_ret (results_none rfl _ _ _) rfl ?_
    exact ⟨rfl, g13⟩

set_option maxRecDepth 100000 in
set_option maxHeartbeats 2000000 in
theorem step60 (E : Env) (n : Nat) (H : ∀ m, m ≤ n → Specs E m) : Does E 161 #[P E] (run (n + 1) (.constI)) := by
  intro A w0 w s s' h hr
  have hr : (seq [expName, expect [58], (run n) .typ, expect [61], (run n) .expr, expect [59]]) s = some s' := hr
  go_enter Tryz.func161, Tryz.ntmps161
  go_wp2_with fail
  obtain ⟨m1, p1, q1⟩ := seq_some hr
  refine (expName_does E A w0 _ s m1 h p1).mono ?_
  rintro e v2 ⟨rfl, h2⟩
  go_wp2_with fail
  obtain ⟨m3, p3, q3⟩ := seq_some q1
  refine (expect_does E _ [58] rfl A w0 _ m1 m3 h2 p3).mono ?_
  rintro e v4 ⟨rfl, h4⟩
  go_wp2_with fail
  obtain ⟨m5, p5, q5⟩ := seq_some q3
  refine ((H n (Nat.le_refl n)).v (.typ) 226 rfl A w0 _ m3 m5 h4 p5).mono ?_
  rintro e v6 ⟨rfl, h6⟩
  go_wp2_with fail
  obtain ⟨m7, p7, q7⟩ := seq_some q5
  refine (expect_does E _ [61] rfl A w0 _ m5 m7 h6 p7).mono ?_
  rintro e v8 ⟨rfl, h8⟩
  go_wp2_with fail
  obtain ⟨m9, p9, q9⟩ := seq_some q7
  refine ((H n (Nat.le_refl n)).v (.expr) 228 rfl A w0 _ m7 m9 h8 p9).mono ?_
  rintro e v10 ⟨rfl, h10⟩
  go_wp2_with fail
  obtain ⟨m11, p11, q11⟩ := seq_some q9
  refine (expect_does E _ [59] rfl A w0 _ m9 m11 h10 p11).mono ?_
  rintro e v12 ⟨rfl, h12⟩
  go_wp2_with fail
  have g13 : At E A w0 s' _ := (by rw [seq_nil q11]; exact h12)
  first | go_end0 | refine bodyPost_ret (results_none rfl _ _ _) rfl ?_
  exact ⟨rfl, g13⟩

set_option maxRecDepth 100000 in
set_option maxHeartbeats 2000000 in
theorem step61 (E : Env) (n : Nat) (H : ∀ m, m ≤ n → Specs E m) : Does E 162 #[P E] (run (n + 1) (.macroI)) := by
  intro A w0 w s s' h hr
  have hr : (seq [expName, expect [40], (run n) (.params [41]), expect [61], (run n) .expr, expect [59]]) s = some s' := hr
  go_enter Tryz.func162, Tryz.ntmps162
  go_wp2_with fail
  obtain ⟨m1, p1, q1⟩ := seq_some hr
  refine (expName_does E A w0 _ s m1 h p1).mono ?_
  rintro e v2 ⟨rfl, h2⟩
  go_wp2_with fail
  obtain ⟨m3, p3, q3⟩ := seq_some q1
  refine (expect_does E _ [40] rfl A w0 _ m1 m3 h2 p3).mono ?_
  rintro e v4 ⟨rfl, h4⟩
  go_wp2_with fail
  obtain ⟨m5, p5, q5⟩ := seq_some q3
  refine ((H n (Nat.le_refl n)).v (.params [41]) 229 rfl A w0 _ m3 m5 h4 p5).mono ?_
  rintro e v6 ⟨rfl, h6⟩
  go_wp2_with fail
  obtain ⟨m7, p7, q7⟩ := seq_some q5
  refine (expect_does E _ [61] rfl A w0 _ m5 m7 h6 p7).mono ?_
  rintro e v8 ⟨rfl, h8⟩
  go_wp2_with fail
  obtain ⟨m9, p9, q9⟩ := seq_some q7
  refine ((H n (Nat.le_refl n)).v (.expr) 228 rfl A w0 _ m7 m9 h8 p9).mono ?_
  rintro e v10 ⟨rfl, h10⟩
  go_wp2_with fail
  obtain ⟨m11, p11, q11⟩ := seq_some q9
  refine (expect_does E _ [59] rfl A w0 _ m9 m11 h10 p11).mono ?_
  rintro e v12 ⟨rfl, h12⟩
  go_wp2_with fail
  have g13 : At E A w0 s' _ := (by rw [seq_nil q11]; exact h12)
  first | go_end0 | refine bodyPost_ret (results_none rfl _ _ _) rfl ?_
  exact ⟨rfl, g13⟩
end Go.Proofs.YtcpojagfnpajeaaGreatDoorR.Ps

namespace Go.Proofs.YtcpojagfnpajeaaGreatDoorR.Ps
open Go.RowKit Go.Shelf

set_option maxRecDepth 100000 in
set_option maxHeartbeats 2000000 in
theorem step87 (E : Env) (n : Nat) (H : ∀ m, m ≤ n → Specs E m) (x : List UInt8) : Does E 243 #[P E, .string (Lx.bs x)] (run (n + 1) (.optTyp x)) := by
  intro A w0 w s s' h hr
  have hr : (onAcc x ((run n) .typ) addNone) s = some s' := hr
  go_enter Tryz.func243, Tryz.ntmps243
  go_wp2_with fail
  cases x1 : atB x s with
  | true =>
    obtain ⟨t2, p2, q2⟩ := onAcc_true x1 hr
    refine (accept_any E _ x rfl A w0 _ s t2 true x1 h p2).mono ?_
    rintro e v3 ⟨rfl, h3⟩
    go_wp2_with fail
    refine ((H n (Nat.le_refl n)).v (.typ) 226 rfl A w0 _ t2 s' h3 q2).mono ?_
    rintro e v4 ⟨rfl, h4⟩
    go_wp2_with fail
    first | go_end0 | refine bodyPost_ret (results_none rfl _ _ _) rfl ?_
    exact ⟨rfl, h4⟩
  | false =>
    have q2 := onAcc_false x1 hr
    refine (accept_any E _ x rfl A w0 _ s s false x1 h rfl).mono ?_
    rintro e v5 ⟨rfl, h5⟩
    go_wp2_with fail
    refine (none_does E A w0 _ s s' h5 q2).mono ?_
    rintro e v6 ⟨rfl, h6⟩
    go_wp2_with fail
    first | go_end0 | refine bodyPost_ret (results_none rfl _ _ _) rfl ?_
    exact ⟨rfl, h6⟩

set_option maxRecDepth 100000 in
set_option maxHeartbeats 2000000 in
theorem step96 (E : Env) (n : Nat) (H : ∀ m, m ≤ n → Specs E m) (cl : List UInt8) : Does E 252 #[P E, .string (Lx.bs cl)] (run (n + 1) (.typs cl)) := by
  intro A w0 w s s' h hr
  have hr : ((run n) (.list cl .typ)) s = some s' := hr
  go_enter Tryz.func252, Tryz.ntmps252
  go_wp2_with fail
  refine ((H n (Nat.le_refl n)).v (.list cl .typ) 221 rfl A w0 _ s s' h hr).mono ?_
  rintro e v1 ⟨rfl, h1⟩
  go_wp2_with fail
  first | go_end0 | refine bodyPost_ret (results_none rfl _ _ _) rfl ?_
  exact ⟨rfl, h1⟩

set_option maxRecDepth 100000 in
set_option maxHeartbeats 2000000 in
theorem clo119 (E : Env) (n : Nat) (H : ∀ m, m ≤ n → Specs E m) : DoesC E 279 (seq [expName, onAcc [58] (seq [run n (.path .tseg), run n .bounds]) some]) := by
  intro A w0 w s s' bp hb h hr
  have c1 := hb.cell h
  have z1 := hb.lt h
  go_enter Tryz.func279, Tryz.ntmps279
  go_wp2_with fail
  obtain ⟨m2, p2, q2⟩ := seq_some hr
  refine (expName_does E A w0 _ s m2 h p2).mono ?_
  rintro e v3 ⟨rfl, h3⟩
  clear c1 z1
  have c4 := hb.cell h3
  have z4 := hb.lt h3
  go_wp2_with fail
  obtain ⟨m5, p5, q5⟩ := seq_some q2
  cases x6 : atB [58] m2 with
  | true =>
    obtain ⟨t7, p7, q7⟩ := onAcc_true x6 p5
    refine (accept_any E _ [58] rfl A w0 _ m2 t7 true x6 h3 p7).mono ?_
    rintro e v8 ⟨rfl, h8⟩
    clear c4 z4
    have c9 := hb.cell h8
    have z9 := hb.lt h8
    go_wp2_with fail
    obtain ⟨m10, p10, q10⟩ := seq_some q7
    refine ((H n (Nat.le_refl n)).v (.path .tseg) 257 rfl A w0 _ t7 m10 h8 p10).mono ?_
    rintro e v11 ⟨rfl, h11⟩
    clear c9 z9
    have c12 := hb.cell h11
    have z12 := hb.lt h11
    go_wp2_with fail
    obtain ⟨m13, p13, q13⟩ := seq_some q10
    go_loopg [] (n) (fun k wr => ∃ s1, Hid (k ≤ n ∧ run k (.bounds) s1 = some m13) ∧ Hid (At E A w0 s1 wr))
    case atStart => exact ⟨m10, ⟨Nat.le_refl _, p13⟩, h11⟩
    case round =>
      obtain ⟨a14, kq14, h14⟩ := hrel
      clear c12 z12
      have h14 := h14.out
      cases gk with
      | zero => exact absurd kq14.out.2 (by simp [run])
      | succ k =>
        have le14 : k ≤ n := by have := kq14.out.1; omega
        have r14 : (onAcc [43] (seq [(run k) (.path .tseg), (run k) .bounds]) some) a14 = some m13 := kq14.out.2
        have c15 := hb.cell h14
        have z15 := hb.lt h14
        go_wp2_with fail
        cases x16 : atB [43] a14 with
        | true =>
          obtain ⟨t17, p17, q17⟩ := onAcc_true x16 r14
          refine (accept_any E _ [43] rfl A w0 _ a14 t17 true x16 h14 p17).mono ?_
          rintro e v18 ⟨rfl, h18⟩
          clear c15 z15
          have c19 := hb.cell h18
          have z19 := hb.lt h18
          go_wp2_with fail
          obtain ⟨m20, p20, q20⟩ := seq_some q17
          refine ((H k le14).v (.path .tseg) 257 rfl A w0 _ t17 m20 h18 p20).mono ?_
          rintro e v21 ⟨rfl, h21⟩
          clear c19 z19
          have c22 := hb.cell h21
          have z22 := hb.lt h21
          go_wp2_with fail
          obtain ⟨m23, p23, q23⟩ := seq_some q20
          rw [← seq_nil q23] at p23
          go_roundg k
          case measure => exact Nat.lt_succ_self k
          case rel => exact ⟨m20, ⟨le14, p23⟩, h21⟩
        | false =>
          have q17 := onAcc_false x16 r14
          refine (accept_any E _ [43] rfl A w0 _ a14 a14 false x16 h14 rfl).mono ?_
          rintro e v24 ⟨rfl, h24⟩
          clear c15 z15
          have c25 := hb.cell h24
          have z25 := hb.lt h24
          go_wp2_with fail
          have g26 : At E A w0 m13 _ := (by rw [some_eq q17]; exact h24)
          have g27 : At E A w0 m5 _ := (by rw [seq_nil q13]; exact g26)
          have g28 : At E A w0 s' _ := (by rw [seq_nil q5]; exact g27)
          first | go_end0 | refine bodyPost_ret (results_none rfl _ _ _) rfl ?_
          exact ⟨rfl, g28⟩
  | false =>
    have q7 := onAcc_false x6 p5
    refine (accept_any E _ [58] rfl A w0 _ m2 m2 false x6 h3 rfl).mono ?_
    rintro e v29 ⟨rfl, h29⟩
    clear c4 z4
    have c30 := hb.cell h29
    have z30 := hb.lt h29
    go_wp2_with fail
    have g31 : At E A w0 m5 _ := (by rw [some_eq q7]; exact h29)
    have g32 : At E A w0 s' _ := (by rw [seq_nil q5]; exact g31)
    first | go_end0 | refine bodyPost_ret (results_none rfl _ _ _) rfl ?_
    exact ⟨rfl, g32⟩

set_option maxRecDepth 100000 in
set_option maxHeartbeats 2000000 in
theorem step92 (E : Env) (n : Nat) (H : ∀ m, m ≤ n → Specs E m) : Does E 248 #[P E] (run (n + 1) (.tparam)) := by
  intro A w0 w s s' h hr
  have hr : (node 11 (seq [expName, onAcc [58] (seq [(run n) (.path .tseg), (run n) .bounds]) some])) s = some s' := hr
  obtain ⟨w1, A1, hw1, h0, hb, hlt, hback⟩ := box_enter h
  go_enter Tryz.func248, Tryz.ntmps248
  go_upto_region 1 with fail
  rw [← hw1]
  clear hw1
  have c1 := hb.cell h0
  have z1 := hb.lt h0
  go_wp2_with fail
  refine (node_any E 11 (by unfold I64; omega) _ _ A1 w1 _ s s' ((clo119 E n H).clo (enters_of Tryz.func279 (by kernel_rfl) rfl) hb h0 _ (fun _ _ _ => rfl)) h0 hr).mono ?_
  rintro e v2 ⟨rfl, h2⟩
  clear c1 z1
  have c3 := hb.cell h2
  have z3 := hb.lt h2
  go_wp2_with fail
  first | go_end0 | refine bodyPost_ret (results_none rfl _ _ _) rfl ?_
  exact ⟨rfl, hback _ _ h2⟩
end Go.Proofs.YtcpojagfnpajeaaGreatDoorR.Ps

namespace Go.Proofs.YtcpojagfnpajeaaGreatDoorR.Ps
open Go.RowKit Go.Shelf

set_option maxRecDepth 100000 in
set_option maxHeartbeats 2000000 in
theorem clo88 (E : Env) (n : Nat) (H : ∀ m, m ≤ n → Specs E m) : DoesC E 244 (seq [expect [123], setVal false, run n .blockLoop, cond S.val some addNone, expect [125]]) := by
  intro A w0 w s s' bp hb h hr
  have c1 := hb.cell h
  have z1 := hb.lt h
  go_enter Tryz.func244, Tryz.ntmps244
  go_wp2_with fail
  obtain ⟨m2, p2, q2⟩ := seq_some hr
  refine (expect_does E _ [123] rfl A w0 _ s m2 h p2).mono ?_
  rintro e v3 ⟨rfl, h3⟩
  clear c1 z1
  have c4 := hb.cell h3
  have z4 := hb.lt h3
  go_wp2_with fail
  obtain ⟨m5, p5, q5⟩ := seq_some q2
  have g6 : At E A w0 m5 _ := (by rw [val_eq p5]; exact h3.val _)
  obtain ⟨m7, p7, q7⟩ := seq_some q5
  go_loopg [1] (n) (fun k u1 wr => ∃ s1, u1 = .bool s1.val ∧ Hid (k ≤ n ∧ run k (.blockLoop) s1 = some m7) ∧ Hid (At E A w0 s1 wr))
  case atStart => exact ⟨m5, (by rw [val_eq p5]), ⟨Nat.le_refl _, p7⟩, g6⟩
  case round =>
    obtain ⟨a8, rfl, kq8, h8⟩ := hrel
    clear c4 z4
    have h8 := h8.out
    cases gk with
    | zero => exact absurd kq8.out.2 (by simp [run])
    | succ k =>
      have le8 : k ≤ n := by have := kq8.out.1; omega
      have r8 : (cond stmtOn (seq [(run k) .stmt, (run k) .blockLoop]) some) a8 = some m7 := kq8.out.2
      have c9 := hb.cell h8
      have z9 := hb.lt h8
      cases hv8 : a8.val with
      | true =>
        go_wp2_with fail
        cases x10 : atB [125] a8 with
        | true =>
          have q11 := cond_false r8 (by show _ = false; simp [stmtOn, x10])
          refine (at_any E _ [125] rfl A w0 _ a8 true x10 h8).mono ?_
          rintro e v12 ⟨rfl, h12⟩
          clear c9 z9
          have c13 := hb.cell h12
          have z13 := hb.lt h12
          go_wp2_with fail
          have g14 : At E A w0 m7 _ := (by rw [some_eq q11]; exact h12)
          obtain ⟨m15, p15, q15⟩ := seq_some q7
          have xv16 : m7.val = true := by rw [some_eq q11]; exact hv8
          have q16 := cond_true p15 xv16
          have g17 : At E A w0 m15 _ := (by rw [some_eq q16]; exact g14)
          obtain ⟨m18, p18, q18⟩ := seq_some q15
          refine (expect_does E _ [125] rfl A w0 _ m15 m18 g17 p18).mono ?_
          rintro e v19 ⟨rfl, h19⟩
          clear c13 z13
          have c20 := hb.cell h19
          have z20 := hb.lt h19
          go_wp2_with fail
          have g21 : At E A w0 s' _ := (by rw [seq_nil q18]; exact h19)
          first | go_end0 | refine bodyPost_ret (results_none rfl _ _ _) rfl ?_
          exact ⟨rfl, g21⟩
        | false =>
          refine (at_any E _ [125] rfl A w0 _ a8 false x10 h8).mono ?_
          rintro e v22 ⟨rfl, h22⟩
          clear c9 z9
          have c23 := hb.cell h22
          have z23 := hb.lt h22
          go_wp2_with fail
          cases x24 : atEnd a8 with
          | true =>
            have q25 := cond_false r8 (by show _ = false; simp [stmtOn, x10, x24])
            refine (atEnd_any E A w0 _ a8 true x24 h22).mono ?_
            rintro e v26 ⟨rfl, h26⟩
            clear c23 z23
            have c27 := hb.cell h26
            have z27 := hb.lt h26
            go_wp2_with fail
            have g28 : At E A w0 m7 _ := (by rw [some_eq q25]; exact h26)
            obtain ⟨m29, p29, q29⟩ := seq_some q7
            have xv30 : m7.val = true := by rw [some_eq q25]; exact hv8
            have q30 := cond_true p29 xv30
            have g31 : At E A w0 m29 _ := (by rw [some_eq q30]; exact g28)
            obtain ⟨m32, p32, q32⟩ := seq_some q29
            refine (expect_does E _ [125] rfl A w0 _ m29 m32 g31 p32).mono ?_
            rintro e v33 ⟨rfl, h33⟩
            clear c27 z27
            have c34 := hb.cell h33
            have z34 := hb.lt h33
            go_wp2_with fail
            have g35 : At E A w0 s' _ := (by rw [seq_nil q32]; exact h33)
            first | go_end0 | refine bodyPost_ret (results_none rfl _ _ _) rfl ?_
            exact ⟨rfl, g35⟩
          | false =>
            refine (atEnd_any E A w0 _ a8 false x24 h22).mono ?_
            rintro e v36 ⟨rfl, h36⟩
            clear c23 z23
            have c37 := hb.cell h36
            have z37 := hb.lt h36
            go_wp2_with fail
            cases x38 : atItem a8 with
            | true =>
              have q39 := cond_false r8 (by show _ = false; simp [stmtOn, x10, x24, x38])
              refine (peek_any E 0 (by omega) A w0 _ a8 h36).mono ?_
              rintro e v40 ⟨rfl, h40⟩
              clear c37 z37
              have c41 := hb.cell h40
              have z41 := hb.lt h40
              go_wp2_with fail
              refine (starts_any E A w0 _ a8 (pk a8.rest 0) true x38 h40).mono ?_
              rintro e v42 ⟨rfl, h42⟩
              clear c41 z41
              have c43 := hb.cell h42
              have z43 := hb.lt h42
              go_wp2_with fail
              have g44 : At E A w0 m7 _ := (by rw [some_eq q39]; exact h42)
              obtain ⟨m45, p45, q45⟩ := seq_some q7
              have xv46 : m7.val = true := by rw [some_eq q39]; exact hv8
              have q46 := cond_true p45 xv46
              have g47 : At E A w0 m45 _ := (by rw [some_eq q46]; exact g44)
              obtain ⟨m48, p48, q48⟩ := seq_some q45
              refine (expect_does E _ [125] rfl A w0 _ m45 m48 g47 p48).mono ?_
              rintro e v49 ⟨rfl, h49⟩
              clear c43 z43
              have c50 := hb.cell h49
              have z50 := hb.lt h49
              go_wp2_with fail
              have g51 : At E A w0 s' _ := (by rw [seq_nil q48]; exact h49)
              first | go_end0 | refine bodyPost_ret (results_none rfl _ _ _) rfl ?_
              exact ⟨rfl, g51⟩
            | false =>
              have q52 := cond_true r8 (by show _ = true; simp [stmtOn, x10, x24, x38])
              refine (peek_any E 0 (by omega) A w0 _ a8 h36).mono ?_
              rintro e v53 ⟨rfl, h53⟩
              clear c37 z37
              have c54 := hb.cell h53
              have z54 := hb.lt h53
              go_wp2_with fail
              refine (starts_any E A w0 _ a8 (pk a8.rest 0) false x38 h53).mono ?_
              rintro e v55 ⟨rfl, h55⟩
              clear c54 z54
              have c56 := hb.cell h55
              have z56 := hb.lt h55
              go_wp2_with fail
              obtain ⟨m57, p57, q57⟩ := seq_some q52
              refine ((H k le8).st A w0 _ a8 m57 h55 p57).mono ?_
              rintro e v58 ⟨rfl, h58⟩
              clear c56 z56
              have c59 := hb.cell h58
              have z59 := hb.lt h58
              go_wp2_with fail
              obtain ⟨m60, p60, q60⟩ := seq_some q57
              rw [← seq_nil q60] at p60
              go_roundg k
              case measure => exact Nat.lt_succ_self k
              case rel => exact ⟨m57, rfl, ⟨le8, p60⟩, h58⟩
      | false =>
        go_wp2_with fail
        cases x61 : atB [125] a8 with
        | true =>
          have q62 := cond_false r8 (by show _ = false; simp [stmtOn, x61])
          refine (at_any E _ [125] rfl A w0 _ a8 true x61 h8).mono ?_
          rintro e v63 ⟨rfl, h63⟩
          clear c9 z9
          have c64 := hb.cell h63
          have z64 := hb.lt h63
          go_wp2_with fail
          have g65 : At E A w0 m7 _ := (by rw [some_eq q62]; exact h63)
          obtain ⟨m66, p66, q66⟩ := seq_some q7
          have xv67 : m7.val = false := by rw [some_eq q62]; exact hv8
          have q67 := cond_false p66 xv67
          refine (none_does E A w0 _ m7 m66 g65 q67).mono ?_
          rintro e v68 ⟨rfl, h68⟩
          clear c64 z64
          have c69 := hb.cell h68
          have z69 := hb.lt h68
          go_wp2_with fail
          obtain ⟨m70, p70, q70⟩ := seq_some q66
          refine (expect_does E _ [125] rfl A w0 _ m66 m70 h68 p70).mono ?_
          rintro e v71 ⟨rfl, h71⟩
          clear c69 z69
          have c72 := hb.cell h71
          have z72 := hb.lt h71
          go_wp2_with fail
          have g73 : At E A w0 s' _ := (by rw [seq_nil q70]; exact h71)
          first | go_end0 | refine bodyPost_ret (results_none rfl _ _ _) rfl ?_
          exact ⟨rfl, g73⟩
        | false =>
          refine (at_any E _ [125] rfl A w0 _ a8 false x61 h8).mono ?_
          rintro e v74 ⟨rfl, h74⟩
          clear c9 z9
          have c75 := hb.cell h74
          have z75 := hb.lt h74
          go_wp2_with fail
          cases x76 : atEnd a8 with
          | true =>
            have q77 := cond_false r8 (by show _ = false; simp [stmtOn, x61, x76])
            refine (atEnd_any E A w0 _ a8 true x76 h74).mono ?_
            rintro e v78 ⟨rfl, h78⟩
            clear c75 z75
            have c79 := hb.cell h78
            have z79 := hb.lt h78
            go_wp2_with fail
            have g80 : At E A w0 m7 _ := (by rw [some_eq q77]; exact h78)
            obtain ⟨m81, p81, q81⟩ := seq_some q7
            have xv82 : m7.val = false := by rw [some_eq q77]; exact hv8
            have q82 := cond_false p81 xv82
            refine (none_does E A w0 _ m7 m81 g80 q82).mono ?_
            rintro e v83 ⟨rfl, h83⟩
            clear c79 z79
            have c84 := hb.cell h83
            have z84 := hb.lt h83
            go_wp2_with fail
            obtain ⟨m85, p85, q85⟩ := seq_some q81
            refine (expect_does E _ [125] rfl A w0 _ m81 m85 h83 p85).mono ?_
            rintro e v86 ⟨rfl, h86⟩
            clear c84 z84
            have c87 := hb.cell h86
            have z87 := hb.lt h86
            go_wp2_with fail
            have g88 : At E A w0 s' _ := (by rw [seq_nil q85]; exact h86)
            first | go_end0 | refine bodyPost_ret (results_none rfl _ _ _) rfl ?_
            exact ⟨rfl, g88⟩
          | false =>
            refine (atEnd_any E A w0 _ a8 false x76 h74).mono ?_
            rintro e v89 ⟨rfl, h89⟩
            clear c75 z75
            have c90 := hb.cell h89
            have z90 := hb.lt h89
            go_wp2_with fail
            cases x91 : atItem a8 with
            | true =>
              have q92 := cond_false r8 (by show _ = false; simp [stmtOn, x61, x76, x91])
              refine (peek_any E 0 (by omega) A w0 _ a8 h89).mono ?_
              rintro e v93 ⟨rfl, h93⟩
              clear c90 z90
              have c94 := hb.cell h93
              have z94 := hb.lt h93
              go_wp2_with fail
              refine (starts_any E A w0 _ a8 (pk a8.rest 0) true x91 h93).mono ?_
              rintro e v95 ⟨rfl, h95⟩
              clear c94 z94
              have c96 := hb.cell h95
              have z96 := hb.lt h95
              go_wp2_with fail
              have g97 : At E A w0 m7 _ := (by rw [some_eq q92]; exact h95)
              obtain ⟨m98, p98, q98⟩ := seq_some q7
              have xv99 : m7.val = false := by rw [some_eq q92]; exact hv8
              have q99 := cond_false p98 xv99
              refine (none_does E A w0 _ m7 m98 g97 q99).mono ?_
              rintro e v100 ⟨rfl, h100⟩
              clear c96 z96
              have c101 := hb.cell h100
              have z101 := hb.lt h100
              go_wp2_with fail
              obtain ⟨m102, p102, q102⟩ := seq_some q98
              refine (expect_does E _ [125] rfl A w0 _ m98 m102 h100 p102).mono ?_
              rintro e v103 ⟨rfl, h103⟩
              clear c101 z101
              have c104 := hb.cell h103
              have z104 := hb.lt h103
              go_wp2_with fail
              have g105 : At E A w0 s' _ := (by rw [seq_nil q102]; exact h103)
              first | go_end0 | refine bodyPost_ret (results_none rfl _ _ _) rfl ?_
              exact ⟨rfl, g105⟩
            | false =>
              have q106 := cond_true r8 (by show _ = true; simp [stmtOn, x61, x76, x91])
              refine (peek_any E 0 (by omega) A w0 _ a8 h89).mono ?_
              rintro e v107 ⟨rfl, h107⟩
              clear c90 z90
              have c108 := hb.cell h107
              have z108 := hb.lt h107
              go_wp2_with fail
              refine (starts_any E A w0 _ a8 (pk a8.rest 0) false x91 h107).mono ?_
              rintro e v109 ⟨rfl, h109⟩
              clear c108 z108
              have c110 := hb.cell h109
              have z110 := hb.lt h109
              go_wp2_with fail
              obtain ⟨m111, p111, q111⟩ := seq_some q106
              refine ((H k le8).st A w0 _ a8 m111 h109 p111).mono ?_
              rintro e v112 ⟨rfl, h112⟩
              clear c110 z110
              have c113 := hb.cell h112
              have z113 := hb.lt h112
              go_wp2_with fail
              obtain ⟨m114, p114, q114⟩ := seq_some q111
              rw [← seq_nil q114] at p114
              go_roundg k
              case measure => exact Nat.lt_succ_self k
              case rel => exact ⟨m111, rfl, ⟨le8, p114⟩, h112⟩

set_option maxRecDepth 100000 in
set_option maxHeartbeats 2000000 in
theorem step73 (E : Env) (n : Nat) (H : ∀ m, m ≤ n → Specs E m) : Does E 219 #[P E] (run (n + 1) (.block)) := by
  intro A w0 w s s' h hr
  have hr : (node 21 (seq [expect [123], setVal false, (run n) .blockLoop, cond S.val some addNone, expect [125]])) s = some s' := hr
  obtain ⟨w1, A1, hw1, h0, hb, hlt, hback⟩ := box_enter h
  go_enter Tryz.func219, Tryz.ntmps219
  go_upto_region 1 with fail
  rw [← hw1]
  clear hw1
  have c1 := hb.cell h0
  have z1 := hb.lt h0
  go_wp2_with fail
  refine (node_any E 21 (by unfold I64; omega) _ _ A1 w1 _ s s' ((clo88 E n H).clo (enters_of Tryz.func244 (by kernel_rfl) rfl) hb h0 _ (fun _ _ _ => rfl)) h0 hr).mono ?_
  rintro e v2 ⟨rfl, h2⟩
  clear c1 z1
  have c3 := hb.cell h2
  have z3 := hb.lt h2
  go_wp2_with fail
  first | go_end0 | refine bodyPost_ret (results_none rfl _ _ _) rfl ?_
  exact ⟨rfl, hback _ _ h2⟩

set_option maxRecDepth 100000 in
set_option maxHeartbeats 2000000 in
theorem step33 (E : Env) (n : Nat) (_H : ∀ m, m ≤ n → Specs E m) : Does E 96 #[P E] (run (n + 1) (.skip)) := by
  intro A w0 w s s' h hr
  have hr : (seq [take, (run n) .skipLoop]) s = some s' := hr
  go_enter Tryz.func96, Tryz.ntmps96
  go_wp2_with fail
  obtain ⟨m1, p1, q1⟩ := seq_some hr
  refine (take_does E A w0 _ s m1 h p1).mono ?_
  rintro e v2 ⟨rfl, h2⟩
  go_wp2_with fail
  obtain ⟨m3, p3, q3⟩ := seq_some q1
  go_loopg [] (n) (fun k wr => ∃ s1, Hid (k ≤ n ∧ run k (.skipLoop) s1 = some m3) ∧ Hid (At E A w0 s1 wr))
  case atStart => exact ⟨m1, ⟨Nat.le_refl _, p3⟩, h2⟩
  case round =>
    obtain ⟨a4, kq4, h4⟩ := hrel
    have h4 := h4.out
    cases gk with
    | zero => exact absurd kq4.out.2 (by simp [run])
    | succ k =>
      have le4 : k ≤ n := by have := kq4.out.1; omega
      have r4 : (cond (fun s => !atEnd s && !atItem s) (seq [take, (run k) .skipLoop]) some) a4 = some m3 := kq4.out.2
      go_wp2_with fail
      cases x5 : atEnd a4 with
      | true =>
        have q6 := cond_false r4 (by show _ = false; simp [x5])
        refine (atEnd_any E A w0 _ a4 true x5 h4).mono ?_
        rintro e v7 ⟨rfl, h7⟩
        go_wp2_with fail
        have g8 : At E A w0 m3 _ := (by rw [some_eq q6]; exact h7)
        have g9 : At E A w0 s' _ := (by rw [seq_nil q3]; exact g8)
        first | go_end0 | refine bodyPost_ret (results_none rfl _ _ _) rfl ?_
        exact ⟨rfl, g9⟩
      | false =>
        refine (atEnd_any E A w0 _ a4 false x5 h4).mono ?_
        rintro e v10 ⟨rfl, h10⟩
        go_wp2_with fail
        cases x11 : atItem a4 with
        | true =>
          have q12 := cond_false r4 (by show _ = false; simp [x5, x11])
          refine (peek_any E 0 (by omega) A w0 _ a4 h10).mono ?_
          rintro e v13 ⟨rfl, h13⟩
          go_wp2_with fail
          refine (starts_any E A w0 _ a4 (pk a4.rest 0) true x11 h13).mono ?_
          rintro e v14 ⟨rfl, h14⟩
          go_wp2_with fail
          have g15 : At E A w0 m3 _ := (by rw [some_eq q12]; exact h14)
          have g16 : At E A w0 s' _ := (by rw [seq_nil q3]; exact g15)
          first | go_end0 | refine bodyPost_ret (results_none rfl _ _ _) rfl ?_
          exact ⟨rfl, g16⟩
        | false =>
          have q17 := cond_true r4 (by show _ = true; simp [x5, x11])
          refine (peek_any E 0 (by omega) A w0 _ a4 h10).mono ?_
          rintro e v18 ⟨rfl, h18⟩
          go_wp2_with fail
          refine (starts_any E A w0 _ a4 (pk a4.rest 0) false x11 h18).mono ?_
          rintro e v19 ⟨rfl, h19⟩
          go_wp2_with fail
          obtain ⟨m20, p20, q20⟩ := seq_some q17
          refine (take_does E A w0 _ a4 m20 h19 p20).mono ?_
          rintro e v21 ⟨rfl, h21⟩
          go_wp2_with fail
          obtain ⟨m22, p22, q22⟩ := seq_some q20
          rw [← seq_nil q22] at p22
          go_roundg k
          case measure => exact Nat.lt_succ_self k
          case rel => exact ⟨m20, ⟨le4, p22⟩, h21⟩

set_option maxRecDepth 100000 in
set_option maxHeartbeats 2000000 in
theorem step79 (E : Env) (n : Nat) (H : ∀ m, m ≤ n → Specs E m) : Does E 225 #[P E] (run (n + 1) (.members)) := by
  intro A w0 w s s' h hr
  have hr : (seq [expect [123], (run n) .membersLoop]) s = some s' := hr
  go_enter Tryz.func225, Tryz.ntmps225
  go_wp2_with fail
  obtain ⟨m1, p1, q1⟩ := seq_some hr
  refine (expect_does E _ [123] rfl A w0 _ s m1 h p1).mono ?_
  rintro e v2 ⟨rfl, h2⟩
  go_wp2_with fail
  obtain ⟨m3, p3, q3⟩ := seq_some q1
  go_loopg [] (n) (fun k wr => ∃ s1, Hid (k ≤ n ∧ run k (.membersLoop) s1 = some m3) ∧ Hid (At E A w0 s1 wr))
  case atStart => exact ⟨m1, ⟨Nat.le_refl _, p3⟩, h2⟩
  case round =>
    obtain ⟨a4, kq4, h4⟩ := hrel
    have h4 := h4.out
    cases gk with
    | zero => exact absurd kq4.out.2 (by simp [run])
    | succ k =>
      have le4 : k ≤ n := by have := kq4.out.1; omega
      have r4 : (cond (atB [116, 121, 112, 101]) (seq [node 16 ((run k) .assoc), (run k) .membersLoop]) (cond (atB [102, 110]) (seq [node 3 ((run k) .method), (run k) .membersLoop]) (expect [125]))) a4 = some m3 := kq4.out.2
      go_wp2_with fail
      cases x5 : atB [116, 121, 112, 101] a4 with
      | true =>
        have q6 := cond_true r4 (by first | exact x5 | (show _ = _; simp [x5]))
        refine (at_any E _ [116, 121, 112, 101] rfl A w0 _ a4 true x5 h4).mono ?_
        rintro e v7 ⟨rfl, h7⟩
        go_wp2_with fail
        obtain ⟨m8, p8, q8⟩ := seq_some q6
        refine (node_any E 16 (by unfold I64; omega) _ _ A w0 _ a4 m8 (((H k le4).v (.assoc) 253 rfl).clo (enters_of Tryz.func253 (by kernel_rfl) rfl) A _) h7 p8).mono ?_
        rintro e v9 ⟨rfl, h9⟩
        go_wp2_with fail
        obtain ⟨m10, p10, q10⟩ := seq_some q8
        rw [← seq_nil q10] at p10
        go_roundg k
        case measure => exact Nat.lt_succ_self k
        case rel => exact ⟨m8, ⟨le4, p10⟩, h9⟩
      | false =>
        refine (at_any E _ [116, 121, 112, 101] rfl A w0 _ a4 false x5 h4).mono ?_
        rintro e v11 ⟨rfl, h11⟩
        go_wp2_with fail
        have q12 := cond_false r4 (by first | exact x5 | (show _ = _; simp [x5]))
        cases x13 : atB [102, 110] a4 with
        | true =>
          have q14 := cond_true q12 (by first | exact x13 | (show _ = _; simp [x13]))
          refine (at_any E _ [102, 110] rfl A w0 _ a4 true x13 h11).mono ?_
          rintro e v15 ⟨rfl, h15⟩
          go_wp2_with fail
          obtain ⟨m16, p16, q16⟩ := seq_some q14
          refine (node_any E 3 (by unfold I64; omega) _ _ A w0 _ a4 m16 (((H k le4).v (.method) 254 rfl).clo (enters_of Tryz.func254 (by kernel_rfl) rfl) A _) h15 p16).mono ?_
          rintro e v17 ⟨rfl, h17⟩
          go_wp2_with fail
          obtain ⟨m18, p18, q18⟩ := seq_some q16
          rw [← seq_nil q18] at p18
          go_roundg k
          case measure => exact Nat.lt_succ_self k
          case rel => exact ⟨m16, ⟨le4, p18⟩, h17⟩
        | false =>
          refine (at_any E _ [102, 110] rfl A w0 _ a4 false x13 h11).mono ?_
          rintro e v19 ⟨rfl, h19⟩
          go_wp2_with fail
          have q20 := cond_false q12 (by first | exact x13 | (show _ = _; simp [x13]))
          refine (expect_does E _ [125] rfl A w0 _ a4 m3 h19 q20).mono ?_
          rintro e v21 ⟨rfl, h21⟩
          go_wp2_with fail
          have g22 : At E A w0 s' _ := (by rw [seq_nil q3]; exact h21)
          first | go_end0 | refine bodyPost_ret (results_none rfl _ _ _) rfl ?_
          exact ⟨rfl, g22⟩
end Go.Proofs.YtcpojagfnpajeaaGreatDoorR.Ps

namespace Go.Proofs.YtcpojagfnpajeaaGreatDoorR.Ps
open Go.RowKit Go.Shelf

set_option maxRecDepth 100000 in
set_option maxHeartbeats 2000000 in
theorem clo149 (E : Env) (n : Nat) (H : ∀ m, m ≤ n → Specs E m) : DoesC E 324 (seq [take, run n .args]) := by
  intro A w0 w s s' bp hb h hr
  have c1 := hb.cell h
  have z1 := hb.lt h
  go_enter Tryz.func324, Tryz.ntmps324
  go_wp2_with fail
  obtain ⟨m2, p2, q2⟩ := seq_some hr
  refine (take_does E A w0 _ s m2 h p2).mono ?_
  rintro e v3 ⟨rfl, h3⟩
  clear c1 z1
  have c4 := hb.cell h3
  have z4 := hb.lt h3
  go_wp2_with fail
  obtain ⟨m5, p5, q5⟩ := seq_some q2
  refine ((H n (Nat.le_refl n)).v (.args) 325 rfl A w0 _ m2 m5 h3 p5).mono ?_
  rintro e v6 ⟨rfl, h6⟩
  clear c4 z4
  have c7 := hb.cell h6
  have z7 := hb.lt h6
  go_wp2_with fail
  have g8 : At E A w0 s' _ := (by rw [seq_nil q5]; exact h6)
  first | go_end0 | refine bodyPost_ret (results_none rfl _ _ _) rfl ?_
  exact ⟨rfl, g8⟩

set_option maxRecDepth 100000 in
set_option maxHeartbeats 2000000 in
theorem step132 (E : Env) (n : Nat) (H : ∀ m, m ≤ n → Specs E m) : Does E 301 #[P E] (run (n + 1) (.pathMac)) := by
  intro A w0 w s s' h hr
  have hr : (seq [(run n) (.path .seg), cond (fun s => atB [33] s && (pk s.rest 1).2 == [40]) (wrap 42 (seq [take, (run n) .args])) some]) s = some s' := hr
  obtain ⟨w1, A1, hw1, h0, hb, hlt, hback⟩ := box_enter h
  go_enter Tryz.func301, Tryz.ntmps301
  go_upto_region 1 with fail
  rw [← hw1]
  clear hw1
  have c1 := hb.cell h0
  have z1 := hb.lt h0
  go_wp2_with fail
  obtain ⟨m2, p2, q2⟩ := seq_some hr
  refine ((H n (Nat.le_refl n)).v (.path .seg) 257 rfl A1 w1 _ s m2 h0 p2).mono ?_
  rintro e v3 ⟨rfl, h3⟩
  clear c1 z1
  have c4 := hb.cell h3
  have z4 := hb.lt h3
  go_wp2_with fail
  obtain ⟨m5, p5, q5⟩ := seq_some q2
  cases x6 : atB [33] m2 with
  | true =>
    have fx6 := run_field1 (pk m2.rest 1).1 (Lx.bs (pk m2.rest 1).2)
    cases x7 : ((pk m2.rest 1).2 == [40]) with
    | true =>
      have yx7 : ((Lx.bs (pk m2.rest 1).2).toList == [40]) = true := by rw [bs_list]; exact x7
      have q8 := cond_true p5 (by show _ = true; rw [x6]; first | exact x7 | (show (!(_ == _)) = _; rw [x7]; rfl))
      refine (at_any E _ [33] rfl A1 w1 _ m2 true x6 h3).mono ?_
      rintro e v9 ⟨rfl, h9⟩
      clear c4 z4
      have c10 := hb.cell h9
      have z10 := hb.lt h9
      go_wp2_with fail
      refine (peek_any E 1 (by omega) A1 w1 _ m2 h9).mono ?_
      rintro e v11 ⟨rfl, h11⟩
      clear c10 z10
      have c12 := hb.cell h11
      have z12 := hb.lt h11
      go_wp2_with fail
      refine (wrap_any E 42 (by unfold I64; omega) _ _ A1 w1 _ m2 m5 (fun v hv => (clo149 E n H).clo (enters_of Tryz.func324 (by kernel_rfl) rfl) hb h11 v hv) h11 q8).mono ?_
      rintro e v13 ⟨rfl, h13⟩
      clear c12 z12
      have c14 := hb.cell h13
      have z14 := hb.lt h13
      go_wp2_with fail
      have g15 : At E A1 w1 s' _ := (by rw [seq_nil q5]; exact h13)
      first | go_end0 | refine bodyPost_ret (results_none rfl _ _ _) rfl ?_
      exact ⟨rfl, hback _ _ g15⟩
    | false =>
      have yx7 : ((Lx.bs (pk m2.rest 1).2).toList == [40]) = false := by rw [bs_list]; exact x7
      have q16 := cond_false p5 (by show _ = false; rw [x6]; first | exact x7 | (show (!(_ == _)) = _; rw [x7]; rfl))
      refine (at_any E _ [33] rfl A1 w1 _ m2 true x6 h3).mono ?_
      rintro e v17 ⟨rfl, h17⟩
      clear c4 z4
      have c18 := hb.cell h17
      have z18 := hb.lt h17
      go_wp2_with fail
      refine (peek_any E 1 (by omega) A1 w1 _ m2 h17).mono ?_
      rintro e v19 ⟨rfl, h19⟩
      clear c18 z18
      have c20 := hb.cell h19
      have z20 := hb.lt h19
      go_wp2_with fail
      have g21 : At E A1 w1 m5 _ := (by rw [some_eq q16]; exact h19)
      have g22 : At E A1 w1 s' _ := (by rw [seq_nil q5]; exact g21)
      first | go_end0 | refine bodyPost_ret (results_none rfl _ _ _) rfl ?_
      exact ⟨rfl, hback _ _ g22⟩
  | false =>
    have q23 := cond_false p5 (by show _ = false; rw [x6]; rfl)
    refine (at_any E _ [33] rfl A1 w1 _ m2 false x6 h3).mono ?_
    rintro e v24 ⟨rfl, h24⟩
    clear c4 z4
    have c25 := hb.cell h24
    have z25 := hb.lt h24
    go_wp2_with fail
    have g26 : At E A1 w1 m5 _ := (by rw [some_eq q23]; exact h24)
    have g27 : At E A1 w1 s' _ := (by rw [seq_nil q5]; exact g26)
    first | go_end0 | refine bodyPost_ret (results_none rfl _ _ _) rfl ?_
    exact ⟨rfl, hback _ _ g27⟩

set_option maxRecDepth 100000 in
set_option maxHeartbeats 2000000 in
theorem clo68 (E : Env) (n : Nat) (H : ∀ m, m ≤ n → Specs E m) : DoesC E 214 (seq [run n (.sg .seg), run n .useLoop]) := by
  intro A w0 w s s' bp hb h hr
  have c1 := hb.cell h
  have z1 := hb.lt h
  go_enter Tryz.func214, Tryz.ntmps214
  go_wp2_with fail
  obtain ⟨m2, p2, q2⟩ := seq_some hr
  refine ((H n (Nat.le_refl n)).v (.sg .seg) 215 rfl A w0 _ s m2 h p2).mono ?_
  rintro e v3 ⟨rfl, h3⟩
  clear c1 z1
  have c4 := hb.cell h3
  have z4 := hb.lt h3
  go_wp2_with fail
  obtain ⟨m5, p5, q5⟩ := seq_some q2
  go_loopg [] (n) (fun k wr => ∃ s1, Hid (k ≤ n ∧ run k (.useLoop) s1 = some m5) ∧ Hid (At E A w0 s1 wr))
  case atStart => exact ⟨m2, ⟨Nat.le_refl _, p5⟩, h3⟩
  case round =>
    obtain ⟨a6, kq6, h6⟩ := hrel
    clear c4 z4
    have h6 := h6.out
    cases gk with
    | zero => exact absurd kq6.out.2 (by simp [run])
    | succ k =>
      have le6 : k ≤ n := by have := kq6.out.1; omega
      have r6 : (cond (fun s => atB [58, 58] s && (pk s.rest 1).2 != [42]) (seq [take, (run k) (.sg .seg), (run k) .useLoop]) some) a6 = some m5 := kq6.out.2
      have c7 := hb.cell h6
      have z7 := hb.lt h6
      go_wp2_with fail
      cases x8 : atB [58, 58] a6 with
      | true =>
        have fx8 := run_field1 (pk a6.rest 1).1 (Lx.bs (pk a6.rest 1).2)
        cases x9 : ((pk a6.rest 1).2 == [42]) with
        | true =>
          have yx9 : ((Lx.bs (pk a6.rest 1).2).toList == [42]) = true := by rw [bs_list]; exact x9
          have q10 := cond_false r6 (by show _ = false; rw [x8]; first | exact x9 | (show (!(_ == _)) = _; rw [x9]; rfl))
          refine (at_any E _ [58, 58] rfl A w0 _ a6 true x8 h6).mono ?_
          rintro e v11 ⟨rfl, h11⟩
          clear c7 z7
          have c12 := hb.cell h11
          have z12 := hb.lt h11
          go_wp2_with fail
          refine (peek_any E 1 (by omega) A w0 _ a6 h11).mono ?_
          rintro e v13 ⟨rfl, h13⟩
          clear c12 z12
          have c14 := hb.cell h13
          have z14 := hb.lt h13
          go_wp2_with fail
          have g15 : At E A w0 m5 _ := (by rw [some_eq q10]; exact h13)
          have g16 : At E A w0 s' _ := (by rw [seq_nil q5]; exact g15)
          first | go_end0 | refine bodyPost_ret (results_none rfl _ _ _) rfl ?_
          exact ⟨rfl, g16⟩
        | false =>
          have yx9 : ((Lx.bs (pk a6.rest 1).2).toList == [42]) = false := by rw [bs_list]; exact x9
          have q17 := cond_true r6 (by show _ = true; rw [x8]; first | exact x9 | (show (!(_ == _)) = _; rw [x9]; rfl))
          refine (at_any E _ [58, 58] rfl A w0 _ a6 true x8 h6).mono ?_
          rintro e v18 ⟨rfl, h18⟩
          clear c7 z7
          have c19 := hb.cell h18
          have z19 := hb.lt h18
          go_wp2_with fail
          refine (peek_any E 1 (by omega) A w0 _ a6 h18).mono ?_
          rintro e v20 ⟨rfl, h20⟩
          clear c19 z19
          have c21 := hb.cell h20
          have z21 := hb.lt h20
          go_wp2_with fail
          obtain ⟨m22, p22, q22⟩ := seq_some q17
          refine (take_does E A w0 _ a6 m22 h20 p22).mono ?_
          rintro e v23 ⟨rfl, h23⟩
          clear c21 z21
          have c24 := hb.cell h23
          have z24 := hb.lt h23
          go_wp2_with fail
          obtain ⟨m25, p25, q25⟩ := seq_some q22
          refine ((H k le6).v (.sg .seg) 215 rfl A w0 _ m22 m25 h23 p25).mono ?_
          rintro e v26 ⟨rfl, h26⟩
          clear c24 z24
          have c27 := hb.cell h26
          have z27 := hb.lt h26
          go_wp2_with fail
          obtain ⟨m28, p28, q28⟩ := seq_some q25
          rw [← seq_nil q28] at p28
          go_roundg k
          case measure => exact Nat.lt_succ_self k
          case rel => exact ⟨m25, ⟨le6, p28⟩, h26⟩
      | false =>
        have q29 := cond_false r6 (by show _ = false; rw [x8]; rfl)
        refine (at_any E _ [58, 58] rfl A w0 _ a6 false x8 h6).mono ?_
        rintro e v30 ⟨rfl, h30⟩
        clear c7 z7
        have c31 := hb.cell h30
        have z31 := hb.lt h30
        go_wp2_with fail
        have g32 : At E A w0 m5 _ := (by rw [some_eq q29]; exact h30)
        have g33 : At E A w0 s' _ := (by rw [seq_nil q5]; exact g32)
        first | go_end0 | refine bodyPost_ret (results_none rfl _ _ _) rfl ?_
        exact ⟨rfl, g33⟩

set_option maxRecDepth 100000 in
set_option maxHeartbeats 2000000 in
theorem step54 (E : Env) (n : Nat) (H : ∀ m, m ≤ n → Specs E m) : Does E 155 #[P E] (run (n + 1) (.useI)) := by
  intro A w0 w s s' h hr
  have hr : (seq [node 17 (seq [(run n) (.sg .seg), (run n) .useLoop]), onAcc [58, 58] take (onAcc [97, 115] expName some), expect [59]]) s = some s' := hr
  obtain ⟨w1, A1, hw1, h0, hb, hlt, hback⟩ := box_enter h
  go_enter Tryz.func155, Tryz.ntmps155
  go_upto_region 1 with fail
  rw [← hw1]
  clear hw1
  have c1 := hb.cell h0
  have z1 := hb.lt h0
  go_wp2_with fail
  obtain ⟨m2, p2, q2⟩ := seq_some hr
  refine (node_any E 17 (by unfold I64; omega) _ _ A1 w1 _ s m2 ((clo68 E n H).clo (enters_of Tryz.func214 (by kernel_rfl) rfl) hb h0 _ (fun _ _ _ => rfl)) h0 p2).mono ?_
  rintro e v3 ⟨rfl, h3⟩
  clear c1 z1
  have c4 := hb.cell h3
  have z4 := hb.lt h3
  go_wp2_with fail
  obtain ⟨m5, p5, q5⟩ := seq_some q2
  cases x6 : atB [58, 58] m2 with
  | true =>
    obtain ⟨t7, p7, q7⟩ := onAcc_true x6 p5
    refine (accept_any E _ [58, 58] rfl A1 w1 _ m2 t7 true x6 h3 p7).mono ?_
    rintro e v8 ⟨rfl, h8⟩
    clear c4 z4
    have c9 := hb.cell h8
    have z9 := hb.lt h8
    go_wp2_with fail
    refine (take_does E A1 w1 _ t7 m5 h8 q7).mono ?_
    rintro e v10 ⟨rfl, h10⟩
    clear c9 z9
    have c11 := hb.cell h10
    have z11 := hb.lt h10
    go_wp2_with fail
    obtain ⟨m12, p12, q12⟩ := seq_some q5
    refine (expect_does E _ [59] rfl A1 w1 _ m5 m12 h10 p12).mono ?_
    rintro e v13 ⟨rfl, h13⟩
    clear c11 z11
    have c14 := hb.cell h13
    have z14 := hb.lt h13
    go_wp2_with fail
    have g15 : At E A1 w1 s' _ := (by rw [seq_nil q12]; exact h13)
    first | go_end0 | refine bodyPost_ret (results_none rfl _ _ _) rfl ?_
    exact ⟨rfl, hback _ _ g15⟩
  | false =>
    have q7 := onAcc_false x6 p5
    refine (accept_any E _ [58, 58] rfl A1 w1 _ m2 m2 false x6 h3 rfl).mono ?_
    rintro e v16 ⟨rfl, h16⟩
    clear c4 z4
    have c17 := hb.cell h16
    have z17 := hb.lt h16
    go_wp2_with fail
    cases x18 : atB [97, 115] m2 with
    | true =>
      obtain ⟨t19, p19, q19⟩ := onAcc_true x18 q7
      refine (accept_any E _ [97, 115] rfl A1 w1 _ m2 t19 true x18 h16 p19).mono ?_
      rintro e v20 ⟨rfl, h20⟩
      clear c17 z17
      have c21 := hb.cell h20
      have z21 := hb.lt h20
      go_wp2_with fail
      refine (expName_does E A1 w1 _ t19 m5 h20 q19).mono ?_
      rintro e v22 ⟨rfl, h22⟩
      clear c21 z21
      have c23 := hb.cell h22
      have z23 := hb.lt h22
      go_wp2_with fail
      obtain ⟨m24, p24, q24⟩ := seq_some q5
      refine (expect_does E _ [59] rfl A1 w1 _ m5 m24 h22 p24).mono ?_
      rintro e v25 ⟨rfl, h25⟩
      clear c23 z23
      have c26 := hb.cell h25
      have z26 := hb.lt h25
      go_wp2_with fail
      have g27 : At E A1 w1 s' _ := (by rw [seq_nil q24]; exact h25)
      first | go_end0 | refine bodyPost_ret (results_none rfl _ _ _) rfl ?_
      exact ⟨rfl, hback _ _ g27⟩
    | false =>
      have q19 := onAcc_false x18 q7
      refine (accept_any E _ [97, 115] rfl A1 w1 _ m2 m2 false x18 h16 rfl).mono ?_
      rintro e v28 ⟨rfl, h28⟩
      clear c17 z17
      have c29 := hb.cell h28
      have z29 := hb.lt h28
      go_wp2_with fail
      have g30 : At E A1 w1 m5 _ := (by rw [some_eq q19]; exact h28)
      obtain ⟨m31, p31, q31⟩ := seq_some q5
      refine (expect_does E _ [59] rfl A1 w1 _ m5 m31 g30 p31).mono ?_
      rintro e v32 ⟨rfl, h32⟩
      clear c29 z29
      have c33 := hb.cell h32
      have z33 := hb.lt h32
      go_wp2_with fail
      have g34 : At E A1 w1 s' _ := (by rw [seq_nil q31]; exact h32)
      first | go_end0 | refine bodyPost_ret (results_none rfl _ _ _) rfl ?_
      exact ⟨rfl, hback _ _ g34⟩

set_option maxRecDepth 100000 in
set_option maxHeartbeats 2000000 in
theorem step144 (E : Env) (n : Nat) (H : ∀ m, m ≤ n → Specs E m) : Does E 313 #[P E] (run (n + 1) (.posF)) := by
  intro A w0 w s s' h hr
  have hr : (seq [(run n) .prim, (run n) .postLoop]) s = some s' := hr
  go_enter Tryz.func313, Tryz.ntmps313
  go_wp2_with fail
  obtain ⟨m1, p1, q1⟩ := seq_some hr
  refine ((H n (Nat.le_refl n)).v (.prim) 274 rfl A w0 _ s m1 h p1).mono ?_
  rintro e v2 ⟨rfl, h2⟩
  go_wp2_with fail
  obtain ⟨m3, p3, q3⟩ := seq_some q1
  go_loopg [] (n) (fun k wr => ∃ s1, Hid (k ≤ n ∧ run k (.postLoop) s1 = some m3) ∧ Hid (At E A w0 s1 wr))
  case atStart => exact ⟨m1, ⟨Nat.le_refl _, p3⟩, h2⟩
  case round =>
    obtain ⟨a4, kq4, h4⟩ := hrel
    have h4 := h4.out
    cases gk with
    | zero => exact absurd kq4.out.2 (by simp [run])
    | succ k =>
      have le4 : k ≤ n := by have := kq4.out.1; omega
      have r4 : (cond (atB [40]) (seq [wrap 30 ((run k) .args), (run k) .postLoop]) (cond (atB [46]) (seq [fun s => wrap (memK s) ((run k) .member) s, (run k) .postLoop]) some)) a4 = some m3 := kq4.out.2
      go_wp2_with fail
      cases x5 : atB [40] a4 with
      | true =>
        have q6 := cond_true r4 (by first | exact x5 | (show _ = _; simp [x5]))
        refine (at_any E _ [40] rfl A w0 _ a4 true x5 h4).mono ?_
        rintro e v7 ⟨rfl, h7⟩
        go_wp2_with fail
        obtain ⟨m8, p8, q8⟩ := seq_some q6
        refine (wrap_any E 30 (by unfold I64; omega) _ _ A w0 _ a4 m8 (fun v _ => ((H k le4).v (.args) 325 rfl).clo (enters_of Tryz.func325 (by kernel_rfl) rfl) A  v) h7 p8).mono ?_
        rintro e v9 ⟨rfl, h9⟩
        go_wp2_with fail
        obtain ⟨m10, p10, q10⟩ := seq_some q8
        rw [← seq_nil q10] at p10
        go_roundg k
        case measure => exact Nat.lt_succ_self k
        case rel => exact ⟨m8, ⟨le4, p10⟩, h9⟩
      | false =>
        refine (at_any E _ [40] rfl A w0 _ a4 false x5 h4).mono ?_
        rintro e v11 ⟨rfl, h11⟩
        go_wp2_with fail
        have q12 := cond_false r4 (by first | exact x5 | (show _ = _; simp [x5]))
        cases x13 : atB [46] a4 with
        | true =>
          have q14 := cond_true q12 (by first | exact x13 | (show _ = _; simp [x13]))
          refine (at_any E _ [46] rfl A w0 _ a4 true x13 h11).mono ?_
          rintro e v15 ⟨rfl, h15⟩
          go_wp2_with fail
          obtain ⟨m16, p16, q16⟩ := seq_some q14
          refine (memK_any E A w0 _ a4 _ rfl h15).mono ?_
          rintro e v17 ⟨rfl, h17⟩
          go_wp2_with fail
          refine (wrap_any E _ (memK_i64 a4) _ _ A w0 _ a4 m16 (fun v _ => ((H k le4).v (.member) 330 rfl).clo (enters_of Tryz.func330 (by kernel_rfl) rfl) A  v) h17 p16).mono ?_
          rintro e v18 ⟨rfl, h18⟩
          go_wp2_with fail
          obtain ⟨m19, p19, q19⟩ := seq_some q16
          rw [← seq_nil q19] at p19
          go_roundg k
          case measure => exact Nat.lt_succ_self k
          case rel => exact ⟨m16, ⟨le4, p19⟩, h18⟩
        | false =>
          refine (at_any E _ [46] rfl A w0 _ a4 false x13 h11).mono ?_
          rintro e v20 ⟨rfl, h20⟩
          go_wp2_with fail
          have q21 := cond_false q12 (by first | exact x13 | (show _ = _; simp [x13]))
          have g22 : At E A w0 m3 _ := (by rw [some_eq q21]; exact h20)
          have g23 : At E A w0 s' _ := (by rw [seq_nil q3]; exact g22)
          first | go_end0 | refine bodyPost_ret (results_none rfl _ _ _) rfl ?_
          exact ⟨rfl, g23⟩
end Go.Proofs.YtcpojagfnpajeaaGreatDoorR.Ps
