/-
  Statements, by their contracts.
  Paths and parameters, by their contracts.
  Lists, by their contract.
  Primary expressions, by their contract.
  Patterns, by their contract.
  Operations, by their contract.
-/
import Derived.Test.YtcpojagfnpajeaaGreatDoorRZPsCase
import Derived.Deep.DeepCutAuto
import Derived.Deep.RegionHeld3
namespace Go.Proofs.YtcpojagfnpajeaaGreatDoorR.Ps
open Go.RowKit Go.Shelf

set_option maxRecDepth 100000 in
set_option maxHeartbeats 2000000 in
theorem clo116 (E : Env) (n : Nat) (_H : ∀ m, m ≤ n → Specs E m) : DoesC E 276 (accept [59]) := by
  intro A w0 w s s' bp hb h hr
  have c1 := hb.cell h
  have z1 := hb.lt h
  go_enter Tryz.func276, Tryz.ntmps276
  go_wp2_with fail
  cases x2 : atB [59] s with
  | true =>
    refine (accept_any E _ [59] rfl A w0 _ s s' true x2 h (acc_some hr true x2)).mono ?_
    rintro e v3 ⟨rfl, h3⟩
    clear c1 z1
    have c4 := hb.cell h3
    have z4 := hb.lt h3
    go_wp2_with fail
    first | go_end0 | refine bodyPost_ret (results_none rfl _ _ _) rfl ?_
    exact ⟨rfl, h3⟩
  | false =>
    refine (accept_any E _ [59] rfl A w0 _ s s' false x2 h (acc_some hr false x2)).mono ?_
    rintro e v5 ⟨rfl, h5⟩
    clear c1 z1
    have c6 := hb.cell h5
    have z6 := hb.lt h5
    go_wp2_with fail
    first | go_end0 | refine bodyPost_ret (results_none rfl _ _ _) rfl ?_
    exact ⟨rfl, h5⟩

set_option maxRecDepth 100000 in
set_option maxHeartbeats 8000000 in
theorem step89 (E : Env) (n : Nat) (H : ∀ m, m ≤ n → Specs E m) : DoesB E 245 (run (n + 1) (.stmt)) := by
  intro A w0 w s s' h hr
  have hr : (cond (atB [108, 101, 116]) (seq [node 22 ((run n) .letS), setVal false]) (cond (atB [119, 104, 105, 108, 101]) (seq [node 24 ((run n) .whileS), setVal false]) (cond (atB [114, 101, 116, 117, 114, 110]) (seq [node 25 ((run n) .returnS), setVal false]) (cond (fun s => atB [105, 102] s || atB [109, 97, 116, 99, 104] s || atB [123] s) (seq [(run n) .prim, cond (atB [125]) (setVal true) (seq [wrap 26 (accept [59]), setVal false])]) (cond atExpr ((run n) .estmt) (seq [unexpected, setVal false])))))) s = some s' := hr
  obtain ⟨w1, A1, hw1, h0, hb, hlt, hback⟩ := box_enter h
  go_enter Tryz.func245, Tryz.ntmps245
  go_upto_region 1 with fail
  rw [← hw1]
  clear hw1
  have c1 := hb.cell h0
  have z1 := hb.lt h0
  go_wp2_with fail
  cases x2 : atB [108, 101, 116] s with
  | true =>
    have q3 := cond_true hr (by first | exact x2 | (show _ = _; simp [x2]))
    refine (at_any E _ [108, 101, 116] rfl A1 w1 _ s true x2 h0).mono ?_
    rintro e v4 ⟨rfl, h4⟩
    clear c1 z1
    have c5 := hb.cell h4
    have z5 := hb.lt h4
    go_wp2_with fail
    obtain ⟨m6, p6, q6⟩ := seq_some q3
    refine (node_any E 22 (by unfold I64; omega) _ _ A1 w1 _ s m6 (((H n (Nat.le_refl n)).v (.letS) 271 rfl).clo (enters_of Tryz.func271 (by kernel_rfl) rfl) A1 _) h4 p6).mono ?_
    rintro e v7 ⟨rfl, h7⟩
    clear c5 z5
    have c8 := hb.cell h7
    have z8 := hb.lt h7
    go_wp2_with fail
    obtain ⟨m9, p9, q9⟩ := seq_some q6
    have g10 : At E A1 w1 m9 _ := (by rw [val_eq p9]; exact h7.val _)
    have g11 : At E A1 w1 s' _ := (by rw [seq_nil q9]; exact g10)
    go_ret
    exact ⟨(by rw [seq_nil q9, val_eq p9]; rfl), hback _ _ g11⟩
  | false =>
    refine (at_any E _ [108, 101, 116] rfl A1 w1 _ s false x2 h0).mono ?_
    rintro e v12 ⟨rfl, h12⟩
    clear c1 z1
    have c13 := hb.cell h12
    have z13 := hb.lt h12
    go_wp2_with fail
    have q14 := cond_false hr (by first | exact x2 | (show _ = _; simp [x2]))
    cases x15 : atB [119, 104, 105, 108, 101] s with
    | true =>
      have q16 := cond_true q14 (by first | exact x15 | (show _ = _; simp [x15]))
      refine (at_any E _ [119, 104, 105, 108, 101] rfl A1 w1 _ s true x15 h12).mono ?_
      rintro e v17 ⟨rfl, h17⟩
      clear c13 z13
      have c18 := hb.cell h17
      have z18 := hb.lt h17
      go_wp2_with fail
      obtain ⟨m19, p19, q19⟩ := seq_some q16
      refine (node_any E 24 (by unfold I64; omega) _ _ A1 w1 _ s m19 (((H n (Nat.le_refl n)).v (.whileS) 272 rfl).clo (enters_of Tryz.func272 (by kernel_rfl) rfl) A1 _) h17 p19).mono ?_
      rintro e v20 ⟨rfl, h20⟩
      clear c18 z18
      have c21 := hb.cell h20
      have z21 := hb.lt h20
      go_wp2_with fail
      obtain ⟨m22, p22, q22⟩ := seq_some q19
      have g23 : At E A1 w1 m22 _ := (by rw [val_eq p22]; exact h20.val _)
      have g24 : At E A1 w1 s' _ := (by rw [seq_nil q22]; exact g23)
      go_ret
      exact ⟨(by rw [seq_nil q22, val_eq p22]; rfl), hback _ _ g24⟩
    | false =>
      refine (at_any E _ [119, 104, 105, 108, 101] rfl A1 w1 _ s false x15 h12).mono ?_
      rintro e v25 ⟨rfl, h25⟩
      clear c13 z13
      have c26 := hb.cell h25
      have z26 := hb.lt h25
      go_wp2_with fail
      have q27 := cond_false q14 (by first | exact x15 | (show _ = _; simp [x15]))
      cases x28 : atB [114, 101, 116, 117, 114, 110] s with
      | true =>
        have q29 := cond_true q27 (by first | exact x28 | (show _ = _; simp [x28]))
        refine (at_any E _ [114, 101, 116, 117, 114, 110] rfl A1 w1 _ s true x28 h25).mono ?_
        rintro e v30 ⟨rfl, h30⟩
        clear c26 z26
        have c31 := hb.cell h30
        have z31 := hb.lt h30
        go_wp2_with fail
        obtain ⟨m32, p32, q32⟩ := seq_some q29
        refine (node_any E 25 (by unfold I64; omega) _ _ A1 w1 _ s m32 (((H n (Nat.le_refl n)).v (.returnS) 273 rfl).clo (enters_of Tryz.func273 (by kernel_rfl) rfl) A1 _) h30 p32).mono ?_
        rintro e v33 ⟨rfl, h33⟩
        clear c31 z31
        have c34 := hb.cell h33
        have z34 := hb.lt h33
        go_wp2_with fail
        obtain ⟨m35, p35, q35⟩ := seq_some q32
        have g36 : At E A1 w1 m35 _ := (by rw [val_eq p35]; exact h33.val _)
        have g37 : At E A1 w1 s' _ := (by rw [seq_nil q35]; exact g36)
        go_ret
        exact ⟨(by rw [seq_nil q35, val_eq p35]; rfl), hback _ _ g37⟩
      | false =>
        refine (at_any E _ [114, 101, 116, 117, 114, 110] rfl A1 w1 _ s false x28 h25).mono ?_
        rintro e v38 ⟨rfl, h38⟩
        clear c26 z26
        have c39 := hb.cell h38
        have z39 := hb.lt h38
        go_wp2_with fail
        have q40 := cond_false q27 (by first | exact x28 | (show _ = _; simp [x28]))
        cases x41 : atB [105, 102] s with
        | true =>
          have q42 := cond_true q40 (by first | exact x41 | (show _ = _; simp [x41]))
          refine (at_any E _ [105, 102] rfl A1 w1 _ s true x41 h38).mono ?_
          rintro e v43 ⟨rfl, h43⟩
          clear c39 z39
          have c44 := hb.cell h43
          have z44 := hb.lt h43
          go_wp2_with fail
          obtain ⟨m45, p45, q45⟩ := seq_some q42
          refine ((H n (Nat.le_refl n)).v (.prim) 274 rfl A1 w1 _ s m45 h43 p45).mono ?_
          rintro e v46 ⟨rfl, h46⟩
          clear c44 z44
          have c47 := hb.cell h46
          have z47 := hb.lt h46
          go_wp2_with fail
          obtain ⟨m48, p48, q48⟩ := seq_some q45
          cases x49 : atB [125] m45 with
          | true =>
            have q50 := cond_true p48 (by first | exact x49 | (show _ = _; simp [x49]))
            refine (at_any E _ [125] rfl A1 w1 _ m45 true x49 h46).mono ?_
            rintro e v51 ⟨rfl, h51⟩
            clear c47 z47
            have c52 := hb.cell h51
            have z52 := hb.lt h51
            go_wp2_with fail
            have g53 : At E A1 w1 m48 _ := (by rw [val_eq q50]; exact h51.val _)
            have g54 : At E A1 w1 s' _ := (by rw [seq_nil q48]; exact g53)
            go_ret
            exact ⟨(by rw [seq_nil q48, val_eq q50]; rfl), hback _ _ g54⟩
          | false =>
            refine (at_any E _ [125] rfl A1 w1 _ m45 false x49 h46).mono ?_
            rintro e v55 ⟨rfl, h55⟩
            clear c47 z47
            have c56 := hb.cell h55
            have z56 := hb.lt h55
            go_wp2_with fail
            have q57 := cond_false p48 (by first | exact x49 | (show _ = _; simp [x49]))
            obtain ⟨m58, p58, q58⟩ := seq_some q57
            refine (wrap_any E 26 (by unfold I64; omega) _ _ A1 w1 _ m45 m58 (fun v hv => (clo116 E n H).clo (enters_of Tryz.func276 (by kernel_rfl) rfl) hb h55 v hv) h55 p58).mono ?_
            rintro e v59 ⟨rfl, h59⟩
            clear c56 z56
            have c60 := hb.cell h59
            have z60 := hb.lt h59
            go_wp2_with fail
            obtain ⟨m61, p61, q61⟩ := seq_some q58
            have g62 : At E A1 w1 m61 _ := (by rw [val_eq p61]; exact h59.val _)
            have g63 : At E A1 w1 m48 _ := (by rw [seq_nil q61]; exact g62)
            have g64 : At E A1 w1 s' _ := (by rw [seq_nil q48]; exact g63)
            go_ret
            exact ⟨(by rw [seq_nil q48, seq_nil q61, val_eq p61]; rfl), hback _ _ g64⟩
        | false =>
          refine (at_any E _ [105, 102] rfl A1 w1 _ s false x41 h38).mono ?_
          rintro e v65 ⟨rfl, h65⟩
          clear c39 z39
          have c66 := hb.cell h65
          have z66 := hb.lt h65
          go_wp2_with fail
          cases x67 : atB [109, 97, 116, 99, 104] s with
          | true =>
            have q68 := cond_true q40 (by first | exact x67 | (show _ = _; simp [x41, x67]))
            refine (at_any E _ [109, 97, 116, 99, 104] rfl A1 w1 _ s true x67 h65).mono ?_
            rintro e v69 ⟨rfl, h69⟩
            clear c66 z66
            have c70 := hb.cell h69
            have z70 := hb.lt h69
            go_wp2_with fail
            obtain ⟨m71, p71, q71⟩ := seq_some q68
            refine ((H n (Nat.le_refl n)).v (.prim) 274 rfl A1 w1 _ s m71 h69 p71).mono ?_
            rintro e v72 ⟨rfl, h72⟩
            clear c70 z70
            have c73 := hb.cell h72
            have z73 := hb.lt h72
            go_wp2_with fail
            obtain ⟨m74, p74, q74⟩ := seq_some q71
            cases x75 : atB [125] m71 with
            | true =>
              have q76 := cond_true p74 (by first | exact x75 | (show _ = _; simp [x75]))
              refine (at_any E _ [125] rfl A1 w1 _ m71 true x75 h72).mono ?_
              rintro e v77 ⟨rfl, h77⟩
              clear c73 z73
              have c78 := hb.cell h77
              have z78 := hb.lt h77
              go_wp2_with fail
              have g79 : At E A1 w1 m74 _ := (by rw [val_eq q76]; exact h77.val _)
              have g80 : At E A1 w1 s' _ := (by rw [seq_nil q74]; exact g79)
              go_ret
              exact ⟨(by rw [seq_nil q74, val_eq q76]; rfl), hback _ _ g80⟩
            | false =>
              refine (at_any E _ [125] rfl A1 w1 _ m71 false x75 h72).mono ?_
              rintro e v81 ⟨rfl, h81⟩
              clear c73 z73
              have c82 := hb.cell h81
              have z82 := hb.lt h81
              go_wp2_with fail
              have q83 := cond_false p74 (by first | exact x75 | (show _ = _; simp [x75]))
              obtain ⟨m84, p84, q84⟩ := seq_some q83
              refine (wrap_any E 26 (by unfold I64; omega) _ _ A1 w1 _ m71 m84 (fun v hv => (clo116 E n H).clo (enters_of Tryz.func276 (by kernel_rfl) rfl) hb h81 v hv) h81 p84).mono ?_
              rintro e v85 ⟨rfl, h85⟩
              clear c82 z82
              have c86 := hb.cell h85
              have z86 := hb.lt h85
              go_wp2_with fail
              obtain ⟨m87, p87, q87⟩ := seq_some q84
              have g88 : At E A1 w1 m87 _ := (by rw [val_eq p87]; exact h85.val _)
              have g89 : At E A1 w1 m74 _ := (by rw [seq_nil q87]; exact g88)
              have g90 : At E A1 w1 s' _ := (by rw [seq_nil q74]; exact g89)
              go_ret
              exact ⟨(by rw [seq_nil q74, seq_nil q87, val_eq p87]; rfl), hback _ _ g90⟩
          | false =>
            refine (at_any E _ [109, 97, 116, 99, 104] rfl A1 w1 _ s false x67 h65).mono ?_
            rintro e v91 ⟨rfl, h91⟩
            clear c66 z66
            have c92 := hb.cell h91
            have z92 := hb.lt h91
            go_wp2_with fail
            cases x93 : atB [123] s with
            | true =>
              have q94 := cond_true q40 (by first | exact x93 | (show _ = _; simp [x41, x67, x93]))
              refine (at_any E _ [123] rfl A1 w1 _ s true x93 h91).mono ?_
              rintro e v95 ⟨rfl, h95⟩
              clear c92 z92
              have c96 := hb.cell h95
              have z96 := hb.lt h95
              go_wp2_with fail
              obtain ⟨m97, p97, q97⟩ := seq_some q94
              refine ((H n (Nat.le_refl n)).v (.prim) 274 rfl A1 w1 _ s m97 h95 p97).mono ?_
              rintro e v98 ⟨rfl, h98⟩
              clear c96 z96
              have c99 := hb.cell h98
              have z99 := hb.lt h98
              go_wp2_with fail
              obtain ⟨m100, p100, q100⟩ := seq_some q97
              cases x101 : atB [125] m97 with
              | true =>
                have q102 := cond_true p100 (by first | exact x101 | (show _ = _; simp [x101]))
                refine (at_any E _ [125] rfl A1 w1 _ m97 true x101 h98).mono ?_
                rintro e v103 ⟨rfl, h103⟩
                clear c99 z99
                have c104 := hb.cell h103
                have z104 := hb.lt h103
                go_wp2_with fail
                have g105 : At E A1 w1 m100 _ := (by rw [val_eq q102]; exact h103.val _)
                have g106 : At E A1 w1 s' _ := (by rw [seq_nil q100]; exact g105)
                go_ret
                exact ⟨(by rw [seq_nil q100, val_eq q102]; rfl), hback _ _ g106⟩
              | false =>
                refine (at_any E _ [125] rfl A1 w1 _ m97 false x101 h98).mono ?_
                rintro e v107 ⟨rfl, h107⟩
                clear c99 z99
                have c108 := hb.cell h107
                have z108 := hb.lt h107
                go_wp2_with fail
                have q109 := cond_false p100 (by first | exact x101 | (show _ = _; simp [x101]))
                obtain ⟨m110, p110, q110⟩ := seq_some q109
                refine (wrap_any E 26 (by unfold I64; omega) _ _ A1 w1 _ m97 m110 (fun v hv => (clo116 E n H).clo (enters_of Tryz.func276 (by kernel_rfl) rfl) hb h107 v hv) h107 p110).mono ?_
                rintro e v111 ⟨rfl, h111⟩
                clear c108 z108
                have c112 := hb.cell h111
                have z112 := hb.lt h111
                go_wp2_with fail
                obtain ⟨m113, p113, q113⟩ := seq_some q110
                have g114 : At E A1 w1 m113 _ := (by rw [val_eq p113]; exact h111.val _)
                have g115 : At E A1 w1 m100 _ := (by rw [seq_nil q113]; exact g114)
                have g116 : At E A1 w1 s' _ := (by rw [seq_nil q100]; exact g115)
                go_ret
                exact ⟨(by rw [seq_nil q100, seq_nil q113, val_eq p113]; rfl), hback _ _ g116⟩
            | false =>
              refine (at_any E _ [123] rfl A1 w1 _ s false x93 h91).mono ?_
              rintro e v117 ⟨rfl, h117⟩
              clear c92 z92
              have c118 := hb.cell h117
              have z118 := hb.lt h117
              go_wp2_with fail
              have q119 := cond_false q40 (by first | exact x93 | (show _ = _; simp [x41, x67, x93]))
              cases x120 : atExpr s with
              | true =>
                have q121 := cond_true q119 (by first | exact x120 | (show _ = _; simp [x120]))
                refine (atExpr_any E A1 w1 _ s true x120 h117).mono ?_
                rintro e v122 ⟨rfl, h122⟩
                clear c118 z118
                have c123 := hb.cell h122
                have z123 := hb.lt h122
                go_wp2_with fail
                refine ((H n (Nat.le_refl n)).es A1 w1 _ s s' h122 q121).mono ?_
                rintro e v124 ⟨rfl, h124⟩
                clear c123 z123
                have c125 := hb.cell h124
                have z125 := hb.lt h124
                go_wp2_with fail
                go_ret
                exact ⟨rfl, hback _ _ h124⟩
              | false =>
                refine (atExpr_any E A1 w1 _ s false x120 h117).mono ?_
                rintro e v126 ⟨rfl, h126⟩
                clear c118 z118
                have c127 := hb.cell h126
                have z127 := hb.lt h126
                go_wp2_with fail
                have q128 := cond_false q119 (by first | exact x120 | (show _ = _; simp [x120]))
                obtain ⟨m129, p129, q129⟩ := seq_some q128
                refine (unexp_does E A1 w1 _ s m129 h126 p129).mono ?_
                rintro e v130 ⟨rfl, h130⟩
                clear c127 z127
                have c131 := hb.cell h130
                have z131 := hb.lt h130
                go_wp2_with fail
                obtain ⟨m132, p132, q132⟩ := seq_some q129
                have g133 : At E A1 w1 m132 _ := (by rw [val_eq p132]; exact h130.val _)
                have g134 : At E A1 w1 s' _ := (by rw [seq_nil q132]; exact g133)
                go_ret
                exact ⟨(by rw [seq_nil q132, val_eq p132]; rfl), hback _ _ g134⟩

set_option maxRecDepth 100000 in
set_option maxHeartbeats 2000000 in
theorem clo139 (E : Env) (n : Nat) (H : ∀ m, m ≤ n → Specs E m) : DoesC E 308 (seq [take, run n .expr, expect [59]]) := by
  intro A w0 w s s' bp hb h hr
  have c1 := hb.cell h
  have z1 := hb.lt h
  go_enter Tryz.func308, Tryz.ntmps308
  go_wp2_with fail
  obtain ⟨m2, p2, q2⟩ := seq_some hr
  refine (take_does E A w0 _ s m2 h p2).mono ?_
  rintro e v3 ⟨rfl, h3⟩
  clear c1 z1
  have c4 := hb.cell h3
  have z4 := hb.lt h3
  go_wp2_with fail
  obtain ⟨m5, p5, q5⟩ := seq_some q2
  refine ((H n (Nat.le_refl n)).v (.expr) 228 rfl A w0 _ m2 m5 h3 p5).mono ?_
  rintro e v6 ⟨rfl, h6⟩
  clear c4 z4
  have c7 := hb.cell h6
  have z7 := hb.lt h6
  go_wp2_with fail
  obtain ⟨m8, p8, q8⟩ := seq_some q5
  refine (expect_does E _ [59] rfl A w0 _ m5 m8 h6 p8).mono ?_
  rintro e v9 ⟨rfl, h9⟩
  clear c7 z7
  have c10 := hb.cell h9
  have z10 := hb.lt h9
  go_wp2_with fail
  have g11 : At E A w0 s' _ := (by rw [seq_nil q8]; exact h9)
  first | go_end0 | refine bodyPost_ret (results_none rfl _ _ _) rfl ?_
  exact ⟨rfl, g11⟩

set_option maxRecDepth 100000 in
set_option maxHeartbeats 2000000 in
theorem clo140 (E : Env) (n : Nat) (_H : ∀ m, m ≤ n → Specs E m) : DoesC E 309 (expect [59]) := by
  intro A w0 w s s' bp hb h hr
  have c1 := hb.cell h
  have z1 := hb.lt h
  go_enter Tryz.func309, Tryz.ntmps309
  go_wp2_with fail
  refine (expect_does E _ [59] rfl A w0 _ s s' h hr).mono ?_
  rintro e v2 ⟨rfl, h2⟩
  clear c1 z1
  have c3 := hb.cell h2
  have z3 := hb.lt h2
  go_wp2_with fail
  first | go_end0 | refine bodyPost_ret (results_none rfl _ _ _) rfl ?_
  exact ⟨rfl, h2⟩

set_option maxRecDepth 100000 in
set_option maxHeartbeats 2000000 in
theorem step118 (E : Env) (n : Nat) (H : ∀ m, m ≤ n → Specs E m) : DoesB E 278 (run (n + 1) (.estmt)) := by
  intro A w0 w s s' h hr
  have hr : (seq [(run n) .expr, cond (atB [125]) (setVal true) (cond (atB [61]) (seq [wrap 23 (seq [take, (run n) .expr, expect [59]]), setVal false]) (seq [wrap 26 (expect [59]), setVal false]))]) s = some s' := hr
  obtain ⟨w1, A1, hw1, h0, hb, hlt, hback⟩ := box_enter h
  go_enter Tryz.func278, Tryz.ntmps278
  go_upto_region 1 with fail
  rw [← hw1]
  clear hw1
  have c1 := hb.cell h0
  have z1 := hb.lt h0
  go_wp2_with fail
  obtain ⟨m2, p2, q2⟩ := seq_some hr
  refine ((H n (Nat.le_refl n)).v (.expr) 228 rfl A1 w1 _ s m2 h0 p2).mono ?_
  rintro e v3 ⟨rfl, h3⟩
  clear c1 z1
  have c4 := hb.cell h3
  have z4 := hb.lt h3
  go_wp2_with fail
  obtain ⟨m5, p5, q5⟩ := seq_some q2
  cases x6 : atB [125] m2 with
  | true =>
    have q7 := cond_true p5 (by first | exact x6 | (show _ = _; simp [x6]))
    refine (at_any E _ [125] rfl A1 w1 _ m2 true x6 h3).mono ?_
    rintro e v8 ⟨rfl, h8⟩
    clear c4 z4
    have c9 := hb.cell h8
    have z9 := hb.lt h8
    go_wp2_with fail
    have g10 : At E A1 w1 m5 _ := (by rw [val_eq q7]; exact h8.val _)
    have g11 : At E A1 w1 s' _ := (by rw [seq_nil q5]; exact g10)
    go_ret
    exact ⟨(by rw [seq_nil q5, val_eq q7]; rfl), hback _ _ g11⟩
  | false =>
    refine (at_any E _ [125] rfl A1 w1 _ m2 false x6 h3).mono ?_
    rintro e v12 ⟨rfl, h12⟩
    clear c4 z4
    have c13 := hb.cell h12
    have z13 := hb.lt h12
    go_wp2_with fail
    have q14 := cond_false p5 (by first | exact x6 | (show _ = _; simp [x6]))
    cases x15 : atB [61] m2 with
    | true =>
      have q16 := cond_true q14 (by first | exact x15 | (show _ = _; simp [x15]))
      refine (at_any E _ [61] rfl A1 w1 _ m2 true x15 h12).mono ?_
      rintro e v17 ⟨rfl, h17⟩
      clear c13 z13
      have c18 := hb.cell h17
      have z18 := hb.lt h17
      go_wp2_with fail
      obtain ⟨m19, p19, q19⟩ := seq_some q16
      refine (wrap_any E 23 (by unfold I64; omega) _ _ A1 w1 _ m2 m19 (fun v hv => (clo139 E n H).clo (enters_of Tryz.func308 (by kernel_rfl) rfl) hb h17 v hv) h17 p19).mono ?_
      rintro e v20 ⟨rfl, h20⟩
      clear c18 z18
      have c21 := hb.cell h20
      have z21 := hb.lt h20
      go_wp2_with fail
      obtain ⟨m22, p22, q22⟩ := seq_some q19
      have g23 : At E A1 w1 m22 _ := (by rw [val_eq p22]; exact h20.val _)
      have g24 : At E A1 w1 m5 _ := (by rw [seq_nil q22]; exact g23)
      have g25 : At E A1 w1 s' _ := (by rw [seq_nil q5]; exact g24)
      go_ret
      exact ⟨(by rw [seq_nil q5, seq_nil q22, val_eq p22]; rfl), hback _ _ g25⟩
    | false =>
      refine (at_any E _ [61] rfl A1 w1 _ m2 false x15 h12).mono ?_
      rintro e v26 ⟨rfl, h26⟩
      clear c13 z13
      have c27 := hb.cell h26
      have z27 := hb.lt h26
      go_wp2_with fail
      have q28 := cond_false q14 (by first | exact x15 | (show _ = _; simp [x15]))
      obtain ⟨m29, p29, q29⟩ := seq_some q28
      refine (wrap_any E 26 (by unfold I64; omega) _ _ A1 w1 _ m2 m29 (fun v hv => (clo140 E n H).clo (enters_of Tryz.func309 (by kernel_rfl) rfl) hb h26 v hv) h26 p29).mono ?_
      rintro e v30 ⟨rfl, h30⟩
      clear c27 z27
      have c31 := hb.cell h30
      have z31 := hb.lt h30
      go_wp2_with fail
      obtain ⟨m32, p32, q32⟩ := seq_some q29
      have g33 : At E A1 w1 m32 _ := (by rw [val_eq p32]; exact h30.val _)
      have g34 : At E A1 w1 m5 _ := (by rw [seq_nil q32]; exact g33)
      have g35 : At E A1 w1 s' _ := (by rw [seq_nil q5]; exact g34)
      go_ret
      exact ⟨(by rw [seq_nil q5, seq_nil q32, val_eq p32]; rfl), hback _ _ g35⟩
end Go.Proofs.YtcpojagfnpajeaaGreatDoorR.Ps

namespace Go.Proofs.YtcpojagfnpajeaaGreatDoorR.Ps
open Go.RowKit Go.Shelf

set_option maxRecDepth 100000 in
set_option maxHeartbeats 2000000 in
theorem clo121 (E : Env) (n : Nat) (H : ∀ m, m ≤ n → Specs E m) (g : Sg) (bp bq : Nat) (A : Ho) (w0 w : World) (s s' : S) (hb : BoxAt E A w0 bp) (hq : BoxV A w0 bq (.func (.func (sgf g)) #[P E] #[]) 1) (h : At E A w0 s w) (hr : (seq [run n (.sg g), run n (.pathLoop g)]) s = some s') : Calls Tryz.prog 281 #[.pointer (some ⟨bq, 0, none⟩), .pointer (some ⟨bp, 0, none⟩)] w fun e w' => e = .returned (.tuple #[]) ∧ At E A w0 s' w' := by
  have hes := enters_sg g
  have c1 := hb.cell h
  have z1 := hb.lt h
  have d1 := hq.cell h
  have y1 := hq.lt h
  go_enter Tryz.func281, Tryz.ntmps281
  go_wp2_with fail
  obtain ⟨m2, p2, q2⟩ := seq_some hr
  refine ((H n (Nat.le_refl n)).v (.sg g) (sgf g) rfl A w0 _ s m2 h p2).mono ?_
  rintro e v3 ⟨rfl, h3⟩
  clear c1 d1 z1 y1
  have c4 := hb.cell h3
  have z4 := hb.lt h3
  have d4 := hq.cell h3
  have y4 := hq.lt h3
  go_wp2_with fail
  obtain ⟨m5, p5, q5⟩ := seq_some q2
  go_loopg [] (n) (fun k wr => ∃ s1, Hid (k ≤ n ∧ run k (.pathLoop g) s1 = some m5) ∧ Hid (At E A w0 s1 wr))
  case atStart => exact ⟨m2, ⟨Nat.le_refl _, p5⟩, h3⟩
  case round =>
    obtain ⟨a6, kq6, h6⟩ := hrel
    clear c4 d4 z4 y4
    have h6 := h6.out
    cases gk with
    | zero => exact absurd kq6.out.2 (by simp [run])
    | succ k =>
      have le6 : k ≤ n := by have := kq6.out.1; omega
      have r6 : (onAcc [58, 58] (seq [(run k) (.sg g), (run k) (.pathLoop g)]) some) a6 = some m5 := kq6.out.2
      have c7 := hb.cell h6
      have z7 := hb.lt h6
      have d7 := hq.cell h6
      have y7 := hq.lt h6
      go_wp2_with fail
      cases x8 : atB [58, 58] a6 with
      | true =>
        obtain ⟨t9, p9, q9⟩ := onAcc_true x8 r6
        refine (accept_any E _ [58, 58] rfl A w0 _ a6 t9 true x8 h6 p9).mono ?_
        rintro e v10 ⟨rfl, h10⟩
        clear c7 d7 z7 y7
        have c11 := hb.cell h10
        have z11 := hb.lt h10
        have d11 := hq.cell h10
        have y11 := hq.lt h10
        go_wp2_with fail
        obtain ⟨m12, p12, q12⟩ := seq_some q9
        refine ((H k le6).v (.sg g) (sgf g) rfl A w0 _ t9 m12 h10 p12).mono ?_
        rintro e v13 ⟨rfl, h13⟩
        clear c11 d11 z11 y11
        have c14 := hb.cell h13
        have z14 := hb.lt h13
        have d14 := hq.cell h13
        have y14 := hq.lt h13
        go_wp2_with fail
        obtain ⟨m15, p15, q15⟩ := seq_some q12
        rw [← seq_nil q15] at p15
        go_roundg k
        case measure => exact Nat.lt_succ_self k
        case rel => exact ⟨m12, ⟨(by have := le6; omega), p15⟩, h13⟩
      | false =>
        have q9 := onAcc_false x8 r6
        refine (accept_any E _ [58, 58] rfl A w0 _ a6 a6 false x8 h6 rfl).mono ?_
        rintro e v16 ⟨rfl, h16⟩
        clear c7 d7 z7 y7
        have c17 := hb.cell h16
        have z17 := hb.lt h16
        have d17 := hq.cell h16
        have y17 := hq.lt h16
        go_wp2_with fail
        have g18 : At E A w0 m5 _ := (by rw [some_eq q9]; exact h16)
        have g19 : At E A w0 s' _ := (by rw [seq_nil q5]; exact g18)
        first | go_end0 | refine bodyPost_ret (results_none rfl _ _ _) rfl ?_
        exact ⟨rfl, g19⟩

set_option maxRecDepth 100000 in
set_option maxHeartbeats 2000000 in
theorem step101 (E : Env) (n : Nat) (H : ∀ m, m ≤ n → Specs E m) (g : Sg) : Does E 257 #[P E, .func (.func (sgf g)) #[P E] #[]] (run (n + 1) (.path g)) := by
  intro A w0 w s s' h hr
  have hr : (node 17 (seq [(run n) (.sg g), (run n) (.pathLoop g)])) s = some s' := hr
  obtain ⟨w1, A1, hw1, h0, hb, hq, hback⟩ := box2_enter h (.func (.func (sgf g)) #[P E] #[]) 1
  go_enter Tryz.func257, Tryz.ntmps257
  go_upto_region 1 with fail
  rw [← hw1]
  clear hw1
  have c1 := hb.cell h0
  have z1 := hb.lt h0
  have d1 := hq.cell h0
  have y1 := hq.lt h0
  go_wp2_with fail
  refine (node_any E 17 (by unfold I64; omega) _ _ A1 w1 _ s s' (clo2 (clo121 E n H g w.heap.size (w.heap.size + 1)) (enters_of Tryz.func281 (by kernel_rfl) rfl) hb hq h0 _ (fun _ _ _ => rfl)) h0 hr).mono ?_
  rintro e v2 ⟨rfl, h2⟩
  clear c1 d1 z1 y1
  have c3 := hb.cell h2
  have z3 := hb.lt h2
  have d3 := hq.cell h2
  have y3 := hq.lt h2
  go_wp2_with fail
  first | go_end0 | refine bodyPost_ret (results_none rfl _ _ _) rfl ?_
  exact ⟨rfl, hback _ _ h2⟩

set_option maxRecDepth 100000 in
set_option maxHeartbeats 2000000 in
theorem clo107 (E : Env) (n : Nat) (H : ∀ m, m ≤ n → Specs E m) (cl : List UInt8) (bp bq : Nat) (A : Ho) (w0 w : World) (s s' : S) (hb : BoxAt E A w0 bp) (hq : BoxV A w0 bq (.string (Lx.bs cl)) 9) (h : At E A w0 s w) (hr : (run n (.list cl .param)) s = some s') : Calls Tryz.prog 263 #[.pointer (some ⟨bp, 0, none⟩), .pointer (some ⟨bq, 0, none⟩)] w fun e w' => e = .returned (.tuple #[]) ∧ At E A w0 s' w' := by
  have c1 := hb.cell h
  have z1 := hb.lt h
  have d1 := hq.cell h
  have y1 := hq.lt h
  go_enter Tryz.func263, Tryz.ntmps263
  go_wp2_with fail
  refine ((H n (Nat.le_refl n)).v (.list cl .param) 221 rfl A w0 _ s s' h hr).mono ?_
  rintro e v2 ⟨rfl, h2⟩
  clear c1 d1 z1 y1
  have c3 := hb.cell h2
  have z3 := hb.lt h2
  have d3 := hq.cell h2
  have y3 := hq.lt h2
  go_wp2_with fail
  first | go_end0 | refine bodyPost_ret (results_none rfl _ _ _) rfl ?_
  exact ⟨rfl, h2⟩

set_option maxRecDepth 100000 in
set_option maxHeartbeats 2000000 in
theorem step83 (E : Env) (n : Nat) (H : ∀ m, m ≤ n → Specs E m) (cl : List UInt8) : Does E 229 #[P E, .string (Lx.bs cl)] (run (n + 1) (.params cl)) := by
  intro A w0 w s s' h hr
  have hr : (node 12 ((run n) (.list cl .param))) s = some s' := hr
  obtain ⟨w1, A1, hw1, h0, hb, hq, hback⟩ := box2_enter h (.string (Lx.bs cl)) 9
  go_enter Tryz.func229, Tryz.ntmps229
  go_upto_region 1 with fail
  rw [← hw1]
  clear hw1
  have c1 := hb.cell h0
  have z1 := hb.lt h0
  have d1 := hq.cell h0
  have y1 := hq.lt h0
  go_wp2_with fail
  refine (node_any E 12 (by unfold I64; omega) _ _ A1 w1 _ s s' (clo2 (clo107 E n H cl w.heap.size (w.heap.size + 1)) (enters_of Tryz.func263 (by kernel_rfl) rfl) hb hq h0 _ (fun _ _ _ => rfl)) h0 hr).mono ?_
  rintro e v2 ⟨rfl, h2⟩
  clear c1 d1 z1 y1
  have c3 := hb.cell h2
  have z3 := hb.lt h2
  have d3 := hq.cell h2
  have y3 := hq.lt h2
  go_wp2_with fail
  first | go_end0 | refine bodyPost_ret (results_none rfl _ _ _) rfl ?_
  exact ⟨rfl, hback _ _ h2⟩
end Go.Proofs.YtcpojagfnpajeaaGreatDoorR.Ps

namespace Go.Proofs.YtcpojagfnpajeaaGreatDoorR.Ps
open Go.RowKit Go.Shelf

set_option maxRecDepth 100000 in
set_option maxHeartbeats 4000000 in
theorem step75 (E : Env) (n : Nat) (H : ∀ m, m ≤ n → Specs E m) (cl : List UInt8) (e : El) : Does E 221 #[P E, .string (Lx.bs cl), .func (.func (stf e)) #[P E] #[], .func (.func (elf e)) #[P E] #[]] (run (n + 1) (.list cl e)) := by
  intro A w0 w s s' h hr
  have hes := enters_st e
  have hel := enters_el e
  go_enter Tryz.func221, Tryz.ntmps221
  go_wp2_with fail
  go_loopg [] (n + 1) (fun k wr => ∃ s1, Hid (k ≤ n + 1 ∧ run k (.list cl e) s1 = some s') ∧ Hid (At E A w0 s1 wr))
  case atStart => exact ⟨s, ⟨Nat.le_refl _, hr⟩, h⟩
  case round =>
    obtain ⟨a1, kq1, h1⟩ := hrel
    have h1 := h1.out
    cases gk with
    | zero => exact absurd kq1.out.2 (by simp [run])
    | succ k =>
      have le1 : k ≤ n := by have := kq1.out.1; omega
      have r1 : (cond (goOn cl) (seq [cond (starts e) ((run k) (elN e)) unexpected, cond (atB cl) some (expect [44]), (run k) (.list cl e)]) (expect cl)) a1 = some s' := kq1.out.2
      go_wp2_with fail
      cases x2 : atB cl a1 with
      | true =>
        have q3 := cond_false r1 (by show _ = false; simp [goOn, x2])
        refine (at_any E _ cl rfl A w0 _ a1 true x2 h1).mono ?_
        rintro e v4 ⟨rfl, h4⟩
        go_wp2_with fail
        refine (expect_does E _ cl rfl A w0 _ a1 s' h4 q3).mono ?_
        rintro e v5 ⟨rfl, h5⟩
        go_wp2_with fail
        first | go_end0 | refine bodyPost_ret (results_none rfl _ _ _) rfl ?_
        exact ⟨rfl, h5⟩
      | false =>
        refine (at_any E _ cl rfl A w0 _ a1 false x2 h1).mono ?_
        rintro e v6 ⟨rfl, h6⟩
        go_wp2_with fail
        cases x7 : atEnd a1 with
        | true =>
          have q8 := cond_false r1 (by show _ = false; simp [goOn, x2, x7])
          refine (atEnd_any E A w0 _ a1 true x7 h6).mono ?_
          rintro e v9 ⟨rfl, h9⟩
          go_wp2_with fail
          refine (expect_does E _ cl rfl A w0 _ a1 s' h9 q8).mono ?_
          rintro e v10 ⟨rfl, h10⟩
          go_wp2_with fail
          first | go_end0 | refine bodyPost_ret (results_none rfl _ _ _) rfl ?_
          exact ⟨rfl, h10⟩
        | false =>
          refine (atEnd_any E A w0 _ a1 false x7 h6).mono ?_
          rintro e v11 ⟨rfl, h11⟩
          go_wp2_with fail
          cases x12 : atB [102, 110] a1 with
          | true =>
            have q13 := cond_true r1 (by show _ = true; simp [goOn, x2, x7, x12])
            refine (at_any E _ [102, 110] rfl A w0 _ a1 true x12 h11).mono ?_
            rintro e v14 ⟨rfl, h14⟩
            go_wp2_with fail
            obtain ⟨m15, p15, q15⟩ := seq_some q13
            cases x16 : starts e a1 with
            | true =>
              have q17 := cond_true p15 x16
              refine (starts_does E e A w0 _ a1 true x16 h14).mono ?_
              rintro e v18 ⟨rfl, h18⟩
              go_wp2_with fail
              refine (el_does E e k (H k le1) A w0 _ a1 m15 h18 q17).mono ?_
              rintro e v19 ⟨rfl, h19⟩
              go_wp2_with fail
              obtain ⟨m20, p20, q20⟩ := seq_some q15
              cases x21 : atB cl m15 with
              | true =>
                have q22 := cond_true p20 (by first | exact x21 | (show _ = _; simp [x21]))
                refine (at_any E _ cl rfl A w0 _ m15 true x21 h19).mono ?_
                rintro e v23 ⟨rfl, h23⟩
                go_wp2_with fail
                have g24 : At E A w0 m20 _ := (by rw [some_eq q22]; exact h23)
                obtain ⟨m25, p25, q25⟩ := seq_some q20
                rw [← seq_nil q25] at p25
                go_roundg k
                case measure => exact Nat.lt_succ_self k
                case rel => exact ⟨m20, ⟨(by have := le1; omega), p25⟩, g24⟩
              | false =>
                refine (at_any E _ cl rfl A w0 _ m15 false x21 h19).mono ?_
                rintro e v26 ⟨rfl, h26⟩
                go_wp2_with fail
                have q27 := cond_false p20 (by first | exact x21 | (show _ = _; simp [x21]))
                refine (expect_does E _ [44] rfl A w0 _ m15 m20 h26 q27).mono ?_
                rintro e v28 ⟨rfl, h28⟩
                go_wp2_with fail
                obtain ⟨m29, p29, q29⟩ := seq_some q20
                rw [← seq_nil q29] at p29
                go_roundg k
                case measure => exact Nat.lt_succ_self k
                case rel => exact ⟨m20, ⟨(by have := le1; omega), p29⟩, h28⟩
            | false =>
              have q30 := cond_false p15 x16
              refine (starts_does E e A w0 _ a1 false x16 h14).mono ?_
              rintro e v31 ⟨rfl, h31⟩
              go_wp2_with fail
              refine (unexp_does E A w0 _ a1 m15 h31 q30).mono ?_
              rintro e v32 ⟨rfl, h32⟩
              go_wp2_with fail
              obtain ⟨m33, p33, q33⟩ := seq_some q15
              cases x34 : atB cl m15 with
              | true =>
                have q35 := cond_true p33 (by first | exact x34 | (show _ = _; simp [x34]))
                refine (at_any E _ cl rfl A w0 _ m15 true x34 h32).mono ?_
                rintro e v36 ⟨rfl, h36⟩
                go_wp2_with fail
                have g37 : At E A w0 m33 _ := (by rw [some_eq q35]; exact h36)
                obtain ⟨m38, p38, q38⟩ := seq_some q33
                rw [← seq_nil q38] at p38
                go_roundg k
                case measure => exact Nat.lt_succ_self k
                case rel => exact ⟨m33, ⟨(by have := le1; omega), p38⟩, g37⟩
              | false =>
                refine (at_any E _ cl rfl A w0 _ m15 false x34 h32).mono ?_
                rintro e v39 ⟨rfl, h39⟩
                go_wp2_with fail
                have q40 := cond_false p33 (by first | exact x34 | (show _ = _; simp [x34]))
                refine (expect_does E _ [44] rfl A w0 _ m15 m33 h39 q40).mono ?_
                rintro e v41 ⟨rfl, h41⟩
                go_wp2_with fail
                obtain ⟨m42, p42, q42⟩ := seq_some q33
                rw [← seq_nil q42] at p42
                go_roundg k
                case measure => exact Nat.lt_succ_self k
                case rel => exact ⟨m33, ⟨(by have := le1; omega), p42⟩, h41⟩
          | false =>
            refine (at_any E _ [102, 110] rfl A w0 _ a1 false x12 h11).mono ?_
            rintro e v43 ⟨rfl, h43⟩
            go_wp2_with fail
            cases x44 : atItem a1 with
            | true =>
              have q45 := cond_false r1 (by show _ = false; simp [goOn, x2, x7, x12, x44])
              refine (peek_any E 0 (by omega) A w0 _ a1 h43).mono ?_
              rintro e v46 ⟨rfl, h46⟩
              go_wp2_with fail
              refine (starts_any E A w0 _ a1 (pk a1.rest 0) true x44 h46).mono ?_
              rintro e v47 ⟨rfl, h47⟩
              go_wp2_with fail
              refine (expect_does E _ cl rfl A w0 _ a1 s' h47 q45).mono ?_
              rintro e v48 ⟨rfl, h48⟩
              go_wp2_with fail
              first | go_end0 | refine bodyPost_ret (results_none rfl _ _ _) rfl ?_
              exact ⟨rfl, h48⟩
            | false =>
              have q49 := cond_true r1 (by show _ = true; simp [goOn, x2, x7, x12, x44])
              refine (peek_any E 0 (by omega) A w0 _ a1 h43).mono ?_
              rintro e v50 ⟨rfl, h50⟩
              go_wp2_with fail
              refine (starts_any E A w0 _ a1 (pk a1.rest 0) false x44 h50).mono ?_
              rintro e v51 ⟨rfl, h51⟩
              go_wp2_with fail
              obtain ⟨m52, p52, q52⟩ := seq_some q49
              cases x53 : starts e a1 with
              | true =>
                have q54 := cond_true p52 x53
                refine (starts_does E e A w0 _ a1 true x53 h51).mono ?_
                rintro e v55 ⟨rfl, h55⟩
                go_wp2_with fail
                refine (el_does E e k (H k le1) A w0 _ a1 m52 h55 q54).mono ?_
                rintro e v56 ⟨rfl, h56⟩
                go_wp2_with fail
                obtain ⟨m57, p57, q57⟩ := seq_some q52
                cases x58 : atB cl m52 with
                | true =>
                  have q59 := cond_true p57 (by first | exact x58 | (show _ = _; simp [x58]))
                  refine (at_any E _ cl rfl A w0 _ m52 true x58 h56).mono ?_
                  rintro e v60 ⟨rfl, h60⟩
                  go_wp2_with fail
                  have g61 : At E A w0 m57 _ := (by rw [some_eq q59]; exact h60)
                  obtain ⟨m62, p62, q62⟩ := seq_some q57
                  rw [← seq_nil q62] at p62
                  go_roundg k
                  case measure => exact Nat.lt_succ_self k
                  case rel => exact ⟨m57, ⟨(by have := le1; omega), p62⟩, g61⟩
                | false =>
                  refine (at_any E _ cl rfl A w0 _ m52 false x58 h56).mono ?_
                  rintro e v63 ⟨rfl, h63⟩
                  go_wp2_with fail
                  have q64 := cond_false p57 (by first | exact x58 | (show _ = _; simp [x58]))
                  refine (expect_does E _ [44] rfl A w0 _ m52 m57 h63 q64).mono ?_
                  rintro e v65 ⟨rfl, h65⟩
                  go_wp2_with fail
                  obtain ⟨m66, p66, q66⟩ := seq_some q57
                  rw [← seq_nil q66] at p66
                  go_roundg k
                  case measure => exact Nat.lt_succ_self k
                  case rel => exact ⟨m57, ⟨(by have := le1; omega), p66⟩, h65⟩
              | false =>
                have q67 := cond_false p52 x53
                refine (starts_does E e A w0 _ a1 false x53 h51).mono ?_
                rintro e v68 ⟨rfl, h68⟩
                go_wp2_with fail
                refine (unexp_does E A w0 _ a1 m52 h68 q67).mono ?_
                rintro e v69 ⟨rfl, h69⟩
                go_wp2_with fail
                obtain ⟨m70, p70, q70⟩ := seq_some q52
                cases x71 : atB cl m52 with
                | true =>
                  have q72 := cond_true p70 (by first | exact x71 | (show _ = _; simp [x71]))
                  refine (at_any E _ cl rfl A w0 _ m52 true x71 h69).mono ?_
                  rintro e v73 ⟨rfl, h73⟩
                  go_wp2_with fail
                  have g74 : At E A w0 m70 _ := (by rw [some_eq q72]; exact h73)
                  obtain ⟨m75, p75, q75⟩ := seq_some q70
                  rw [← seq_nil q75] at p75
                  go_roundg k
                  case measure => exact Nat.lt_succ_self k
                  case rel => exact ⟨m70, ⟨(by have := le1; omega), p75⟩, g74⟩
                | false =>
                  refine (at_any E _ cl rfl A w0 _ m52 false x71 h69).mono ?_
                  rintro e v76 ⟨rfl, h76⟩
                  go_wp2_with fail
                  have q77 := cond_false p70 (by first | exact x71 | (show _ = _; simp [x71]))
                  refine (expect_does E _ [44] rfl A w0 _ m52 m70 h76 q77).mono ?_
                  rintro e v78 ⟨rfl, h78⟩
                  go_wp2_with fail
                  obtain ⟨m79, p79, q79⟩ := seq_some q70
                  rw [← seq_nil q79] at p79
                  go_roundg k
                  case measure => exact Nat.lt_succ_self k
                  case rel => exact ⟨m70, ⟨(by have := le1; omega), p79⟩, h78⟩
end Go.Proofs.YtcpojagfnpajeaaGreatDoorR.Ps

namespace Go.Proofs.YtcpojagfnpajeaaGreatDoorR.Ps
open Go.RowKit Go.Shelf

set_option maxRecDepth 100000 in
set_option maxHeartbeats 8000000 in
theorem step114 (E : Env) (n : Nat) (H : ∀ m, m ≤ n → Specs E m) : Does E 274 #[P E] (run (n + 1) .prim) := by
  intro A w0 w s s' h hr
  have hr : (cond (fun s => (pk s.rest 0).1 == 103) ((run n) .pathMac) (cond (fun s => (pk s.rest 0).1 == 105) (node 27 take) (cond (fun s => (pk s.rest 0).1 == 106) (node 29 take) (cond (fun s => atB [116, 114, 117, 101] s || atB [102, 97, 108, 115, 101] s) (node 28 take) (cond (atB [40]) (node 60 ((run n) .paren)) (cond (atB [123]) ((run n) .block) (cond (atB [105, 102]) (node 37 ((run n) .ifE)) (cond (atB [109, 97, 116, 99, 104]) (node 35 ((run n) .matchE)) (cond (atB [110, 101, 119]) (node 33 ((run n) .structLit)) (cond (fun s => atB [124] s || atB [124, 124] s) (node 38 ((run n) .lambda)) missing)))))))))) s = some s' := hr
  have f0 := run_field0 (pk s.rest 0).1 (Lx.bs (pk s.rest 0).2)
  have f1 := run_field1 (pk s.rest 0).1 (Lx.bs (pk s.rest 0).2)
  cases k103 : ((pk s.rest 0).1 == 103) with
  | true =>
    have q103 := cond_true hr k103
    go_enter Tryz.func274, Tryz.ntmps274
    go_wp2_with fail
    refine (peek_any E 0 (by omega) A w0 _ s h).mono ?_
    rintro e v1 ⟨rfl, h1⟩
    go_wp2_with fail
    refine ((H n (Nat.le_refl n)).v (.pathMac) 301 rfl A w0 _ s s' h1 q103).mono ?_
    rintro e v2 ⟨rfl, h2⟩
    go_wp2_with fail
    first | go_end0 | refine bodyPost_ret (results_none rfl _ _ _) rfl ?_
    exact ⟨rfl, h2⟩
  | false =>
    have q103 := cond_false hr k103
    cases k105 : ((pk s.rest 0).1 == 105) with
    | true =>
      have q105 := cond_true q103 k105
      go_enter Tryz.func274, Tryz.ntmps274
      go_wp2_with fail
      refine (peek_any E 0 (by omega) A w0 _ s h).mono ?_
      rintro e v3 ⟨rfl, h3⟩
      go_wp2_with fail
      refine (node_any E 27 (by unfold I64; omega) _ _ A w0 _ s s' ((take_does E).clo (enters_of Tryz.func99 (by kernel_rfl) rfl) A _) h3 q105).mono ?_
      rintro e v4 ⟨rfl, h4⟩
      go_wp2_with fail
      first | go_end0 | refine bodyPost_ret (results_none rfl _ _ _) rfl ?_
      exact ⟨rfl, h4⟩
    | false =>
      have q105 := cond_false q103 k105
      cases k106 : ((pk s.rest 0).1 == 106) with
      | true =>
        have q106 := cond_true q105 k106
        go_enter Tryz.func274, Tryz.ntmps274
        go_wp2_with fail
        refine (peek_any E 0 (by omega) A w0 _ s h).mono ?_
        rintro e v5 ⟨rfl, h5⟩
        go_wp2_with fail
        refine (node_any E 29 (by unfold I64; omega) _ _ A w0 _ s s' ((take_does E).clo (enters_of Tryz.func99 (by kernel_rfl) rfl) A _) h5 q106).mono ?_
        rintro e v6 ⟨rfl, h6⟩
        go_wp2_with fail
        first | go_end0 | refine bodyPost_ret (results_none rfl _ _ _) rfl ?_
        exact ⟨rfl, h6⟩
      | false =>
        have q106 := cond_false q105 k106
        cases e1 : atB [116, 114, 117, 101] s with
        | true =>
          have y1 : ((Lx.bs (pk s.rest 0).2).toList == [116, 114, 117, 101]) = true := by rw [bs_list]; exact e1
          have q1 := cond_true q106 (by first | exact e1 | (show _ = _; simp [e1]))
          go_enter Tryz.func274, Tryz.ntmps274
          go_wp2_with fail
          refine (peek_any E 0 (by omega) A w0 _ s h).mono ?_
          rintro e v7 ⟨rfl, h7⟩
          go_wp2_with fail
          refine (peek_any E 0 (by omega) A w0 _ s h7).mono ?_
          rintro e v8 ⟨rfl, h8⟩
          go_wp2_with fail
          refine (node_any E 28 (by unfold I64; omega) _ _ A w0 _ s s' ((take_does E).clo (enters_of Tryz.func99 (by kernel_rfl) rfl) A _) h8 q1).mono ?_
          rintro e v9 ⟨rfl, h9⟩
          go_wp2_with fail
          first | go_end0 | refine bodyPost_ret (results_none rfl _ _ _) rfl ?_
          exact ⟨rfl, h9⟩
        | false =>
          have y1 : ((Lx.bs (pk s.rest 0).2).toList == [116, 114, 117, 101]) = false := by rw [bs_list]; exact e1
          cases e2 : atB [102, 97, 108, 115, 101] s with
          | true =>
            have y2 : ((Lx.bs (pk s.rest 0).2).toList == [102, 97, 108, 115, 101]) = true := by rw [bs_list]; exact e2
            have q2 := cond_true q106 (by first | exact e2 | (show _ = _; simp [e1, e2]))
            go_enter Tryz.func274, Tryz.ntmps274
            go_wp2_with fail
            refine (peek_any E 0 (by omega) A w0 _ s h).mono ?_
            rintro e v10 ⟨rfl, h10⟩
            go_wp2_with fail
            refine (peek_any E 0 (by omega) A w0 _ s h10).mono ?_
            rintro e v11 ⟨rfl, h11⟩
            go_wp2_with fail
            refine (node_any E 28 (by unfold I64; omega) _ _ A w0 _ s s' ((take_does E).clo (enters_of Tryz.func99 (by kernel_rfl) rfl) A _) h11 q2).mono ?_
            rintro e v12 ⟨rfl, h12⟩
            go_wp2_with fail
            first | go_end0 | refine bodyPost_ret (results_none rfl _ _ _) rfl ?_
            exact ⟨rfl, h12⟩
          | false =>
            have y2 : ((Lx.bs (pk s.rest 0).2).toList == [102, 97, 108, 115, 101]) = false := by rw [bs_list]; exact e2
            have qf2 := cond_false q106 (by first | exact e2 | (show _ = _; simp [e1, e2]))
            cases e3 : atB [40] s with
            | true =>
              have y3 : ((Lx.bs (pk s.rest 0).2).toList == [40]) = true := by rw [bs_list]; exact e3
              have q3 := cond_true qf2 (by first | exact e3 | (show _ = _; simp [e3]))
              go_enter Tryz.func274, Tryz.ntmps274
              go_wp2_with fail
              refine (peek_any E 0 (by omega) A w0 _ s h).mono ?_
              rintro e v13 ⟨rfl, h13⟩
              go_wp2_with fail
              refine (peek_any E 0 (by omega) A w0 _ s h13).mono ?_
              rintro e v14 ⟨rfl, h14⟩
              go_wp2_with fail
              refine (node_any E 60 (by unfold I64; omega) _ _ A w0 _ s s' (((H n (Nat.le_refl n)).v (.paren) 302 rfl).clo (enters_of Tryz.func302 (by kernel_rfl) rfl) A _) h14 q3).mono ?_
              rintro e v15 ⟨rfl, h15⟩
              go_wp2_with fail
              first | go_end0 | refine bodyPost_ret (results_none rfl _ _ _) rfl ?_
              exact ⟨rfl, h15⟩
            | false =>
              have y3 : ((Lx.bs (pk s.rest 0).2).toList == [40]) = false := by rw [bs_list]; exact e3
              have qf3 := cond_false qf2 (by first | exact e3 | (show _ = _; simp [e3]))
              cases e4 : atB [123] s with
              | true =>
                have y4 : ((Lx.bs (pk s.rest 0).2).toList == [123]) = true := by rw [bs_list]; exact e4
                have q4 := cond_true qf3 (by first | exact e4 | (show _ = _; simp [e4]))
                go_enter Tryz.func274, Tryz.ntmps274
                go_wp2_with fail
                refine (peek_any E 0 (by omega) A w0 _ s h).mono ?_
                rintro e v16 ⟨rfl, h16⟩
                go_wp2_with fail
                refine (peek_any E 0 (by omega) A w0 _ s h16).mono ?_
                rintro e v17 ⟨rfl, h17⟩
                go_wp2_with fail
                refine ((H n (Nat.le_refl n)).v (.block) 219 rfl A w0 _ s s' h17 q4).mono ?_
                rintro e v18 ⟨rfl, h18⟩
                go_wp2_with fail
                first | go_end0 | refine bodyPost_ret (results_none rfl _ _ _) rfl ?_
                exact ⟨rfl, h18⟩
              | false =>
                have y4 : ((Lx.bs (pk s.rest 0).2).toList == [123]) = false := by rw [bs_list]; exact e4
                have qf4 := cond_false qf3 (by first | exact e4 | (show _ = _; simp [e4]))
                cases e5 : atB [105, 102] s with
                | true =>
                  have y5 : ((Lx.bs (pk s.rest 0).2).toList == [105, 102]) = true := by rw [bs_list]; exact e5
                  have q5 := cond_true qf4 (by first | exact e5 | (show _ = _; simp [e5]))
                  go_enter Tryz.func274, Tryz.ntmps274
                  go_wp2_with fail
                  refine (peek_any E 0 (by omega) A w0 _ s h).mono ?_
                  rintro e v19 ⟨rfl, h19⟩
                  go_wp2_with fail
                  refine (peek_any E 0 (by omega) A w0 _ s h19).mono ?_
                  rintro e v20 ⟨rfl, h20⟩
                  go_wp2_with fail
                  refine (node_any E 37 (by unfold I64; omega) _ _ A w0 _ s s' (((H n (Nat.le_refl n)).v (.ifE) 303 rfl).clo (enters_of Tryz.func303 (by kernel_rfl) rfl) A _) h20 q5).mono ?_
                  rintro e v21 ⟨rfl, h21⟩
                  go_wp2_with fail
                  first | go_end0 | refine bodyPost_ret (results_none rfl _ _ _) rfl ?_
                  exact ⟨rfl, h21⟩
                | false =>
                  have y5 : ((Lx.bs (pk s.rest 0).2).toList == [105, 102]) = false := by rw [bs_list]; exact e5
                  have qf5 := cond_false qf4 (by first | exact e5 | (show _ = _; simp [e5]))
                  cases e6 : atB [109, 97, 116, 99, 104] s with
                  | true =>
                    have y6 : ((Lx.bs (pk s.rest 0).2).toList == [109, 97, 116, 99, 104]) = true := by rw [bs_list]; exact e6
                    have q6 := cond_true qf5 (by first | exact e6 | (show _ = _; simp [e6]))
                    go_enter Tryz.func274, Tryz.ntmps274
                    go_wp2_with fail
                    refine (peek_any E 0 (by omega) A w0 _ s h).mono ?_
                    rintro e v22 ⟨rfl, h22⟩
                    go_wp2_with fail
                    refine (peek_any E 0 (by omega) A w0 _ s h22).mono ?_
                    rintro e v23 ⟨rfl, h23⟩
                    go_wp2_with fail
                    refine (node_any E 35 (by unfold I64; omega) _ _ A w0 _ s s' (((H n (Nat.le_refl n)).v (.matchE) 304 rfl).clo (enters_of Tryz.func304 (by kernel_rfl) rfl) A _) h23 q6).mono ?_
                    rintro e v24 ⟨rfl, h24⟩
                    go_wp2_with fail
                    first | go_end0 | refine bodyPost_ret (results_none rfl _ _ _) rfl ?_
                    exact ⟨rfl, h24⟩
                  | false =>
                    have y6 : ((Lx.bs (pk s.rest 0).2).toList == [109, 97, 116, 99, 104]) = false := by rw [bs_list]; exact e6
                    have qf6 := cond_false qf5 (by first | exact e6 | (show _ = _; simp [e6]))
                    cases e7 : atB [110, 101, 119] s with
                    | true =>
                      have y7 : ((Lx.bs (pk s.rest 0).2).toList == [110, 101, 119]) = true := by rw [bs_list]; exact e7
                      have q7 := cond_true qf6 (by first | exact e7 | (show _ = _; simp [e7]))
                      go_enter Tryz.func274, Tryz.ntmps274
                      go_wp2_with fail
                      refine (peek_any E 0 (by omega) A w0 _ s h).mono ?_
                      rintro e v25 ⟨rfl, h25⟩
                      go_wp2_with fail
                      refine (peek_any E 0 (by omega) A w0 _ s h25).mono ?_
                      rintro e v26 ⟨rfl, h26⟩
                      go_wp2_with fail
                      refine (node_any E 33 (by unfold I64; omega) _ _ A w0 _ s s' (((H n (Nat.le_refl n)).v (.structLit) 305 rfl).clo (enters_of Tryz.func305 (by kernel_rfl) rfl) A _) h26 q7).mono ?_
                      rintro e v27 ⟨rfl, h27⟩
                      go_wp2_with fail
                      first | go_end0 | refine bodyPost_ret (results_none rfl _ _ _) rfl ?_
                      exact ⟨rfl, h27⟩
                    | false =>
                      have y7 : ((Lx.bs (pk s.rest 0).2).toList == [110, 101, 119]) = false := by rw [bs_list]; exact e7
                      have qf7 := cond_false qf6 (by first | exact e7 | (show _ = _; simp [e7]))
                      cases e8 : atB [124] s with
                      | true =>
                        have y8 : ((Lx.bs (pk s.rest 0).2).toList == [124]) = true := by rw [bs_list]; exact e8
                        have q8 := cond_true qf7 (by first | exact e8 | (show _ = _; simp [e8]))
                        go_enter Tryz.func274, Tryz.ntmps274
                        go_wp2_with fail
                        refine (peek_any E 0 (by omega) A w0 _ s h).mono ?_
                        rintro e v28 ⟨rfl, h28⟩
                        go_wp2_with fail
                        refine (peek_any E 0 (by omega) A w0 _ s h28).mono ?_
                        rintro e v29 ⟨rfl, h29⟩
                        go_wp2_with fail
                        refine (node_any E 38 (by unfold I64; omega) _ _ A w0 _ s s' (((H n (Nat.le_refl n)).v (.lambda) 306 rfl).clo (enters_of Tryz.func306 (by kernel_rfl) rfl) A _) h29 q8).mono ?_
                        rintro e v30 ⟨rfl, h30⟩
                        go_wp2_with fail
                        first | go_end0 | refine bodyPost_ret (results_none rfl _ _ _) rfl ?_
                        exact ⟨rfl, h30⟩
                      | false =>
                        have y8 : ((Lx.bs (pk s.rest 0).2).toList == [124]) = false := by rw [bs_list]; exact e8
                        cases e9 : atB [124, 124] s with
                        | true =>
                          have y9 : ((Lx.bs (pk s.rest 0).2).toList == [124, 124]) = true := by rw [bs_list]; exact e9
                          have q9 := cond_true qf7 (by first | exact e9 | (show _ = _; simp [e8, e9]))
                          go_enter Tryz.func274, Tryz.ntmps274
                          go_wp2_with fail
                          refine (peek_any E 0 (by omega) A w0 _ s h).mono ?_
                          rintro e v31 ⟨rfl, h31⟩
                          go_wp2_with fail
                          refine (peek_any E 0 (by omega) A w0 _ s h31).mono ?_
                          rintro e v32 ⟨rfl, h32⟩
                          go_wp2_with fail
                          refine (node_any E 38 (by unfold I64; omega) _ _ A w0 _ s s' (((H n (Nat.le_refl n)).v (.lambda) 306 rfl).clo (enters_of Tryz.func306 (by kernel_rfl) rfl) A _) h32 q9).mono ?_
                          rintro e v33 ⟨rfl, h33⟩
                          go_wp2_with fail
                          first | go_end0 | refine bodyPost_ret (results_none rfl _ _ _) rfl ?_
                          exact ⟨rfl, h33⟩
                        | false =>
                          have y9 : ((Lx.bs (pk s.rest 0).2).toList == [124, 124]) = false := by rw [bs_list]; exact e9
                          have qf9 := cond_false qf7 (by first | exact e9 | (show _ = _; simp [e8, e9]))
                          go_enter Tryz.func274, Tryz.ntmps274
                          go_wp2_with fail
                          refine (peek_any E 0 (by omega) A w0 _ s h).mono ?_
                          rintro e v34 ⟨rfl, h34⟩
                          go_wp2_with fail
                          refine (peek_any E 0 (by omega) A w0 _ s h34).mono ?_
                          rintro e v35 ⟨rfl, h35⟩
                          go_wp2_with fail
                          refine (missing_does E A w0 _ s s' h35 qf9).mono ?_
                          rintro e v36 ⟨rfl, h36⟩
                          go_wp2_with fail
                          first | go_end0 | refine bodyPost_ret (results_none rfl _ _ _) rfl ?_
                          exact ⟨rfl, h36⟩
end Go.Proofs.YtcpojagfnpajeaaGreatDoorR.Ps

namespace Go.Proofs.YtcpojagfnpajeaaGreatDoorR.Ps
open Go.RowKit Go.Shelf

set_option maxRecDepth 100000 in
set_option maxHeartbeats 2000000 in
theorem clo146 (E : Env) (n : Nat) (_H : ∀ m, m ≤ n → Specs E m) : DoesC E 321 (seq [take, expName]) := by
  intro A w0 w s s' bp hb h hr
  have c1 := hb.cell h
  have z1 := hb.lt h
  go_enter Tryz.func321, Tryz.ntmps321
  go_wp2_with fail
  obtain ⟨m2, p2, q2⟩ := seq_some hr
  refine (take_does E A w0 _ s m2 h p2).mono ?_
  rintro e v3 ⟨rfl, h3⟩
  clear c1 z1
  have c4 := hb.cell h3
  have z4 := hb.lt h3
  go_wp2_with fail
  obtain ⟨m5, p5, q5⟩ := seq_some q2
  refine (expName_does E A w0 _ m2 m5 h3 p5).mono ?_
  rintro e v6 ⟨rfl, h6⟩
  clear c4 z4
  have c7 := hb.cell h6
  have z7 := hb.lt h6
  go_wp2_with fail
  have g8 : At E A w0 s' _ := (by rw [seq_nil q5]; exact h6)
  first | go_end0 | refine bodyPost_ret (results_none rfl _ _ _) rfl ?_
  exact ⟨rfl, g8⟩

set_option maxRecDepth 100000 in
set_option maxHeartbeats 8000000 in
theorem step131 (E : Env) (n : Nat) (H : ∀ m, m ≤ n → Specs E m) : Does E 300 #[P E] (run (n + 1) .pat) := by
  intro A w0 w s s' h hr
  have hr : (cond (atB [95]) (node 43 take) (cond (atB [109, 117, 116]) (node 44 (seq [take, expName])) (cond (fun s => atName s && ((pk s.rest 1).2 == [40] || (pk s.rest 1).2 == [58, 58])) (node 45 ((run n) .vmatch)) (cond atName (node 44 take) (cond atLit ((run n) .prim) missing))))) s = some s' := hr
  have f1 := run_field1 (pk s.rest 1).1 (Lx.bs (pk s.rest 1).2)
  obtain ⟨w1, A1, hw1, h0, hb, hlt, hback⟩ := box_enter h
  cases e1 : ((pk s.rest 1).2 == [40]) with
  | true =>
    have y1 : ((Lx.bs (pk s.rest 1).2).toList == [40]) = true := by rw [bs_list]; exact e1
    have c1 := hb.cell h0
    have z1 := hb.lt h0
    go_enter Tryz.func300, Tryz.ntmps300
    go_upto_region 1 with fail
    rw [← hw1]
    clear hw1
    go_wp2_with fail
    refine (peek_any E 1 (by omega) A1 w1 _ s h0).mono ?_
    rintro e v2 ⟨rfl, h2⟩
    clear c1 z1
    have c3 := hb.cell h2
    have z3 := hb.lt h2
    go_wp2_with fail
    cases x4 : atB [95] s with
    | true =>
      have q5 := cond_true hr (by first | exact x4 | (show _ = _; simp [x4]))
      refine (at_any E _ [95] rfl A1 w1 _ s true x4 h2).mono ?_
      rintro e v6 ⟨rfl, h6⟩
      clear c3 z3
      have c7 := hb.cell h6
      have z7 := hb.lt h6
      go_wp2_with fail
      refine (node_any E 43 (by unfold I64; omega) _ _ A1 w1 _ s s' ((take_does E).clo (enters_of Tryz.func99 (by kernel_rfl) rfl) A1 _) h6 q5).mono ?_
      rintro e v8 ⟨rfl, h8⟩
      clear c7 z7
      have c9 := hb.cell h8
      have z9 := hb.lt h8
      go_wp2_with fail
      first | go_end0 | refine bodyPost_ret (results_none rfl _ _ _) rfl ?_
      exact ⟨rfl, hback _ _ h8⟩
    | false =>
      refine (at_any E _ [95] rfl A1 w1 _ s false x4 h2).mono ?_
      rintro e v10 ⟨rfl, h10⟩
      clear c3 z3
      have c11 := hb.cell h10
      have z11 := hb.lt h10
      go_wp2_with fail
      have q12 := cond_false hr (by first | exact x4 | (show _ = _; simp [x4]))
      cases x13 : atB [109, 117, 116] s with
      | true =>
        have q14 := cond_true q12 (by first | exact x13 | (show _ = _; simp [x13]))
        refine (at_any E _ [109, 117, 116] rfl A1 w1 _ s true x13 h10).mono ?_
        rintro e v15 ⟨rfl, h15⟩
        clear c11 z11
        have c16 := hb.cell h15
        have z16 := hb.lt h15
        go_wp2_with fail
        refine (node_any E 44 (by unfold I64; omega) _ _ A1 w1 _ s s' ((clo146 E n H).clo (enters_of Tryz.func321 (by kernel_rfl) rfl) hb h15 _ (fun _ _ _ => rfl)) h15 q14).mono ?_
        rintro e v17 ⟨rfl, h17⟩
        clear c16 z16
        have c18 := hb.cell h17
        have z18 := hb.lt h17
        go_wp2_with fail
        first | go_end0 | refine bodyPost_ret (results_none rfl _ _ _) rfl ?_
        exact ⟨rfl, hback _ _ h17⟩
      | false =>
        refine (at_any E _ [109, 117, 116] rfl A1 w1 _ s false x13 h10).mono ?_
        rintro e v19 ⟨rfl, h19⟩
        clear c11 z11
        have c20 := hb.cell h19
        have z20 := hb.lt h19
        go_wp2_with fail
        have q21 := cond_false q12 (by first | exact x13 | (show _ = _; simp [x13]))
        cases x22 : atName s with
        | true =>
          have q23 := cond_true q21 (by show _ = true; simp [x22, e1])
          refine (atName_any E A1 w1 _ s true x22 h19).mono ?_
          rintro e v24 ⟨rfl, h24⟩
          clear c20 z20
          have c25 := hb.cell h24
          have z25 := hb.lt h24
          go_wp2_with fail
          refine (node_any E 45 (by unfold I64; omega) _ _ A1 w1 _ s s' (((H n (Nat.le_refl n)).v (.vmatch) 322 rfl).clo (enters_of Tryz.func322 (by kernel_rfl) rfl) A1 _) h24 q23).mono ?_
          rintro e v26 ⟨rfl, h26⟩
          clear c25 z25
          have c27 := hb.cell h26
          have z27 := hb.lt h26
          go_wp2_with fail
          first | go_end0 | refine bodyPost_ret (results_none rfl _ _ _) rfl ?_
          exact ⟨rfl, hback _ _ h26⟩
        | false =>
          have q28 := cond_false q21 (by show _ = false; simp [x22, e1])
          refine (atName_any E A1 w1 _ s false x22 h19).mono ?_
          rintro e v29 ⟨rfl, h29⟩
          clear c20 z20
          have c30 := hb.cell h29
          have z30 := hb.lt h29
          go_wp2_with fail
          cases x31 : atName s with
          | true =>
            have q32 := cond_true q28 (by first | exact x31 | (show _ = _; simp [x31]))
            refine (atName_any E A1 w1 _ s true x31 h29).mono ?_
            rintro e v33 ⟨rfl, h33⟩
            clear c30 z30
            have c34 := hb.cell h33
            have z34 := hb.lt h33
            go_wp2_with fail
            refine (node_any E 44 (by unfold I64; omega) _ _ A1 w1 _ s s' ((take_does E).clo (enters_of Tryz.func99 (by kernel_rfl) rfl) A1 _) h33 q32).mono ?_
            rintro e v35 ⟨rfl, h35⟩
            clear c34 z34
            have c36 := hb.cell h35
            have z36 := hb.lt h35
            go_wp2_with fail
            first | go_end0 | refine bodyPost_ret (results_none rfl _ _ _) rfl ?_
            exact ⟨rfl, hback _ _ h35⟩
          | false =>
            refine (atName_any E A1 w1 _ s false x31 h29).mono ?_
            rintro e v37 ⟨rfl, h37⟩
            clear c30 z30
            have c38 := hb.cell h37
            have z38 := hb.lt h37
            go_wp2_with fail
            have q39 := cond_false q28 (by first | exact x31 | (show _ = _; simp [x31]))
            cases x40 : atLit s with
            | true =>
              have q41 := cond_true q39 (by first | exact x40 | (show _ = _; simp [x40]))
              refine (atLit_any E A1 w1 _ s true x40 h37).mono ?_
              rintro e v42 ⟨rfl, h42⟩
              clear c38 z38
              have c43 := hb.cell h42
              have z43 := hb.lt h42
              go_wp2_with fail
              refine ((H n (Nat.le_refl n)).v (.prim) 274 rfl A1 w1 _ s s' h42 q41).mono ?_
              rintro e v44 ⟨rfl, h44⟩
              clear c43 z43
              have c45 := hb.cell h44
              have z45 := hb.lt h44
              go_wp2_with fail
              first | go_end0 | refine bodyPost_ret (results_none rfl _ _ _) rfl ?_
              exact ⟨rfl, hback _ _ h44⟩
            | false =>
              refine (atLit_any E A1 w1 _ s false x40 h37).mono ?_
              rintro e v46 ⟨rfl, h46⟩
              clear c38 z38
              have c47 := hb.cell h46
              have z47 := hb.lt h46
              go_wp2_with fail
              have q48 := cond_false q39 (by first | exact x40 | (show _ = _; simp [x40]))
              refine (missing_does E A1 w1 _ s s' h46 q48).mono ?_
              rintro e v49 ⟨rfl, h49⟩
              clear c47 z47
              have c50 := hb.cell h49
              have z50 := hb.lt h49
              go_wp2_with fail
              first | go_end0 | refine bodyPost_ret (results_none rfl _ _ _) rfl ?_
              exact ⟨rfl, hback _ _ h49⟩
  | false =>
    have y1 : ((Lx.bs (pk s.rest 1).2).toList == [40]) = false := by rw [bs_list]; exact e1
    cases e2 : ((pk s.rest 1).2 == [58, 58]) with
    | true =>
      have y2 : ((Lx.bs (pk s.rest 1).2).toList == [58, 58]) = true := by rw [bs_list]; exact e2
      have c51 := hb.cell h0
      have z51 := hb.lt h0
      go_enter Tryz.func300, Tryz.ntmps300
      go_upto_region 1 with fail
      rw [← hw1]
      clear hw1
      go_wp2_with fail
      refine (peek_any E 1 (by omega) A1 w1 _ s h0).mono ?_
      rintro e v52 ⟨rfl, h52⟩
      clear c51 z51
      have c53 := hb.cell h52
      have z53 := hb.lt h52
      go_wp2_with fail
      cases x54 : atB [95] s with
      | true =>
        have q55 := cond_true hr (by first | exact x54 | (show _ = _; simp [x54]))
        refine (at_any E _ [95] rfl A1 w1 _ s true x54 h52).mono ?_
        rintro e v56 ⟨rfl, h56⟩
        clear c53 z53
        have c57 := hb.cell h56
        have z57 := hb.lt h56
        go_wp2_with fail
        refine (node_any E 43 (by unfold I64; omega) _ _ A1 w1 _ s s' ((take_does E).clo (enters_of Tryz.func99 (by kernel_rfl) rfl) A1 _) h56 q55).mono ?_
        rintro e v58 ⟨rfl, h58⟩
        clear c57 z57
        have c59 := hb.cell h58
        have z59 := hb.lt h58
        go_wp2_with fail
        first | go_end0 | refine bodyPost_ret (results_none rfl _ _ _) rfl ?_
        exact ⟨rfl, hback _ _ h58⟩
      | false =>
        refine (at_any E _ [95] rfl A1 w1 _ s false x54 h52).mono ?_
        rintro e v60 ⟨rfl, h60⟩
        clear c53 z53
        have c61 := hb.cell h60
        have z61 := hb.lt h60
        go_wp2_with fail
        have q62 := cond_false hr (by first | exact x54 | (show _ = _; simp [x54]))
        cases x63 : atB [109, 117, 116] s with
        | true =>
          have q64 := cond_true q62 (by first | exact x63 | (show _ = _; simp [x63]))
          refine (at_any E _ [109, 117, 116] rfl A1 w1 _ s true x63 h60).mono ?_
          rintro e v65 ⟨rfl, h65⟩
          clear c61 z61
          have c66 := hb.cell h65
          have z66 := hb.lt h65
          go_wp2_with fail
          refine (node_any E 44 (by unfold I64; omega) _ _ A1 w1 _ s s' ((clo146 E n H).clo (enters_of Tryz.func321 (by kernel_rfl) rfl) hb h65 _ (fun _ _ _ => rfl)) h65 q64).mono ?_
          rintro e v67 ⟨rfl, h67⟩
          clear c66 z66
          have c68 := hb.cell h67
          have z68 := hb.lt h67
          go_wp2_with fail
          first | go_end0 | refine bodyPost_ret (results_none rfl _ _ _) rfl ?_
          exact ⟨rfl, hback _ _ h67⟩
        | false =>
          refine (at_any E _ [109, 117, 116] rfl A1 w1 _ s false x63 h60).mono ?_
          rintro e v69 ⟨rfl, h69⟩
          clear c61 z61
          have c70 := hb.cell h69
          have z70 := hb.lt h69
          go_wp2_with fail
          have q71 := cond_false q62 (by first | exact x63 | (show _ = _; simp [x63]))
          cases x72 : atName s with
          | true =>
            have q73 := cond_true q71 (by show _ = true; simp [x72, e1, e2])
            refine (atName_any E A1 w1 _ s true x72 h69).mono ?_
            rintro e v74 ⟨rfl, h74⟩
            clear c70 z70
            have c75 := hb.cell h74
            have z75 := hb.lt h74
            go_wp2_with fail
            refine (node_any E 45 (by unfold I64; omega) _ _ A1 w1 _ s s' (((H n (Nat.le_refl n)).v (.vmatch) 322 rfl).clo (enters_of Tryz.func322 (by kernel_rfl) rfl) A1 _) h74 q73).mono ?_
            rintro e v76 ⟨rfl, h76⟩
            clear c75 z75
            have c77 := hb.cell h76
            have z77 := hb.lt h76
            go_wp2_with fail
            first | go_end0 | refine bodyPost_ret (results_none rfl _ _ _) rfl ?_
            exact ⟨rfl, hback _ _ h76⟩
          | false =>
            have q78 := cond_false q71 (by show _ = false; simp [x72, e1, e2])
            refine (atName_any E A1 w1 _ s false x72 h69).mono ?_
            rintro e v79 ⟨rfl, h79⟩
            clear c70 z70
            have c80 := hb.cell h79
            have z80 := hb.lt h79
            go_wp2_with fail
            cases x81 : atName s with
            | true =>
              have q82 := cond_true q78 (by first | exact x81 | (show _ = _; simp [x81]))
              refine (atName_any E A1 w1 _ s true x81 h79).mono ?_
              rintro e v83 ⟨rfl, h83⟩
              clear c80 z80
              have c84 := hb.cell h83
              have z84 := hb.lt h83
              go_wp2_with fail
              refine (node_any E 44 (by unfold I64; omega) _ _ A1 w1 _ s s' ((take_does E).clo (enters_of Tryz.func99 (by kernel_rfl) rfl) A1 _) h83 q82).mono ?_
              rintro e v85 ⟨rfl, h85⟩
              clear c84 z84
              have c86 := hb.cell h85
              have z86 := hb.lt h85
              go_wp2_with fail
              first | go_end0 | refine bodyPost_ret (results_none rfl _ _ _) rfl ?_
              exact ⟨rfl, hback _ _ h85⟩
            | false =>
              refine (atName_any E A1 w1 _ s false x81 h79).mono ?_
              rintro e v87 ⟨rfl, h87⟩
              clear c80 z80
              have c88 := hb.cell h87
              have z88 := hb.lt h87
              go_wp2_with fail
              have q89 := cond_false q78 (by first | exact x81 | (show _ = _; simp [x81]))
              cases x90 : atLit s with
              | true =>
                have q91 := cond_true q89 (by first | exact x90 | (show _ = _; simp [x90]))
                refine (atLit_any E A1 w1 _ s true x90 h87).mono ?_
                rintro e v92 ⟨rfl, h92⟩
                clear c88 z88
                have c93 := hb.cell h92
                have z93 := hb.lt h92
                go_wp2_with fail
                refine ((H n (Nat.le_refl n)).v (.prim) 274 rfl A1 w1 _ s s' h92 q91).mono ?_
                rintro e v94 ⟨rfl, h94⟩
                clear c93 z93
                have c95 := hb.cell h94
                have z95 := hb.lt h94
                go_wp2_with fail
                first | go_end0 | refine bodyPost_ret (results_none rfl _ _ _) rfl ?_
                exact ⟨rfl, hback _ _ h94⟩
              | false =>
                refine (atLit_any E A1 w1 _ s false x90 h87).mono ?_
                rintro e v96 ⟨rfl, h96⟩
                clear c88 z88
                have c97 := hb.cell h96
                have z97 := hb.lt h96
                go_wp2_with fail
                have q98 := cond_false q89 (by first | exact x90 | (show _ = _; simp [x90]))
                refine (missing_does E A1 w1 _ s s' h96 q98).mono ?_
                rintro e v99 ⟨rfl, h99⟩
                clear c97 z97
                have c100 := hb.cell h99
                have z100 := hb.lt h99
                go_wp2_with fail
                first | go_end0 | refine bodyPost_ret (results_none rfl _ _ _) rfl ?_
                exact ⟨rfl, hback _ _ h99⟩
    | false =>
      have y2 : ((Lx.bs (pk s.rest 1).2).toList == [58, 58]) = false := by rw [bs_list]; exact e2
      have c101 := hb.cell h0
      have z101 := hb.lt h0
      go_enter Tryz.func300, Tryz.ntmps300
      go_upto_region 1 with fail
      rw [← hw1]
      clear hw1
      go_wp2_with fail
      refine (peek_any E 1 (by omega) A1 w1 _ s h0).mono ?_
      rintro e v102 ⟨rfl, h102⟩
      clear c101 z101
      have c103 := hb.cell h102
      have z103 := hb.lt h102
      go_wp2_with fail
      cases x104 : atB [95] s with
      | true =>
        have q105 := cond_true hr (by first | exact x104 | (show _ = _; simp [x104]))
        refine (at_any E _ [95] rfl A1 w1 _ s true x104 h102).mono ?_
        rintro e v106 ⟨rfl, h106⟩
        clear c103 z103
        have c107 := hb.cell h106
        have z107 := hb.lt h106
        go_wp2_with fail
        refine (node_any E 43 (by unfold I64; omega) _ _ A1 w1 _ s s' ((take_does E).clo (enters_of Tryz.func99 (by kernel_rfl) rfl) A1 _) h106 q105).mono ?_
        rintro e v108 ⟨rfl, h108⟩
        clear c107 z107
        have c109 := hb.cell h108
        have z109 := hb.lt h108
        go_wp2_with fail
        first | go_end0 | refine bodyPost_ret (results_none rfl _ _ _) rfl ?_
        exact ⟨rfl, hback _ _ h108⟩
      | false =>
        refine (at_any E _ [95] rfl A1 w1 _ s false x104 h102).mono ?_
        rintro e v110 ⟨rfl, h110⟩
        clear c103 z103
        have c111 := hb.cell h110
        have z111 := hb.lt h110
        go_wp2_with fail
        have q112 := cond_false hr (by first | exact x104 | (show _ = _; simp [x104]))
        cases x113 : atB [109, 117, 116] s with
        | true =>
          have q114 := cond_true q112 (by first | exact x113 | (show _ = _; simp [x113]))
          refine (at_any E _ [109, 117, 116] rfl A1 w1 _ s true x113 h110).mono ?_
          rintro e v115 ⟨rfl, h115⟩
          clear c111 z111
          have c116 := hb.cell h115
          have z116 := hb.lt h115
          go_wp2_with fail
          refine (node_any E 44 (by unfold I64; omega) _ _ A1 w1 _ s s' ((clo146 E n H).clo (enters_of Tryz.func321 (by kernel_rfl) rfl) hb h115 _ (fun _ _ _ => rfl)) h115 q114).mono ?_
          rintro e v117 ⟨rfl, h117⟩
          clear c116 z116
          have c118 := hb.cell h117
          have z118 := hb.lt h117
          go_wp2_with fail
          first | go_end0 | refine bodyPost_ret (results_none rfl _ _ _) rfl ?_
          exact ⟨rfl, hback _ _ h117⟩
        | false =>
          refine (at_any E _ [109, 117, 116] rfl A1 w1 _ s false x113 h110).mono ?_
          rintro e v119 ⟨rfl, h119⟩
          clear c111 z111
          have c120 := hb.cell h119
          have z120 := hb.lt h119
          go_wp2_with fail
          have q121 := cond_false q112 (by first | exact x113 | (show _ = _; simp [x113]))
          cases x122 : atName s with
          | true =>
            have q123 := cond_false q121 (by show _ = false; simp [x122, e1, e2])
            refine (atName_any E A1 w1 _ s true x122 h119).mono ?_
            rintro e v124 ⟨rfl, h124⟩
            clear c120 z120
            have c125 := hb.cell h124
            have z125 := hb.lt h124
            go_wp2_with fail
            cases x126 : atName s with
            | true =>
              have q127 := cond_true q123 (by first | exact x126 | (show _ = _; simp [x126]))
              refine (atName_any E A1 w1 _ s true x126 h124).mono ?_
              rintro e v128 ⟨rfl, h128⟩
              clear c125 z125
              have c129 := hb.cell h128
              have z129 := hb.lt h128
              go_wp2_with fail
              refine (node_any E 44 (by unfold I64; omega) _ _ A1 w1 _ s s' ((take_does E).clo (enters_of Tryz.func99 (by kernel_rfl) rfl) A1 _) h128 q127).mono ?_
              rintro e v130 ⟨rfl, h130⟩
              clear c129 z129
              have c131 := hb.cell h130
              have z131 := hb.lt h130
              go_wp2_with fail
              first | go_end0 | refine bodyPost_ret (results_none rfl _ _ _) rfl ?_
              exact ⟨rfl, hback _ _ h130⟩
            | false =>
              refine (atName_any E A1 w1 _ s false x126 h124).mono ?_
              rintro e v132 ⟨rfl, h132⟩
              clear c125 z125
              have c133 := hb.cell h132
              have z133 := hb.lt h132
              go_wp2_with fail
              have q134 := cond_false q123 (by first | exact x126 | (show _ = _; simp [x126]))
              cases x135 : atLit s with
              | true =>
                have q136 := cond_true q134 (by first | exact x135 | (show _ = _; simp [x135]))
                refine (atLit_any E A1 w1 _ s true x135 h132).mono ?_
                rintro e v137 ⟨rfl, h137⟩
                clear c133 z133
                have c138 := hb.cell h137
                have z138 := hb.lt h137
                go_wp2_with fail
                refine ((H n (Nat.le_refl n)).v (.prim) 274 rfl A1 w1 _ s s' h137 q136).mono ?_
                rintro e v139 ⟨rfl, h139⟩
                clear c138 z138
                have c140 := hb.cell h139
                have z140 := hb.lt h139
                go_wp2_with fail
                first | go_end0 | refine bodyPost_ret (results_none rfl _ _ _) rfl ?_
                exact ⟨rfl, hback _ _ h139⟩
              | false =>
                refine (atLit_any E A1 w1 _ s false x135 h132).mono ?_
                rintro e v141 ⟨rfl, h141⟩
                clear c133 z133
                have c142 := hb.cell h141
                have z142 := hb.lt h141
                go_wp2_with fail
                have q143 := cond_false q134 (by first | exact x135 | (show _ = _; simp [x135]))
                refine (missing_does E A1 w1 _ s s' h141 q143).mono ?_
                rintro e v144 ⟨rfl, h144⟩
                clear c142 z142
                have c145 := hb.cell h144
                have z145 := hb.lt h144
                go_wp2_with fail
                first | go_end0 | refine bodyPost_ret (results_none rfl _ _ _) rfl ?_
                exact ⟨rfl, hback _ _ h144⟩
          | false =>
            have q146 := cond_false q121 (by show _ = false; simp [x122, e1, e2])
            refine (atName_any E A1 w1 _ s false x122 h119).mono ?_
            rintro e v147 ⟨rfl, h147⟩
            clear c120 z120
            have c148 := hb.cell h147
            have z148 := hb.lt h147
            go_wp2_with fail
            cases x149 : atName s with
            | true =>
              have q150 := cond_true q146 (by first | exact x149 | (show _ = _; simp [x149]))
              refine (atName_any E A1 w1 _ s true x149 h147).mono ?_
              rintro e v151 ⟨rfl, h151⟩
              clear c148 z148
              have c152 := hb.cell h151
              have z152 := hb.lt h151
              go_wp2_with fail
              refine (node_any E 44 (by unfold I64; omega) _ _ A1 w1 _ s s' ((take_does E).clo (enters_of Tryz.func99 (by kernel_rfl) rfl) A1 _) h151 q150).mono ?_
              rintro e v153 ⟨rfl, h153⟩
              clear c152 z152
              have c154 := hb.cell h153
              have z154 := hb.lt h153
              go_wp2_with fail
              first | go_end0 | refine bodyPost_ret (results_none rfl _ _ _) rfl ?_
              exact ⟨rfl, hback _ _ h153⟩
            | false =>
              refine (atName_any E A1 w1 _ s false x149 h147).mono ?_
              rintro e v155 ⟨rfl, h155⟩
              clear c148 z148
              have c156 := hb.cell h155
              have z156 := hb.lt h155
              go_wp2_with fail
              have q157 := cond_false q146 (by first | exact x149 | (show _ = _; simp [x149]))
              cases x158 : atLit s with
              | true =>
                have q159 := cond_true q157 (by first | exact x158 | (show _ = _; simp [x158]))
                refine (atLit_any E A1 w1 _ s true x158 h155).mono ?_
                rintro e v160 ⟨rfl, h160⟩
                clear c156 z156
                have c161 := hb.cell h160
                have z161 := hb.lt h160
                go_wp2_with fail
                refine ((H n (Nat.le_refl n)).v (.prim) 274 rfl A1 w1 _ s s' h160 q159).mono ?_
                rintro e v162 ⟨rfl, h162⟩
                clear c161 z161
                have c163 := hb.cell h162
                have z163 := hb.lt h162
                go_wp2_with fail
                first | go_end0 | refine bodyPost_ret (results_none rfl _ _ _) rfl ?_
                exact ⟨rfl, hback _ _ h162⟩
              | false =>
                refine (atLit_any E A1 w1 _ s false x158 h155).mono ?_
                rintro e v164 ⟨rfl, h164⟩
                clear c156 z156
                have c165 := hb.cell h164
                have z165 := hb.lt h164
                go_wp2_with fail
                have q166 := cond_false q157 (by first | exact x158 | (show _ = _; simp [x158]))
                refine (missing_does E A1 w1 _ s s' h164 q166).mono ?_
                rintro e v167 ⟨rfl, h167⟩
                clear c165 z165
                have c168 := hb.cell h167
                have z168 := hb.lt h167
                go_wp2_with fail
                first | go_end0 | refine bodyPost_ret (results_none rfl _ _ _) rfl ?_
                exact ⟨rfl, hback _ _ h167⟩
end Go.Proofs.YtcpojagfnpajeaaGreatDoorR.Ps

namespace Go.Proofs.YtcpojagfnpajeaaGreatDoorR.Ps
open Go.RowKit Go.Shelf

theorem op_does (E : Env) (n : Nat) (H : Specs E n) (k : Nat) : Does E 262 #[P E, .int .i64 ((k : Int) + 1)] (run n (.oper (k + 1))) := H.v (.oper (k + 1)) 262 rfl

set_option maxRecDepth 100000 in
set_option maxHeartbeats 2000000 in
theorem clo126 (E : Env) (n : Nat) (H : ∀ m, m ≤ n → Specs E m) (k : Nat) (hk : k ≤ 5) (bp bq : Nat) (A : Ho) (w0 w : World) (s s' : S) (hb : BoxAt E A w0 bp) (hq : BoxV A w0 bq (.int .i64 k) 3) (h : At E A w0 s w) (hr : (seq [take, run n (.oper (k + 1))]) s = some s') : Calls Tryz.prog 286 #[.pointer (some ⟨bp, 0, none⟩), .pointer (some ⟨bq, 0, none⟩)] w fun e w' => e = .returned (.tuple #[]) ∧ At E A w0 s' w' := by
  have hw1 : IntKind.i64.wrap ((k : Int) + 1) = (k : Int) + 1 := IntWalk.i64_in _ (by omega)
  have c1 := hb.cell h
  have z1 := hb.lt h
  have d1 := hq.cell h
  have y1 := hq.lt h
  go_enter Tryz.func286, Tryz.ntmps286
  go_wp2_with fail
  obtain ⟨m2, p2, q2⟩ := seq_some hr
  refine (take_does E A w0 _ s m2 h p2).mono ?_
  rintro e v3 ⟨rfl, h3⟩
  clear c1 d1 z1 y1
  have c4 := hb.cell h3
  have z4 := hb.lt h3
  have d4 := hq.cell h3
  have y4 := hq.lt h3
  go_wp2_with fail
  obtain ⟨m5, p5, q5⟩ := seq_some q2
  refine (op_does E n (H n (Nat.le_refl n)) k A w0 _ m2 m5 h3 p5).mono ?_
  rintro e v6 ⟨rfl, h6⟩
  clear c4 d4 z4 y4
  have c7 := hb.cell h6
  have z7 := hb.lt h6
  have d7 := hq.cell h6
  have y7 := hq.lt h6
  go_wp2_with fail
  have g8 : At E A w0 s' _ := (by rw [seq_nil q5]; exact h6)
  first | go_end0 | refine bodyPost_ret (results_none rfl _ _ _) rfl ?_
  exact ⟨rfl, g8⟩

set_option maxRecDepth 100000 in
set_option maxHeartbeats 8000000 in
theorem step106 (E : Env) (n : Nat) (H : ∀ m, m ≤ n → Specs E m) (k : Nat) : Does E 262 #[P E, .int .i64 k] (run (n + 1) (.oper k)) := by
  intro A w0 w s s' h hr
  have hr : (if 5 < k then run n .unary else seq [run n (.oper (k + 1)), run n (.operLoop k)]) s = some s' := hr
  obtain ⟨w1, A1, hw1, h0, hb, hq, hback⟩ := box2_enter h (.int .i64 k) 3
  have c0 := hb.cell h0
  have z0 := hb.lt h0
  have d0 := hq.cell h0
  have y0 := hq.lt h0
  by_cases hk : 5 < k
  · rw [if_pos hk] at hr
    have hk1 : (5 : Int) < (k : Int) := by omega
    go_enter Tryz.func262, Tryz.ntmps262
    go_upto_region 1 with fail
    rw [← hw1]
    clear hw1
    go_wp2_with fail
    refine ((H n (Nat.le_refl n)).v .unary 284 rfl A1 w1 _ s s' h0 hr).mono ?_
    rintro e v1 ⟨rfl, h1⟩
    go_wp2_with fail
    first | go_end0 | refine bodyPost_ret (results_none rfl _ _ _) rfl ?_
    exact ⟨rfl, hback _ _ h1⟩
  · rw [if_neg hk] at hr
    have hk1 : (k : Int) ≤ (5 : Int) := by omega
    have hw2 : IntKind.i64.wrap ((k : Int) + 1) = (k : Int) + 1 := IntWalk.i64_in _ (by omega)
    obtain ⟨m1, p1, q1⟩ := seq_some hr
    obtain ⟨m2, p2, q2⟩ := seq_some q1
    rw [← seq_nil q2] at p2
    go_enter Tryz.func262, Tryz.ntmps262
    go_upto_region 1 with fail
    rw [← hw1]
    clear hw1
    go_wp2_with fail
    refine (op_does E n (H n (Nat.le_refl n)) k A1 w1 _ s m1 h0 p1).mono ?_
    rintro e v1 ⟨rfl, h1⟩
    clear c0 z0 d0 y0
    go_wp2_with fail
    go_loopg [] (n) (fun j wr => ∃ s1, Hid (j ≤ n ∧ run j (.operLoop k) s1 = some s') ∧ Hid (At E A1 w1 s1 wr))
    case atStart => exact ⟨m1, ⟨Nat.le_refl _, p2⟩, h1⟩
    case round =>
      obtain ⟨a, kq, ha⟩ := hrel
      have ha := ha.out
      cases gk with
      | zero => exact absurd kq.out.2 (by simp [run])
      | succ j =>
        have le : j ≤ n := by have := kq.out.1; omega
        have r : (cond (fun s => prec (pk s.rest 0).2 == k) (seq [wrap 39 (seq [take, run j (.oper (k + 1))]), if k = 3 then some else run j (.operLoop k)]) some) a = some s' := kq.out.2
        have c1 := hb.cell ha
        have z1 := hb.lt ha
        have d1 := hq.cell ha
        have y1 := hq.lt ha
        have HS := Lib.hid (fun (W : World) (hW : At E A1 w1 a W) => And.intro (hb.cell hW) (hq.cell hW))
        have HSd : Hid (wr.drew.cell? ⟨w.heap.size, 0, none⟩ = some (P E) ∧ wr.drew.cell? ⟨w.heap.size + 1, 0, none⟩ = some (.int .i64 k)) := ⟨c1, d1⟩
        have c1d := HSd.out.1
        have d1d := HSd.out.2
        go_upto_region 4 with fail
        go_region_held3 (fun W => W.cell? ⟨w.heap.size, 0, none⟩ = some (P E) ∧ W.cell? ⟨w.heap.size + 1, 0, none⟩ = some (.int .i64 k)) (first | exact HSd.out | exact HS.out _ (by assumption) | go_keep)
          (first
            | (go_at_call 154; refine (peek_any E 0 (by omega) A1 w1 _ a ha.drew).mono ?_; rintro e v2 ⟨rfl, h2⟩)
            | (go_at_call 285; refine (prec_any E A1 w1 _ a (pk a.rest 0) _ rfl h2).mono ?_; rintro e v3 ⟨rfl, h3⟩))
        cases hp : (prec (pk a.rest 0).2 == k) with
        | true =>
          have hpi : (((prec (pk a.rest 0).2 : Nat) : Int) == (k : Int)) = true := by have := eq_of_beq hp; rw [this]; simp
          have q3 := cond_true r hp
          obtain ⟨m3, p3, q4⟩ := seq_some q3
          obtain ⟨m4, p4, q5⟩ := seq_some q4
          rw [← seq_nil q5] at p4
          have c2 := hb.cell h3
          have z2 := hb.lt h3
          have d2 := hq.cell h3
          have y2 := hq.lt h3
          clear c1 z1 d1 y1 HSd c1d d1d
          go_wp2_with fail
          refine (wrap_any E 39 (by unfold I64; omega) _ _ A1 w1 _ a m3 (fun v hv => clo2 (clo126 E j (fun m hm => H m (Nat.le_trans hm le)) k (by omega) w.heap.size (w.heap.size + 1)) (enters_of Tryz.func286 (by kernel_rfl) rfl) hb hq h3 v hv) h3 p3).mono ?_
          rintro e v4 ⟨rfl, h4⟩
          have c3 := hb.cell h4
          have z3 := hb.lt h4
          have d3 := hq.cell h4
          have y3 := hq.lt h4
          clear c2 z2 d2 y2
          by_cases hk3 : k = 3
          · rw [if_pos hk3] at p4
            have hki : (k : Int) = 3 := by omega
            have e4 : At E A1 w1 s' v4 := by rw [some_eq p4]; exact h4
            have hkb : ((k : Int) == 3) = true := by rw [hki]; rfl
            clear hki hk3
            go_wp2_with fail
            first | go_end0 | refine bodyPost_ret (results_none rfl _ _ _) rfl ?_
            exact ⟨rfl, hback _ _ e4⟩
          · rw [if_neg hk3] at p4
            have hkb : ((k : Int) == 3) = false := by simp; omega
            clear hk3
            go_wp2_with fail
            go_roundg j
            case measure => exact Nat.lt_succ_self j
            case rel => exact ⟨m3, ⟨le, p4⟩, h4⟩
        | false =>
          have hpi : (((prec (pk a.rest 0).2 : Nat) : Int) == (k : Int)) = false := by
            rw [beq_eq_false_iff_ne] at hp ⊢
            omega
          have e4 : At E A1 w1 s' v3 := by rw [some_eq (cond_false r hp)]; exact h3
          go_wp2_with fail
          first | go_end0 | refine bodyPost_ret (results_none rfl _ _ _) rfl ?_
          exact ⟨rfl, hback _ _ e4⟩
end Go.Proofs.YtcpojagfnpajeaaGreatDoorR.Ps
