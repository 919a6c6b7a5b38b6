/-
  Apart from white space, no token spans several lines: LexerLines's walk, for every two sources.
-/
import Derived.Test.YtjakmigkipcomaaEx
import Derived.Test.YtjakmigkipcomaaSig
namespace Go.Proofs.Ytjakmigkipcomaa.lawLines
open Go.RowKit

theorem add_line (a b : ByteArray) (ha : a.size ≤ 900) (hb : b.size ≤ 900) :
    (∀ W, (Op.stringOp .add a ⟨#[10]⟩).run Try.prog W = .ok (.string (a ++ ⟨#[10]⟩)) W) ∧ (∀ W, (Op.stringOp .add (a ++ ⟨#[10]⟩) b).run Try.prog W = .ok (.string (a ++ ⟨#[10]⟩ ++ b)) W) := by
  have h1 : (⟨#[10]⟩ : ByteArray).size = 1 := rfl
  refine ⟨fun W => run_string_add W _ _ (by omega) (by omega), fun W => run_string_add W _ _ (by rw [ByteArray.size_append]; omega) (by omega)⟩

theorem line_L (a b : ByteArray) : L (a ++ ⟨#[10]⟩ ++ b) = L a ++ 10 :: L b := by
  rw [L_append, L_append]
  simp [L]

theorem line_size (a b : ByteArray) (ha : a.size ≤ 900) (hb : b.size ≤ 900) : (a ++ ⟨#[10]⟩ ++ b).size ≤ 2000 := by
  have h1 : (⟨#[10]⟩ : ByteArray).size = 1 := rfl
  rw [ByteArray.size_append, ByteArray.size_append]; omega

theorem equal_any (l : List Tk) (v1 v2 : Value) (w : World) (B1 B2 : Nat) (hl : l.length ≤ 1000000) (h1 : OwnsT w B1 v1 l) (h2 : OwnsT w B2 v2 l) :
    Calls Try.prog 11 #[v1, v2] w fun e w' => e = .returned (.bool true) ∧ Below w.heap.size w w' := by
  obtain ⟨a1, c1, rfl, _, t1, _⟩ := h1.tks
  obtain ⟨a2, c2, rfl, _, t2, _⟩ := h2.tks
  exact equal_toks l a1 c1 a2 c2 w hl t1 t2

theorem sigs_any (l : List Tk) (v : Value) (w : World) (B : Nat) (hl : l.length ≤ 100000) (h : OwnsT w B v l) :
    Calls Try.prog 19 #[v] w fun e w' => ∃ v', e = .returned v' ∧ Hid (OwnsT w' w.heap.size v' (sig l)) ∧ Below w.heap.size w w' := by
  obtain ⟨a, c, rfl, _, t, _⟩ := h.tks
  exact sig_any l a c w hl t

theorem len_T (s : ByteArray) (h : s.size ≤ 2000) : (T (L s)).length ≤ 2000 := by
  have := T_length _ (L s) (Nat.le_refl _)
  rw [L_len] at this; omega

set_option maxHeartbeats 4000000 in
set_option maxRecDepth 100000 in
theorem walk (s t : ByteArray) (w : World) (hs : s.size ≤ maxLen) (ht : t.size ≤ maxLen) : Calls Try.prog 6 #[.string s, .string t] w fun e w' => e = .returned (.bool true) ∧ Below w.heap.size w w' := by
  obtain ⟨i0, hi, hz0, hz1, hz2⟩ := info_parts info_tok
  have KA := Lib.hid (fun W => short_any s 900 W hs (by omega))
  have KB := Lib.hid (fun W => short_any t 900 W ht (by omega))
  have sa := cut_size 900 s
  have sb := cut_size 900 t
  generalize cut 900 s = a at *
  generalize cut 900 t = b at *
  obtain ⟨ad1, ad2⟩ := add_line a b sa sb
  have K8a := Lib.hid (fun W => tokenize_any a W (by omega))
  have K8b := Lib.hid (fun W => tokenize_any b W (by omega))
  have K8c := Lib.hid (fun W => tokenize_any (a ++ ⟨#[10]⟩ ++ b) W (line_size a b sa sb))
  have l1 := len_T a (by omega)
  have l2 := len_T b (by omega)
  have l3 := len_T _ (line_size a b sa sb)
  have HS : Hid (sig (T (L (a ++ ⟨#[10]⟩ ++ b))) = sig (T (L a)) ++ sig (T (L b))) := by show _ = _; rw [line_L]; exact T_lines (L b) _ (L a) (Nat.le_refl _)
  unfold Toks at K8a K8b K8c
  generalize T (L a) = la at *
  generalize T (L b) = lb at *
  generalize T (L (a ++ ⟨#[10]⟩ ++ b)) = lc at *
  clear hs ht sa sb
  go_enter Try.func6, Try.ntmps6
  go_wp2_with fail
  refine (ex_keep w).mono ?_
  rintro e w1 ⟨rfl, B1⟩
  go_wp2_with fail
  refine (KA.out w1).mono ?_
  rintro e w2 ⟨rfl, rfl⟩
  go_wp2_with fail
  refine (KB.out _).mono ?_
  rintro e w3 ⟨rfl, rfl⟩
  clear KA KB
  go_wp2_with fail
  refine (K8a.out _).mono ?_
  rintro e w4 ⟨va, rfl, oa4, hb4⟩
  have B4 := B1.trans (hb4.mono B1.size)
  clear B1 hb4 K8a
  go_wp2_with fail
  refine (K8b.out w4).mono ?_
  rintro e w5 ⟨vb, rfl, ob5, hb5⟩
  have B5 := B4.trans (hb5.mono B4.size)
  have oa5 := Lib.hid (ownsT_below oa4.out hb5)
  clear B4 hb5 K8b oa4
  go_wp2_with fail
  refine (K8c.out w5).mono ?_
  rintro e w6 ⟨vc, rfl, oc6, hb6⟩
  have B6 := B5.trans (hb6.mono B5.size)
  have HLc := Lib.hid (fun j hj => (oc6.out.lt j hj).2)
  have HBs := Lib.hid B6.size
  have oa6 := Lib.hid (ownsT_below oa5.out hb6)
  have ob6 := Lib.hid (ownsT_below ob5.out hb6)
  clear B5 hb6 K8c oa5 ob5 ad1 ad2
  have KS := Lib.hid (sigs_any la va w6 _ (by omega) oa6.out)
  clear oa6
  go_wp2_with fail
  refine KS.out.mono ?_
  rintro e w7 ⟨sa, rfl, sa7, hb7⟩
  have B7 := B6.trans (hb7.mono B6.size)
  have hz67 := hb7.size
  have ob7 := Lib.hid (ownsT_below ob6.out hb7)
  have oc7 := Lib.hid (ownsT_below oc6.out hb7)
  clear B6 hb7 KS ob6 oc6
  have KS := Lib.hid (sigs_any lb vb w7 _ (by omega) ob7.out)
  clear ob7
  go_wp2_with fail
  refine KS.out.mono ?_
  rintro e w8 ⟨sb, rfl, sb8, hb8⟩
  have B8 := B7.trans (hb8.mono B7.size)
  have hb68 : w6.heap.size ≤ w8.heap.size := Nat.le_trans hz67 hb8.size
  have sa8 := Lib.hid (ownsT_below sa7.out hb8)
  have oc8 := Lib.hid (ownsT_below oc7.out hb8)
  clear B7 hb8 KS sa7 oc7
  have SRC := Lib.hid sb8.out.src
  have q1 := sig_length la
  have q2 := sig_length lb
  have q3 := hb68
  clear sb8
  go_wp2_with (at_builtin; refine wpList_append_src rfl _ _ 23 rfl w6.heap.size 30 i0 _ 2 24 Try.underlying23 hi hz0 hz1 hz2 rfl (by decide) _ _ _ rfl sa8.out _ _ _ rfl SRC.out (by unfold maxLen; omega) (by omega) (by omega) ?_)
  intro v9 w9 hown' hgrow
  have ow9 : Hid (OwnsT w9 w6.heap.size v9 (sig la ++ sig lb)) := by
    show World.ownsRow _ _ _ _ _ _ _
    rw [cellsT_append, List.length_append]
    exact hown'
  have B9 : Below w.heap.size w w9 := B8.grown hgrow B8.size (fun j hj => by have := (sa8.out.lt j hj).1; have := HBs.out; omega)
  have oc9 : Hid (OwnsT w9 w5.heap.size vc lc) := by
    refine World.ownsRow.kept oc8.out hgrow ?_
    cases hv : vc.ownBlock with
    | none => exact .inl rfl
    | some k =>
      right
      intro he
      have h1 := HLc.out k hv
      have h2 := (sa8.out.lt k he.symm).1
      omega
  rw [← HS.out] at ow9
  clear hown' hgrow sa8 oc8 SRC B8 HLc
  go_wp2_with fail
  refine (ex_keep w9).mono ?_
  rintro e w10 ⟨rfl, hb10⟩
  have B10 := B9.trans (hb10.mono B9.size)
  have ow10 := Lib.hid (ownsT_below ow9.out hb10)
  have KC := Lib.hid (sigs_any lc vc w10 _ (by omega) (ownsT_below oc9.out hb10))
  clear B9 hb10 ow9 oc9
  go_wp2_with fail
  refine KC.out.mono ?_
  rintro e w11 ⟨vs, rfl, os11, hb11⟩
  have B11 := B10.trans (hb11.mono B10.size)
  have q4 := sig_length lc
  have KE := Lib.hid (equal_any (sig lc) vs v9 w11 _ _ (by omega) os11.out (ownsT_below ow10.out hb11))
  clear B10 hb11 KC ow10 os11
  go_wp2_with fail
  refine KE.out.mono ?_
  rintro e w12 ⟨rfl, hb12⟩
  have B12 := B11.trans (hb12.mono B11.size)
  clear B11 hb12 KE
  go_wp2_with fail
  go_ret
  exact ⟨rfl, B12⟩
end Go.Proofs.Ytjakmigkipcomaa.lawLines
