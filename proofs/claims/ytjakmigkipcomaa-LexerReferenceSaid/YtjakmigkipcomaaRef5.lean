/-
  glossatorref1.FirstToken and Tokens by their contracts.
-/
import Derived.Test.YtjakmigkipcomaaRef4
import Derived.Test.YtjakmigkipcomaaRef2k
import Derived.Test.YtjakmigkipcomaaRef2w
namespace Go.Proofs.Ytjakmigkipcomaa
open Go.RowKit

theorem two_yes {s : ByteArray} (h : (L s).take 2 = [47, 47]) : 1 < s.size ∧ ((s.extract 0 2).toList == [47, 47]) = true := by
  refine ⟨?_, ?_⟩
  · have := congrArg List.length h
    rw [List.length_take, L_len] at this
    simp at this
    omega
  · rw [ByteArray.toList_eq, take_is]
    show (L (bs _) == _) = _
    rw [L_bs, h]; rfl

theorem two_no {s : ByteArray} (h : ¬ (L s).take 2 = [47, 47]) : (1 < s.size ∧ ((s.extract 0 2).toList == [47, 47]) = false) ∨ ¬ 1 < s.size := by
  by_cases h1 : 1 < s.size
  · refine .inl ⟨h1, ?_⟩
    rw [ByteArray.toList_eq, take_is]
    show (L (bs _) == _) = _
    rw [L_bs]
    simpa using h
  · exact .inr h1

theorem pos_run {p : Int → Bool} {c : UInt8} {r : List UInt8} (h : p c.toNat = true) : 0 < run p (c :: r) := by rw [run_cons h]; omega

theorem rfirst_any (s : ByteArray) (w : World) (hs : s.size ≤ 1000000) (hne : 0 < s.size) : Calls Try.prog 23 #[.string s] w (RTok s (tokK (L s)) (tokN (L s)) w) := by
  obtain ⟨c, hc⟩ : ∃ c, s[0]'hne = c := ⟨_, rfl⟩
  have hat := at_L s 0 hne
  rw [hc] at hat
  obtain ⟨r, hr⟩ : ∃ r, L s = c :: r := by
    cases h : L s with
    | nil => rw [h] at hat; simp at hat
    | cons x r => rw [h] at hat; simp at hat; exact ⟨r, by rw [hat]⟩
  have hl : Hid (L s ≠ []) := by show _ ≠ _; rw [hr]; simp
  have key : ∀ (k : Int) (n : Nat), tok0 (c :: r) = (k, n) → ¬ k = 103 → Calls Try.prog 23 #[.string s] w (RTok s k n w) → Calls Try.prog 23 #[.string s] w (RTok s (tokK (L s)) (tokN (L s)) w) := by
    intro k n h h103 C
    have e : tok0 (L s) = (k, n) := by rw [hr]; exact h
    have e1 : tokK (L s) = k := by rw [tokK_keep (by rw [e]; exact h103), e]
    have e2 : tokN (L s) = n := by rw [tokN, e]
    rw [e1, e2]
    exact C
  cases h1 : spI (c.toNat : Int) with
  | true => exact key _ _ (by rw [tok0, if_pos h1, hr]) (by decide) (r_space w hs hne (by rw [hr]; exact pos_run h1))
  | false =>
    have g1 : ¬ spI (c.toNat : Int) = true := by simp [h1]
    have z0 : Hid (run spI (L s) = 0) := by show _ = _; rw [hr]; exact run_zero h1
    by_cases h2 : (c :: r).take 2 = [47, 47]
    · obtain ⟨t1, t2⟩ := two_yes (s := s) (by rw [hr]; exact h2)
      exact key _ _ (by rw [tok0, if_neg g1, if_pos h2, hr]) (by decide) (r_comment w hs hne z0 t1 t2)
    · have d2 := two_no (s := s) (by rw [hr]; exact h2)
      cases h3 : dgI (c.toNat : Int) with
      | true => exact key _ _ (by rw [tok0, if_neg g1, if_neg h2, if_pos h3, hr]) (by decide) (r_digit w hs hne z0 d2 (by rw [hr]; exact pos_run h3))
      | false =>
        have g3 : ¬ dgI (c.toNat : Int) = true := by simp [h3]
        have z3 : Hid (run dgI (L s) = 0) := by show _ = _; rw [hr]; exact run_zero h3
        cases h4 : wdI (c.toNat : Int) with
        | true =>
          have p2 : 0 < run wdI (L s) := by rw [hr]; exact pos_run h4
          have e : tok0 (L s) = (103, run wdI (L s)) := by rw [hr, tok0, if_neg g1, if_neg h2, if_neg g3, if_pos h4]
          have e2 : tokN (L s) = run wdI (L s) := by rw [tokN, e]
          cases hcon : kws.contains ((L s).take (run wdI (L s))) with
          | true =>
            rw [tokK_key (by rw [e]) (by rw [e]; exact hcon), e2]
            exact r_key w hs hne z0 d2 z3 p2 hcon
          | false =>
            rw [tokK_word (by rw [e]) (by rw [e]; exact hcon), e2]
            exact r_word w hs hne z0 d2 z3 p2 hcon
        | false =>
          have g4 : ¬ wdI (c.toNat : Int) = true := by simp [h4]
          have z2 : Hid (run wdI (L s) = 0) := by show _ = _; rw [hr]; exact run_zero h4
          by_cases h5 : c = 34
          · have g5 : ((c.toNat : Int) == 34) = true := by rw [h5]; rfl
            have el : lit ((L s).drop 1) 1 false = lit r 1 false := by rw [hr]; rfl
            by_cases h6 : lit r 1 false = 0
            · exact key _ _ (by rw [tok0, if_neg g1, if_neg h2, if_neg g3, if_neg g4, if_pos h5, if_pos h6, hr]) (by decide) (r_bad w hs hne z0 d2 z3 z2 hc g5 (by show _ = _; rw [el]; exact h6))
            · exact key _ _ (by rw [tok0, if_neg g1, if_neg h2, if_neg g3, if_neg g4, if_pos h5, if_neg h6, el]) (by decide) (r_quote w hs hne z0 d2 z3 z2 hc g5 (by rw [el]; omega))
          · have g5 : ((c.toNat : Int) == 34) = false := by
              have : ¬ (c.toNat : Int) = 34 := fun e => h5 (byte_eq (d := 34) (by rw [e]; rfl))
              simpa using this
            refine key (pu (L s)).1 (pu (L s)).2 ?_ ?_ (r_rest w hs hne z0 d2 z3 z2 hc g5 hl)
            · rw [tok0, if_neg g1, if_neg h2, if_neg g3, if_neg g4, if_neg h5, hr, pu]
              rfl
            · rw [pu]
              (repeat' split) <;> decide

/-- What the reference's Tokens hands back. -/
def RToks (s : ByteArray) (w : World) (e : Ending) (w' : World) : Prop := ∃ v, e = .returned v ∧ Hid (OwnsT w' w.heap.size v (T (L s))) ∧ Below w.heap.size w w'

set_option maxHeartbeats 2000000 in
set_option maxRecDepth 100000 in
theorem rtokens_any (s : ByteArray) (w : World) (hs : s.size ≤ 2000) : Calls Try.prog 10 #[.string s] w (RToks s w) := by
  obtain ⟨i0, hi, hz0, hz1, hz2⟩ := info_parts info_tok
  have g0 : (s.size : Int) ≤ 2000 := by omega
  go_enter Try.func10, Try.ntmps10
  go_wp2_with fail
  go_loopw [0, 3] (fun rv v wr => ∃ (acc : List Tk) (ρ : ByteArray), rv = .string ρ ∧ acc.length + ρ.size ≤ 2000 ∧ Hid (T (L s) = acc ++ T (L ρ)) ∧ Hid (OwnsT wr w.heap.size v acc) ∧ Below w.heap.size w wr)
    (fun rv _ _ => strSize rv)
  case atStart => exact ⟨[], s, rfl, by simp; omega, rfl, OwnsT.nil _ _, Below.refl _ _⟩
  case round =>
    obtain ⟨acc, ρ, rfl, hlen, hT, hown, hb⟩ := hrel
    have hzw := hb.size
    by_cases hne : 0 < ρ.size
    · have hne2 : (0 : Int) < ρ.size := by omega
      have K23 := Lib.hid (rfirst_any ρ wr (by omega) hne)
      have hr : L ρ ≠ [] := by intro h; have := L_len ρ; rw [h] at this; simp at this; omega
      have hbd := tokN_bound hr
      rw [L_len] at hbd
      have HTc := Lib.hid (T_cons hr)
      unfold RTok at K23
      generalize tokK (L ρ) = k at *
      generalize tokN (L ρ) = n at *
      have HX : Hid (ρ.extract 0 n = bs ((L ρ).take n)) := take_is ρ n
      have HTn : Hid (T (L s) = (acc ++ [(k, (L ρ).take n)]) ++ T (L (ρ.extract n ρ.size))) := by
        show _ = _
        rw [hT.out, HTc.out, drop_is, L_bs, List.append_assoc]; rfl
      have hzx : (ρ.extract 0 n).size = n := by simp; omega
      have hzn : (ρ.extract n ρ.size).size = ρ.size - n := by simp
      have HM : Hid (acc.length + 1 + (ρ.extract n ρ.size).size ≤ 2000) := by show _ ≤ _; rw [hzn]; omega
      have HMs : Hid ((ρ.extract n ρ.size).size < ρ.size) := by show _ < _; rw [hzn]; omega
      have HN : Hid (∀ X : ByteArray, X = ρ.extract 0 n → X.size = n) := fun X h => by rw [h]; exact hzx
      have b1 : (1 : Int) ≤ n := by omega
      have b2 : (n : Int) ≤ ρ.size := by omega
      have b3 : (ρ.size : Int) ≤ 2000 := by omega
      clear hT hr HTc hzn hzx
      obtain ⟨X, hX⟩ : ∃ X, X = ρ.extract 0 n := ⟨_, rfl⟩
      have hXn := HN.out X hX
      rw [← hX] at HX K23
      clear HN hX
      obtain ⟨hbd1, hbd2⟩ := hbd
      go_wp2_with fail
      refine K23.out.mono ?_
      rintro e w2 ⟨rfl, hb2⟩
      have hb20 := hb.trans (hb2.mono hzw)
      have hy2 := hb20.size
      have HO2 : Hid (OwnsT w2 w.heap.size u3 acc) := ownsT_below hown.out hb2
      have HOW : Hid (OwnsT (w2.alloc (.cells #[.int .i64 k, .string X] 30)) w.heap.size u3 acc) := HO2.out.alloc _
      have BW : Below w.heap.size w (w2.alloc (.cells #[.int .i64 k, .string X] 30)) := hb20.alloc hy2 _
      clear K23 hown
      go_wp2_with (at_builtin; refine wpList_append_own _ rfl _ _ 23 rfl w.heap.size 30 i0 _ 2 24 Try.underlying23 hi hz0 hz1 hz2 rfl (by decide) _ _ _ rfl (HOW.out.alloc _) ⟨w2.heap.size + 1, 0, none⟩ 1 1 [.int .i64 k, .string X] rfl rfl (World.news_of_block (alloc_at (by simp) _)) (by simp [Value.oneCell']) (by unfold maxLen; first | omega | (simp; done)) (by first | omega | (simp; done)) (by first | omega | (simp; omega) | (simp; done)) ?_)
      intro v' w5 hown' hgrow _
      have hown5 : Hid (OwnsT w5 w.heap.size v' (acc ++ [(k, (L ρ).take n)])) := by
        show World.ownsRow _ _ _ _ _ _ _
        rw [cellsT_append, List.length_append]
        have e : cellsT [(k, (L ρ).take n)] = [.int .i64 k, .string X] := by rw [HX.out]; rfl
        rw [e]
        exact hown'
      have hb5 : Below w.heap.size w w5 := (BW.alloc (by first | omega | (simp; omega)) _).grown hgrow (by first | omega | (simp; omega)) (fun j hj => (HOW.out.lt j hj).1)
      have hblk : w5.heap[w2.heap.size]? = some (.cells #[.int .i64 k, .string X] 30 (0, 0)) := by
        rw [hgrow.block w2.heap.size (by simp; omega) (fun h => by have := (HO2.out.lt _ h.symm).2; omega), Below.heap_alloc _ _ _ (by simp)]
        exact heap_alloc_new w2 _
      have c1 : w5.cell? ⟨w2.heap.size, 1, none⟩ = some (.string X) := by rw [Lib.cell_of_heap hblk]; rfl
      clear hown' hgrow HOW HO2 hblk
      have hXi : (X.size : Int) = n := by omega
      go_wp2_with fail
      go_roundw
      case rel => exact ⟨_, _, rfl, by rw [List.length_append]; exact HM.out, HTn, hown5, hb5⟩
      case measure => exact HMs.out
    · obtain rfl : ρ = ⟨#[]⟩ := by
        have : L ρ = [] := List.eq_nil_of_length_eq_zero (by rw [L_len]; omega)
        rw [← bs_L ρ, this]; rfl
      have hT2 : Hid (T (L s) = acc) := by
        show _ = _
        rw [hT.out]
        exact List.append_nil _
      have hown2 : Hid (OwnsT wr w.heap.size u3 (T (L s))) := by rw [hT2.out]; exact hown
      clear hT hown hT2
      go_wp2_with fail
      go_ret
      exact ⟨_, rfl, hown2, hb⟩
end Go.Proofs.Ytjakmigkipcomaa
