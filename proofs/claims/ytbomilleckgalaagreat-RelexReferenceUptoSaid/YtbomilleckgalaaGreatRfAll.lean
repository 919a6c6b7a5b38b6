/-
  glossatorref1.EqualLists of two lists of tokens, whatever they are; Contains of a list of integers.
  ReusedTokens of the reference by its contract: it counts what Update reuses.
  The law package's own sameTree of two trees, and its example: the last of three constants is edited.
  RelexReference's law, by its contract (what comes in is of bulk at most 1048576).
-/
import Derived.Test.YtbomilleckgalaaGreatRxAll
import Derived.Test.YtbomilleckgalaaGreatRpStarts
import Derived.BigQuiet
import Derived.Test.YtbomilleckgalaaGreatRpEx
import Derived.Test.YtbomilleckgalaaGreatTeSplice
namespace Go.Proofs.YtbomilleckgalaaGreat.Lx
open Go.RowKit Go.Proofs.YtbomilleckgalaaGreat.Ps

set_option maxHeartbeats 1000000 in
set_option maxRecDepth 100000 in
theorem equal_any (l m : List Tk) (a1 : Option Addr) (c1 : Nat) (a2 : Option Addr) (c2 : Nat) (w : World) (hl : l.length ≤ 9223372036854775807) (hm : m.length ≤ 9223372036854775807) (h1 : Tks w w.heap.size a1 l) (h2 : Tks w w.heap.size a2 m) :
    Calls Tryz.prog 10 #[.slice a1 l.length c1, .slice a2 m.length c2] w fun e w' => ∃ r : Bool, e = .returned (.bool r) ∧ (r = true ↔ l = m) ∧ Below w.heap.size w w' := by
  have H1 := Lib.hid h1
  have H2 := Lib.hid h2
  clear h1 h2
  by_cases hlm : m.length = l.length
  · rw [hlm]
    have HLM := Lib.hid hlm
    clear hm hlm
    go_enter Tryz.func10, Tryz.ntmps10
    go_wp2_with fail
    go_loopw [13] (fun i wr => ∃ k : Nat, k ≤ l.length ∧ i = .int .i64 k ∧ Hid (l.take k = m.take k) ∧ Below w.heap.size w wr)
      (fun i _ => l.length - (intOf i).toNat)
    case atStart => exact ⟨0, Nat.zero_le _, rfl, (show _ = _ by simp), Below.refl _ _⟩
    case round =>
      obtain ⟨k, hk, rfl, heq, hb⟩ := hrel
      by_cases hlt : k < l.length
      · have hx : l[k]? = some l[k] := List.getElem?_eq_getElem hlt
        obtain ⟨x, hX⟩ : ∃ x, x = l[k] := ⟨_, rfl⟩
        rw [← hX] at hx
        clear hX
        have hlt2 : k < m.length := by rw [HLM.out]; exact hlt
        have hy : m[k]? = some (m[k]'hlt2) := List.getElem?_eq_getElem hlt2
        obtain ⟨y, hY⟩ : ∃ y, y = m[k]'hlt2 := ⟨_, rfl⟩
        rw [← hY] at hy
        clear hY
        obtain ⟨b, o, rfl, _, p0, p1⟩ := (H1.out.below hb (Nat.le_refl _)) k x hx
        obtain ⟨b', o', rfl, _, g0, g1⟩ := (H2.out.below hb (Nat.le_refl _)) k y hy
        have hneq := neq_toks x y
        have hk0 : (0 : Int) ≤ (k : Int) := by omega
        have hk1 : (k : Int) < (l.length : Int) := by omega
        have HX := Lib.hid hx
        have HY := Lib.hid hy
        clear hx hy hlt2
        by_cases hxy : x = y
        · have hd : (!decide (x = y)) = false := by simpa using hxy
          rw [hd] at hneq
          have HN : Hid (l.take (k + 1) = m.take (k + 1)) := take_next heq.out HX.out HY.out hxy
          clear hxy hd HX HY heq
          go_wp2_with fail
          go_quiet (fail)
          go_wp2_with fail
          go_roundw
          case rel => exact ⟨k + 1, by omega, by go_num, HN, below_drewN' hb _⟩
          case measure => simp [intOf]; omega
        · have hd : (!decide (x = y)) = true := by simpa using hxy
          rw [hd] at hneq
          have HN : Hid (¬ l = m) := by
            show ¬ _
            intro e
            subst e
            have := HX.out.symm.trans HY.out
            exact hxy (Option.some.inj this)
          clear hxy hd HX HY heq
          go_wp2_with fail
          go_quiet (fail)
          go_wp2_with fail
          go_ret
          exact ⟨false, rfl, by simpa using HN.out, below_drewN' hb _⟩
      · obtain rfl : k = l.length := by omega
        have HN : Hid (l = m) := by
          show _ = _
          have := heq.out
          rwa [List.take_length, ← HLM.out, List.take_length] at this
        clear heq
        go_wp2_with fail
        go_ret
        exact ⟨true, rfl, by simpa using HN.out, hb⟩
  · have g : ((l.length : Int) != (m.length : Int)) = true := by simp; omega
    have HN : Hid (¬ l = m) := by
      show ¬ _
      intro e
      exact hlm (by rw [e])
    have g1 : (l.length : Int) ≤ 9223372036854775807 := by omega
    have g2 : (m.length : Int) ≤ 9223372036854775807 := by omega
    clear hlm
    go_enter Tryz.func10, Tryz.ntmps10
    go_wp2_with fail
    go_ret
    exact ⟨false, rfl, by simpa using HN.out, Below.refl _ _⟩

set_option maxHeartbeats 2000000 in
set_option maxRecDepth 100000 in
theorem contains_any (l : List Int) (va : Option Addr) (vc : Nat) (q : Int) (w : World) (hl : l.length ≤ 2000) (hi : Ints w (· < w.heap.size) va l) :
    Calls Tryz.prog 29 #[.slice va l.length vc, .int .i64 q] w fun e w' => e = .returned (.bool (l.contains q)) ∧ Below w.heap.size w w' := by
  have HI := Lib.hid hi
  clear hi
  go_enter Tryz.func29, Tryz.ntmps29
  go_wp2_with fail
  go_loopw [9] (fun i wr => ∃ k : Nat, k ≤ l.length ∧ i = .int .i64 k ∧ Hid ((l.take k).contains q = false) ∧ Below w.heap.size w wr)
    (fun i _ => l.length - (intOf i).toNat)
  case atStart => exact ⟨0, Nat.zero_le _, rfl, (show _ = _ by simp), Below.refl _ _⟩
  case round =>
    obtain ⟨k, hk, rfl, heq, hb⟩ := hrel
    by_cases hlt : k < l.length
    · obtain ⟨x, hx⟩ : ∃ x, l[k]? = some x := ⟨_, List.getElem?_eq_getElem hlt⟩
      obtain ⟨b, o, s0, s1, s2⟩ := HI.out k x hx
      subst s0
      have p0 : wr.cell? ⟨b, o + k, none⟩ = some (.int .i64 x) := (hb.cell (p := ⟨b, o + k, none⟩) s1).trans s2
      have hk0 : (0 : Int) ≤ (k : Int) := by omega
      have hk1 : (k : Int) < (l.length : Int) := by omega
      by_cases hxy : q = x
      · have HN : Hid (l.contains q = true) := by
          show _ = _
          rw [List.contains_iff_mem]
          exact List.mem_of_getElem? (hxy ▸ hx)
        subst hxy
        clear s1 s2 hx heq
        go_wp2_with fail
        go_ret
        exact ⟨congrArg (fun b => Ending.returned (Value.bool b)) HN.out.symm, hb⟩
      · have HN : Hid ((l.take (k + 1)).contains q = false) := by
          show _ = _
          have := heq.out
          rw [List.take_add_one, hx]
          simp only [Option.toList_some, List.contains_eq_mem, List.mem_append, List.mem_singleton] at this ⊢
          simp only [decide_eq_false_iff_not] at this ⊢
          rintro (h | h)
          · exact this h
          · exact hxy h
        have hd : decide (q = x) = false := decide_eq_false hxy
        clear s1 s2 hx heq
        go_wp2_with fail
        go_roundw
        case rel => exact ⟨k + 1, by omega, by go_num, HN, hb⟩
        case measure => simp [intOf]; omega
    · obtain rfl : k = l.length := by omega
      have HN : Hid (l.contains q = false) := by
        show _ = _
        have := heq.out
        rwa [List.take_length] at this
      clear heq
      go_wp2_with fail
      go_ret
      exact ⟨congrArg (fun b => Ending.returned (Value.bool b)) HN.out.symm, hb⟩
end Go.Proofs.YtbomilleckgalaaGreat.Lx

namespace Go.Proofs.YtbomilleckgalaaGreat.Lx
open Go.RowKit Go.Proofs.YtbomilleckgalaaGreat.Te Go.Proofs.YtbomilleckgalaaGreat.Ps

theorem at0_wt (t : List Tk) (i : Nat) : at0 t i = wt (t.take i) := by unfold at0; rw [wt_glueT]

theorem lead_wt {l : List UInt8} {x : Ed} {p k : Nat} (h : Reused l x p k) {i : Nat} (hi : i < (T l).length) : ((wt ((T l).take (i + 1)) : Nat) : Int) < x.s ↔ i < p := by
  rw [← at0_wt]
  exact lead_iff h hi

/-- Does a new token start at q? -/
def startB (new : List Tk) (q : Int) : Bool := (tokAt new new.length).contains q

theorem startB_iff {new : List Tk} {q : Int} : startB new q = true ↔ ∃ j, j < new.length ∧ ((wt (new.take j) : Nat) : Int) = q := by
  unfold startB tokAt
  rw [List.contains_iff_mem, List.mem_map]
  constructor
  · rintro ⟨j, hj, e⟩
    exact ⟨j, List.mem_range.1 hj, e⟩
  · rintro ⟨j, hj, e⟩
    exact ⟨j, List.mem_range.2 hj, e⟩

theorem hit_iff {l : List UInt8} {x : Ed} {i : Nat} : Hit l x i ↔ x.e ≤ (wt ((T l).take i) : Nat) ∧ startB (T (next l x)) (((wt ((T l).take i) : Nat) : Int) + ((next l x).length - l.length)) = true := by
  unfold Hit
  rw [startB_iff, at0_wt]
  constructor
  · rintro ⟨h, j, hj, e⟩
    exact ⟨h, j, hj, by rw [← at0_wt]; exact e⟩
  · rintro ⟨h, j, hj, e⟩
    exact ⟨h, j, hj, by rw [at0_wt]; exact e⟩

/-- What the loops read: the edit and where the old tokens start. -/
structure Sv (n0 : Nat) (st en : Nat) (t : ByteArray) (va : Option Addr) (l : List Int) (W : World) : Prop where
  e : W.heap[n0]? = some (.cells #[.int .i64 st, .int .i64 en, .string t] 23 (0, 0))
  s : Ints W (· < W.heap.size) va l
theorem Sv.to {n0 st en : Nat} {t : ByteArray} {va : Option Addr} {l : List Int} {W W' : World} (h : Sv n0 st en t va l W) (hb : Below W.heap.size W W') : Sv n0 st en t va l W' :=
  ⟨held_to h.e hb, h.s.to hb⟩

set_option maxRecDepth 100000 in
set_option maxHeartbeats 8000000 in
theorem reused_walk (z y t : ByteArray) (st en p k : Nat) (w : World) (h2 : z.size ≤ 2000) (h3 : y.size ≤ 2000)
    (hp : p ≤ (T (L z)).length) (hk : k ≤ (T (L z)).length)
    (hlead : ∀ i, i < (T (L z)).length → (((wt ((T (L z)).take (i + 1)) : Nat) : Int) < st ↔ i < p))
    (hmiss : ∀ i, i < (T (L z)).length - k → en ≤ wt ((T (L z)).take i) → startB (T (L y)) (((wt ((T (L z)).take i) : Nat) : Int) + ((y.size : Int) - (z.size : Int))) = false)
    (hhit : 0 < k → en ≤ wt ((T (L z)).take ((T (L z)).length - k)) ∧ startB (T (L y)) (((wt ((T (L z)).take ((T (L z)).length - k)) : Nat) : Int) + ((y.size : Int) - (z.size : Int))) = true) :
    Calls Tryz.prog 12 #[.string z, .string y, .agg #[.int .i64 st, .int .i64 en, .string t]] w fun e w' => e = .returned (.int .i64 ((p + k : Nat) : Int)) ∧ Below w.heap.size w w' := by
  have KZ := Lib.hid (fun W => rtokens_any z W (by omega))
  have KY := Lib.hid (fun W => rtokens_any y W (by omega))
  unfold RToks at KZ KY
  have HWZ : Hid (wt (T (L z)) = z.size) := by show _ = _; rw [wt_T, L_len]
  have HWY : Hid (wt (T (L y)) = y.size) := by show _ = _; rw [wt_T, L_len]
  have HLZ : Hid ((T (L z)).length ≤ 2000) := Nat.le_trans (T_length _ (L z) (Nat.le_refl _)) (by rw [L_len]; exact h2)
  have HLY : Hid ((T (L y)).length ≤ 2000) := Nat.le_trans (T_length _ (L y) (Nat.le_refl _)) (by rw [L_len]; exact h3)
  have i1 : (z.size : Int) ≤ 2000 := by omega
  have i2 : (y.size : Int) ≤ 2000 := by omega
  have HP := Lib.hid hp
  have HK := Lib.hid hk
  have HLEAD := Lib.hid hlead
  have HMISS := Lib.hid hmiss
  have HHIT := Lib.hid hhit
  clear hp hk hlead hmiss hhit
  generalize T (L z) = old at *
  generalize T (L y) = new at *
  have HB0 : Hid (Below w.heap.size w (w.alloc (.cells #[.int .i64 st, .int .i64 en, .string t] 23))) := (Below.refl _ _).alloc (Nat.le_refl _) _
  have HE0 : Hid ((w.alloc (.cells #[.int .i64 st, .int .i64 en, .string t] 23)).heap[w.heap.size]? = some (.cells #[.int .i64 st, .int .i64 en, .string t] 23 (0, 0))) := heap_alloc_new w _
  go_enter Tryz.func12, Tryz.ntmps12
  go_wp2_with fail
  change Calls _ _ _ (w.alloc (.cells #[.int .i64 st, .int .i64 en, .string t] 23)) _
  generalize w.alloc (.cells #[.int .i64 st, .int .i64 en, .string t] 23) = V0 at *
  refine (KZ.out V0).mono ?_
  rintro e V1 ⟨v, rfl, hown, hb⟩
  obtain ⟨ta, tc, rfl, _, htks, _⟩ := hown.out.tks
  have HB1 := Lib.hid (HB0.out.trans (hb.mono HB0.out.size))
  have HE1 := Lib.hid (held_to HE0.out hb)
  have HT1 := Lib.hid htks
  clear hb HB0 HE0 htks hown KZ
  go_wp2_with fail
  refine (rstarts_any old ta tc V1 HT1.out HLZ.out (by have := HWZ.out; omega)).mono ?_
  rintro e V2 ⟨v, rfl, hown, hb⟩
  obtain ⟨va, vc, hv, hin, _⟩ := OwnsI.ints hown
  subst hv
  have HB2 := Lib.hid (HB1.out.trans (hb.mono HB1.out.size))
  have HR2 : Hid (Sv w.heap.size st en t va (tokAt old old.length) V2) :=
    ⟨held_to HE1.out hb, hin.sub (fun g hg => (World.ownsRow.lt hown g hg).2)⟩
  have hsl : (tokAt old old.length).length = old.length := by simp [tokAt]
  rw [hsl]
  clear hb HB1 HE1 HT1 hown hin hsl
  have hll := HLZ.out
  go_wp2_with fail
  go_loopw [9, 25] (fun pr i wr => ∃ (j q : Nat), j ≤ old.length ∧ i = .int .i64 j ∧ pr = .int .i64 q ∧ q ≤ j ∧ Hid (q = min j p) ∧ Below w.heap.size w wr ∧ Hid (Sv w.heap.size st en t va (tokAt old old.length) wr))
    (fun _ i _ => old.length - (intOf i).toNat)
  case atStart => exact ⟨0, 0, Nat.zero_le _, rfl, rfl, Nat.le_refl _, (by show _ = _; omega), HB2.out, HR2⟩
  case round =>
    clear HB2 HR2
    obtain ⟨j, q, hj, rfl, rfl, hqj, HQ, hb, HR⟩ := hrel
    by_cases hlt : j < old.length
    · have q0 : (j : Int) < (old.length : Int) := by omega
      have q1 : (0 : Int) ≤ (j : Int) := by omega
      have q2 : (j : Int) + 1 ≤ 2000 := by omega
      obtain ⟨f0, f1, f2, g0, g1, g2⟩ := three_facts HR.out.e
      have HLD := Lib.hid (HLEAD.out j hlt)
      by_cases h1 : j + 1 < old.length
      · obtain ⟨sb, so, s0, s1, s2⟩ := HR.out.s (j + 1) _ (tokAt_at old h1)
        subst s0
        have n1 : (j : Int) + 1 < (old.length : Int) := by omega
        have n0 : (0 : Int) ≤ (j : Int) + 1 := by omega
        clear s1
        obtain ⟨P, hP⟩ : ∃ P, P = wt (old.take (j + 1)) := ⟨_, rfl⟩
        rw [← hP] at s2 HLD
        clear hP
        by_cases h4 : P < st
        · have d0 : decide (P < st) = true := decide_eq_true h4
          have HQ2 : Hid (q + 1 = min (j + 1) p) := by show _ = _; have h5 := HQ.out; have h6 := HLD.out.1 (by omega); omega
          have q3 : (q : Int) + 1 ≤ 2000 := by omega
          have h5 : (P : Int) < (st : Int) := by omega
          clear HQ HLD
          go_wp2_with fail
          go_roundw
          case rel => exact ⟨j + 1, q + 1, by omega, by go_num, by go_num, by omega, HQ2, hb, HR⟩
          case measure => simp [intOf]; omega
        · have d0 : decide (P < st) = false := decide_eq_false h4
          have HQ2 : Hid (q = min (j + 1) p) := by show _ = _; have h5 := HQ.out; have h6 : ¬ j < p := fun h => h4 (by have := HLD.out.2 h; omega); omega
          have h5 : ¬ (P : Int) < (st : Int) := by omega
          clear HQ HLD
          go_wp2_with fail
          go_roundw
          case rel => exact ⟨j + 1, q, by omega, by go_num, rfl, by omega, HQ2, hb, HR⟩
          case measure => simp [intOf]; omega
      · have HE1 : Hid (wt (old.take (j + 1)) = z.size) := by show _ = _; rw [List.take_of_length_le (by omega)]; exact HWZ.out
        rw [HE1.out] at HLD
        have n1 : ¬ (j : Int) + 1 < (old.length : Int) := by omega
        have n2 : (old.length : Int) ≤ (j : Int) + 1 := by omega
        clear HE1
        by_cases h4 : z.size < st
        · have d0 : decide (z.size < st) = true := decide_eq_true h4
          have HQ2 : Hid (q + 1 = min (j + 1) p) := by show _ = _; have h5 := HQ.out; have h6 := HLD.out.1 (by omega); omega
          have q3 : (q : Int) + 1 ≤ 2000 := by omega
          have h5 : (z.size : Int) < (st : Int) := by omega
          clear HQ HLD
          go_wp2_with fail
          go_roundw
          case rel => exact ⟨j + 1, q + 1, by omega, by go_num, by go_num, by omega, HQ2, hb, HR⟩
          case measure => simp [intOf]; omega
        · have d0 : decide (z.size < st) = false := decide_eq_false h4
          have HQ2 : Hid (q = min (j + 1) p) := by show _ = _; have h5 := HQ.out; have h6 : ¬ j < p := fun h => h4 (by have := HLD.out.2 h; omega); omega
          have h5 : ¬ (z.size : Int) < (st : Int) := by omega
          clear HQ HLD
          go_wp2_with fail
          go_roundw
          case rel => exact ⟨j + 1, q, by omega, by go_num, rfl, by omega, HQ2, hb, HR⟩
          case measure => simp [intOf]; omega
    · obtain rfl : j = old.length := by omega
      have HQ2 : Hid (q = p) := by show _ = _; have h4 := HP.out; have h5 := HQ.out; omega
      have q3 : (q : Int) ≤ 2000 := by omega
      clear HQ
      go_wp2_with fail
      refine (KY.out wr).mono ?_
      rintro e V1 ⟨v, rfl, hown, hb1⟩
      obtain ⟨ta2, tc2, rfl, _, htks, _⟩ := hown.out.tks
      have HB1 := Lib.hid (hb.trans (hb1.mono hb.size))
      have HR1 := Lib.hid (HR.out.to hb1)
      have HT1 := Lib.hid htks
      clear hb hb1 HR htks hown KY
      go_wp2_with fail
      refine (rstarts_any new ta2 tc2 V1 HT1.out HLY.out (by have := HWY.out; omega)).mono ?_
      rintro e V2 ⟨v, rfl, hown, hb⟩
      obtain ⟨vb, vd, hv, hin, _⟩ := OwnsI.ints hown
      subst hv
      have HB2 := Lib.hid (HB1.out.trans (hb.mono HB1.out.size))
      have HR2 := Lib.hid (HR1.out.to hb)
      have HN2 : Hid (Ints V2 (· < V2.heap.size) vb (tokAt new new.length)) := hin.sub (fun g hg => (World.ownsRow.lt hown g hg).2)
      have hsl : (tokAt new new.length).length = new.length := by simp [tokAt]
      rw [hsl]
      clear hb HB1 HR1 HT1 hown hin hsl
      go_wp2_with fail
      go_loopw [52] (fun i wr2 => ∃ j : Nat, j ≤ old.length - k ∧ i = .int .i64 j ∧ Below w.heap.size w wr2 ∧ Hid (Sv w.heap.size st en t va (tokAt old old.length) wr2) ∧ Hid (Ints wr2 (· < wr2.heap.size) vb (tokAt new new.length)))
        (fun i _ => old.length - (intOf i).toNat)
      case atStart => exact ⟨0, Nat.zero_le _, rfl, HB2.out, HR2, HN2⟩
      case round =>
        clear HB2 HR2 HN2
        obtain ⟨j, hj, rfl, hb, HR, HN⟩ := hrel
        have hkk := HK.out
        by_cases hlt : j < old.length
        · have q0 : (j : Int) < (old.length : Int) := by omega
          have q1 : (0 : Int) ≤ (j : Int) := by omega
          obtain ⟨f0, f1, f2, g0, g1, g2⟩ := three_facts HR.out.e
          obtain ⟨sb, so, s0, s1, s2⟩ := HR.out.s j _ (tokAt_at old hlt)
          subst s0
          clear s1
          have hwl := wt_take_le old j
          have hwz := HWZ.out
          have HM := Lib.hid (HMISS.out j)
          have HH := Lib.hid HHIT.out
          by_cases hjk : j = old.length - k
          · have hh := HH.out (by omega)
            rw [← hjk] at hh
            obtain ⟨P, hP⟩ : ∃ P, P = wt (old.take j) := ⟨_, rfl⟩
            rw [← hP] at s2 HM hh hwl
            clear hP
            have d0 : decide (en ≤ P) = true := decide_eq_true hh.1
            have hP0 : (P : Int) ≤ 2000 := by omega
            have HC := Lib.hid (contains_any (tokAt new new.length) vb vd ((P : Int) + ((y.size : Int) - (z.size : Int))) wr (by simp only [tokAt, List.length_map, List.length_range]; exact HLY.out) HN.out)
            rw [show (tokAt new new.length).contains ((P : Int) + ((y.size : Int) - (z.size : Int))) = true from hh.2, show (tokAt new new.length).length = new.length from by simp [tokAt]] at HC
            have HFIN : Hid ((q : Int) + (old.length : Int) - (j : Int) = ((p + k : Nat) : Int)) := by show _ = _; have := HQ2.out; omega
            clear hh HH HM hwl hwz hkk hjk hj
            go_wp2_with fail
            refine HC.out.mono ?_
            rintro e w9 ⟨rfl, hb9⟩
            have HB9 := Lib.hid (hb.trans (hb9.mono hb.size))
            clear hb9 HC
            go_wp2_with fail
            go_ret
            exact ⟨congrArg (fun n => Ending.returned (Value.int .i64 n)) HFIN.out, HB9.out⟩
          · have hj2 : j < old.length - k := by omega
            obtain ⟨P, hP⟩ : ∃ P, P = wt (old.take j) := ⟨_, rfl⟩
            have hm := HM.out hj2
            rw [← hP] at s2 hm hwl
            clear hP
            have hP0 : (P : Int) ≤ 2000 := by omega
            by_cases h0 : en ≤ P
            · have d0 : decide (en ≤ P) = true := decide_eq_true h0
              have HC := Lib.hid (contains_any (tokAt new new.length) vb vd ((P : Int) + ((y.size : Int) - (z.size : Int))) wr (by simp only [tokAt, List.length_map, List.length_range]; exact HLY.out) HN.out)
              rw [show (tokAt new new.length).contains ((P : Int) + ((y.size : Int) - (z.size : Int))) = false from hm h0, show (tokAt new new.length).length = new.length from by simp [tokAt]] at HC
              clear hm HH HM hwl hwz hkk hjk
              go_wp2_with fail
              refine HC.out.mono ?_
              rintro e w9 ⟨rfl, hb9⟩
              have HB9 := Lib.hid (hb.trans (hb9.mono hb.size))
              have HR9 := Lib.hid (HR.out.to hb9)
              have HN9 := Lib.hid (HN.out.to hb9)
              clear hb9 HC
              go_wp2_with fail
              go_roundw
              case rel => exact ⟨j + 1, by omega, by go_num, HB9.out, HR9, HN9⟩
              case measure => simp [intOf]; omega
            · have d0 : decide (en ≤ P) = false := decide_eq_false h0
              clear hm HH HM hwl hwz hkk hjk
              go_wp2_with fail
              go_roundw
              case rel => exact ⟨j + 1, by omega, by go_num, hb, HR, HN⟩
              case measure => simp [intOf]; omega
        · have HFIN : Hid ((q : Int) = ((p + k : Nat) : Int)) := by show _ = _; have := HQ2.out; omega
          go_wp2_with fail
          go_ret
          exact ⟨congrArg (fun n => Ending.returned (Value.int .i64 n)) HFIN.out, hb⟩

theorem reused_any (z y t : ByteArray) (st en p k : Nat) (w : World) (hf : Fit z.size ⟨(st : Nat), (en : Nat), t⟩) (hy : L y = next (L z) ⟨(st : Nat), (en : Nat), t⟩) (hr : Reused (L z) ⟨(st : Nat), (en : Nat), t⟩ p k) :
    Calls Tryz.prog 12 #[.string z, .string y, .agg #[.int .i64 st, .int .i64 en, .string t]] w fun e w' => e = .returned (.int .i64 ((p + k : Nat) : Int)) ∧ Below w.heap.size w w' := by
  have hlen := hf.len
  rw [← hy, L_len] at hlen
  obtain ⟨h0, h1, h2, h3, h4⟩ := hf
  have hy2 : ((next (L z) ⟨(st : Nat), (en : Nat), t⟩).length : Int) - (L z).length = (y.size : Int) - z.size := by rw [← hy, L_len, L_len]
  refine reused_walk z y t st en p k w h3 (by omega) hr.1 hr.2.2.2.1.1 (fun i hi => lead_wt hr hi) ?_ ?_
  · intro i hi he
    rw [Bool.eq_false_iff]
    intro hc
    have := hit_le hr h0 h1 (by rw [L_len]; exact h2) (i := i) (by omega) (hit_iff.2 ⟨by exact Int.ofNat_le.2 he, by rw [hy2, ← hy]; exact hc⟩)
    omega
  · intro hk
    have := hit_iff.1 (hit_at hr h0 h1 (by rw [L_len]; exact h2) hk)
    rw [hy2, ← hy] at this
    exact ⟨Int.ofNat_le.1 this.1, this.2⟩
end Go.Proofs.YtbomilleckgalaaGreat.Lx

namespace Go.Proofs.YtbomilleckgalaaGreat
open Go.RowKit

set_option maxRecDepth 100000 in
set_option maxHeartbeats 4000000 in
theorem tree_eq1 : ∀ (n : Nat) (x y : Tree) (a1 : Option Addr) (c1 : Nat) (m : Nat) (a2 : Option Addr) (c2 : Nat) (w : World), x.ok → y.ok → Kids w (· < w.heap.size) n a1 x.c → Kids w (· < w.heap.size) m a2 y.c →
    Calls Tryz.prog 21 #[tv x a1 c1, tv y a2 c2] w (EqPost x y w) := by
  intro n
  induction n using Nat.strongRecOn with
  | ind n ih =>
  intro x y a1 c1 n2 a2 c2 w hok hok2 hk1 hk2
  obtain ⟨_, _, hlen⟩ := hok
  obtain ⟨_, _, hlen2⟩ := hok2
  unfold maxLen at hlen hlen2
  have H1 := Lib.hid hk1
  have H2 := Lib.hid hk2
  clear hk1 hk2
  obtain ⟨W0, hW0⟩ : ∃ W0, W0 = (w.alloc (treeBox x.k x.t (.slice a1 x.c.length c1))).alloc (treeBox y.k y.t (.slice a2 y.c.length c2)) := ⟨_, rfl⟩
  have HB0 : Hid (Below w.heap.size w W0) := by rw [hW0]; exact ((Below.refl _ _).alloc (Nat.le_refl _) _).alloc (by simp) _
  have HZ0 : Hid (W0.heap.size = w.heap.size + 2) := by rw [hW0]; show _ = _; simp
  have HC0 : Hid (W0.cell? ⟨w.heap.size, 2, none⟩ = some (.slice a1 x.c.length c1) ∧ W0.cell? ⟨w.heap.size + 1, 2, none⟩ = some (.slice a2 y.c.length c2)) := by
    rw [hW0]
    constructor <;> simp [treeBox, go_sem]
  by_cases hkk : x.k = y.k
  · by_cases htt : x.t = y.t
    · by_cases hll : x.c.length = y.c.length
      · have HXY : Hid (x.c = y.c → x = y) := fun h => tree_ext hkk htt h
        have HLL := Lib.hid hll
        show Calls Tryz.prog 21 #[.agg #[.int .i64 x.k, .string x.t, .slice a1 x.c.length c1], .agg #[.int .i64 y.k, .string y.t, .slice a2 y.c.length c2]] w _
        rw [← hll, ← hkk, ← htt]
        rw [← hll, ← hkk, ← htt] at hW0
        rw [← hll] at HC0
        clear hkk htt hll hlen2
        generalize x.k = kk at *
        generalize x.t = tt at *
        go_enter Tryz.func21, Tryz.ntmps21
        go_wp2_with fail
        go_loopw [30] (fun i wr => ∃ k : Nat, k ≤ x.c.length ∧ i = .int .i64 k ∧ Below W0.heap.size W0 wr ∧ Hid (x.c.take k = y.c.take k))
          (fun i _ => x.c.length - (intOf i).toNat)
        case atStart => exact ⟨0, Nat.zero_le _, rfl, by rw [hW0]; exact Below.refl _ _, rfl⟩
        case round =>
          clear hW0
          obtain ⟨k, hk, rfl, hb, hT⟩ := hrel
          have hz := HZ0.out
          have hzw := hb.size
          have f0 : wr.cell? ⟨w.heap.size, 2, none⟩ = some (.slice a1 x.c.length c1) := (hb.cell (p := ⟨_, _, none⟩) (by simp; omega)).trans HC0.out.1
          have f1 : wr.cell? ⟨w.heap.size + 1, 2, none⟩ = some (.slice a2 x.c.length c2) := (hb.cell (p := ⟨_, _, none⟩) (by simp; omega)).trans HC0.out.2
          have hbw : Hid (Below w.heap.size w wr) := HB0.out.trans (hb.mono (by omega))
          clear hz
          by_cases hlt : k < x.c.length
          · have hx : x.c[k]? = some x.c[k] := List.getElem?_eq_getElem hlt
            obtain ⟨p, hP⟩ : ∃ p, p = x.c[k] := ⟨_, rfl⟩
            rw [← hP] at hx
            clear hP
            have hlt2 : k < y.c.length := by rw [← HLL.out]; exact hlt
            have hy : y.c[k]? = some y.c[k] := List.getElem?_eq_getElem hlt2
            obtain ⟨q, hQ⟩ : ∃ q, q = y.c[k] := ⟨_, rfl⟩
            rw [← hQ] at hy
            clear hQ hlt2
            obtain ⟨hok', m, b, o, sa, cap', hm, rfl, _, p0, p1, p2, hk'⟩ := (H1.out.to hbw.out).at hx
            obtain ⟨hok2', m2, b2, o2, sa2, cap2, _, rfl, _, q0, q1, q2, hk2⟩ := (H2.out.to hbw.out).at hy
            have hk0 : (0 : Int) ≤ (k : Int) := by omega
            have hk1 : (k : Int) < (x.c.length : Int) := by omega
            have HK1 := Lib.hid hk'
            have HK2 := Lib.hid hk2
            have HO1 := Lib.hid hok'
            have HO2 := Lib.hid hok2'
            have HX := Lib.hid hx
            have HY := Lib.hid hy
            clear hx hy hk' hk2 hok' hok2'
            go_wp2_with fail
            go_still_tail 10, (by kernel_rfl)
            change wpList _ _ _ _ _ wr.drew
            go_upto_region 7 with ((go_at_call 21; (with_reducible refine (ih m hm p q sa cap' m2 sa2 cap2 _ HO1.out HO2.out HK1.out.drew HK2.out.drew).mono ?_); intro e w' hp; obtain ⟨bb, rfl, hbb⟩ := hp.bool; have hb1 := hp.1; clear hp))
            case roundEnd =>
              have hbt : bb = true := by cases bb <;> simp_all
              exact ⟨⟨k + 1, by omega, by go_num, hb.trans (Below.mono (below_drew' hb1) (by simpa using hzw)), take_step hT.out HX.out HY.out (hbb.1 hbt)⟩, by simp [intOf]; omega⟩
            have hbf : ¬ p = q := fun e => by have := hbb.2 e; subst this; simp_all
            have HN : Hid (¬ x = y) := fun e => by
              have h1 := HX.out
              rw [e, HY.out] at h1
              exact hbf (Option.some.inj h1).symm
            have HBF : Hid (Below w.heap.size w w') := hbw.out.trans (Below.mono (below_drew' hb1) hbw.out.size)
            go_wp2_with fail
            go_ret
            exact ⟨HBF.out, Or.inr ⟨HN.out, rfl⟩⟩
          · have hall : x.c = y.c := by
              have := hT.out
              rwa [List.take_of_length_le (by omega), List.take_of_length_le (by have := HLL.out; omega)] at this
            have HE : Hid (x = y) := HXY.out hall
            clear hall hT
            go_wp2_with fail
            go_ret
            exact ⟨hbw.out, Or.inl ⟨HE.out, rfl⟩⟩
      · have HN : Hid (¬ x = y) := fun e => hll (by rw [e])
        have hli : ¬ (x.c.length : Int) = (y.c.length : Int) := by omega
        show Calls Tryz.prog 21 #[.agg #[.int .i64 x.k, .string x.t, .slice a1 x.c.length c1], .agg #[.int .i64 y.k, .string y.t, .slice a2 y.c.length c2]] w _
        rw [← hkk, ← htt]
        rw [← hkk, ← htt] at hW0
        generalize x.k = kk at *
        generalize x.t = tt at *
        clear hkk htt
        go_enter Tryz.func21, Tryz.ntmps21
        go_wp2_with fail
        go_ret
        rw [hW0] at HB0
        exact ⟨HB0.out, Or.inr ⟨HN.out, rfl⟩⟩
    · have HN : Hid (¬ x = y) := fun e => htt (by rw [e])
      show Calls Tryz.prog 21 #[.agg #[.int .i64 x.k, .string x.t, .slice a1 x.c.length c1], .agg #[.int .i64 y.k, .string y.t, .slice a2 y.c.length c2]] w _
      rw [← hkk]
      rw [← hkk] at hW0
      generalize x.k = kk at *
      have hte := text_ne htt
      generalize x.t = tx at *
      generalize y.t = ty at *
      clear hkk
      go_enter Tryz.func21, Tryz.ntmps21
      go_wp2_with fail
      go_ret
      rw [hW0] at HB0
      exact ⟨HB0.out, Or.inr ⟨HN.out, rfl⟩⟩
  · have HN : Hid (¬ x = y) := fun e => hkk (by rw [e])
    show Calls Tryz.prog 21 #[.agg #[.int .i64 x.k, .string x.t, .slice a1 x.c.length c1], .agg #[.int .i64 y.k, .string y.t, .slice a2 y.c.length c2]] w _
    generalize x.k = kx at *
    generalize y.k = ky at *
    go_enter Tryz.func21, Tryz.ntmps21
    go_wp2_with fail
    go_ret
    rw [hW0] at HB0
    exact ⟨HB0.out, Or.inr ⟨HN.out, rfl⟩⟩
end Go.Proofs.YtbomilleckgalaaGreat

namespace Go.Proofs.YtbomilleckgalaaGreat.Ps
open Go.RowKit
set_option maxRecDepth 100000 in
set_option maxHeartbeats 4000000 in
theorem example_any1 (w : World) : Calls Tryz.prog 7 #[] w fun e w' => e = .returned (.bool true) ∧ Below w.heap.size w w' := by
  have K1 := Lib.hid (fun W => parse_file exSrc W (by rw [ex_size]; decide))
  have K2 := Lib.hid (fun W => parse_file exSrc2 W (by rw [ex_size2]; decide))
  have KU := Lib.hid (fun a c n W (hy : (fileT (Lx.L exSrc)).ok) (hk : Kids W (· < W.heap.size) n a (fileT (Lx.L exSrc)).c) => update_any exSrc ⟨#[52]⟩ 51 52 (fileT (Lx.L exSrc)) a c n W (by decide) (by rw [ex_size]; decide) (by rw [ex_size]; decide) (by rw [ex_size]; decide) hy hk)
  rw [ex_next] at KU
  unfold UpPost at KU
  rw [ex_kept] at KU
  unfold FilePost at K1 K2
  obtain ⟨l1, hl1⟩ : ∃ l1, l1 = Lx.L exSrc := ⟨_, rfl⟩
  obtain ⟨l2, hl2⟩ : ∃ l2, l2 = Lx.L exSrc2 := ⟨_, rfl⟩
  rw [← hl1] at K1 KU
  rw [← hl2] at K2 KU
  clear hl1 hl2
  obtain ⟨F, hF⟩ : ∃ F, F = fileT l1 := ⟨_, rfl⟩
  have HFC : Hid (F.c = parseC l1) := by show _ = _; rw [hF, fileT_c]
  obtain ⟨G, hG⟩ : ∃ G, G = fileT l2 := ⟨_, rfl⟩
  have HGC : Hid (G.c = parseC l2) := by show _ = _; rw [hG, fileT_c]
  rw [← hF, ← HFC.out] at K1
  rw [← hG, ← HGC.out] at K2
  rw [← hF, ← hG, ← HGC.out] at KU
  clear hF hG HFC HGC
  have KU' : Hid (∀ a c n W, F.ok → Kids W (· < W.heap.size) n a F.c → Calls Tryz.prog 17 #[.string exSrc, tv F a c, .agg #[.int .i64 51, .int .i64 52, .string ⟨#[52]⟩]] W fun e w' => Below W.heap.size W w' ∧ ∃ m ra rc, e = .returned (.tuple #[tv G ra rc, .int .i64 2, .int .i64 0]) ∧ Kids w' (· < w'.heap.size) m ra G.c ∧ G.ok) := fun a c n W h1 h2 => by
    refine (KU.out a c n W h1 h2).mono ?_
    rintro e w' ⟨hb, h | h⟩
    · obtain ⟨m, ra, rc, he, hk, hok⟩ := h.2
      exact ⟨hb, m, ra, rc, he, hk.up (fun _ hj => hj.1) (Nat.le_refl _), hok⟩
    · exact absurd rfl h.1
  clear KU
  have K1' : Hid (∀ W, Calls Tryz.prog 15 #[.string ⟨#[99, 111, 110, 115, 116, 32, 97, 58, 32, 105, 110, 116, 32, 61, 32, 49, 59, 10, 99, 111, 110, 115, 116, 32, 98, 58, 32, 105, 110, 116, 32, 61, 32, 50, 59, 10, 99, 111, 110, 115, 116, 32, 99, 58, 32, 105, 110, 116, 32, 61, 32, 51, 59, 10]⟩] W _) := K1
  have K2' : Hid (∀ W, Calls Tryz.prog 15 #[.string ⟨#[99, 111, 110, 115, 116, 32, 97, 58, 32, 105, 110, 116, 32, 61, 32, 49, 59, 10, 99, 111, 110, 115, 116, 32, 98, 58, 32, 105, 110, 116, 32, 61, 32, 50, 59, 10, 99, 111, 110, 115, 116, 32, 99, 58, 32, 105, 110, 116, 32, 61, 32, 52, 59, 10]⟩] W _) := K2
  clear K1 K2
  go_enter Tryz.func7, Tryz.ntmps7
  go_wp2_with fail
  refine (K1'.out w).mono ?_
  rintro e w1 ⟨hb, m1, ra, rc, rfl, hk, hok, _, _⟩
  have hz := hb.size
  have HB1 : Hid (Below w.heap.size w (w1.alloc (.cells #[.int .i64 F.k, .string F.t, .slice ra F.c.length rc] 40))) := (hb.alloc hz _)
  have HK1 : Hid (Kids (w1.alloc (.cells #[.int .i64 F.k, .string F.t, .slice ra F.c.length rc] 40)) (· < (w1.alloc (.cells #[.int .i64 F.k, .string F.t, .slice ra F.c.length rc] 40)).heap.size) m1 ra F.c) := Kids.to (hk.up (fun j hj => hj.1.lt) (Nat.le_refl _)) ((Below.refl _ _).alloc (Nat.le_refl _) _)
  have HO1 := Lib.hid hok
  clear hb hk hok
  go_wp2_with fail
  change Calls _ _ _ (w1.alloc (.cells #[.int .i64 F.k, .string F.t, .slice ra F.c.length rc] 40)) _
  generalize (w1.alloc (.cells #[.int .i64 F.k, .string F.t, .slice ra F.c.length rc] 40)) = w2 at *
  refine (KU'.out ra rc m1 w2 HO1.out HK1.out).mono ?_
  rintro e w3 ⟨hb, m3, rb, rd, rfl, hk, hok⟩
  have hz2 := HB1.out.size
  have HB3 : Hid (Below w.heap.size w (w3.alloc (.cells #[.int .i64 G.k, .string G.t, .slice rb G.c.length rd] 40))) := (HB1.out.trans (hb.mono hz2)).alloc (by have := hb.size; omega) _
  have HK3 : Hid (Kids (w3.alloc (.cells #[.int .i64 G.k, .string G.t, .slice rb G.c.length rd] 40)) (· < (w3.alloc (.cells #[.int .i64 G.k, .string G.t, .slice rb G.c.length rd] 40)).heap.size) m3 rb G.c) := Kids.to hk ((Below.refl _ _).alloc (Nat.le_refl _) _)
  have HO3 := Lib.hid hok
  have HE3 : Hid ((w3.alloc (.cells #[.int .i64 G.k, .string G.t, .slice rb G.c.length rd] 40)).heap[w3.heap.size]? = some (.cells #[.int .i64 G.k, .string G.t, .slice rb G.c.length rd] 40 (0, 0))) := heap_alloc_new w3 _
  clear hb hk hok HK1 HO1 KU'
  go_wp2_with fail
  change Calls _ _ _ (w3.alloc (.cells #[.int .i64 G.k, .string G.t, .slice rb G.c.length rd] 40)) _
  generalize (w3.alloc (.cells #[.int .i64 G.k, .string G.t, .slice rb G.c.length rd] 40)) = w4 at *
  refine (K2'.out w4).mono ?_
  rintro e w5 ⟨hb, m5, rf, rg, rfl, hk, hok, _, _⟩
  have hz4 := HB3.out.size
  have hb5 : Below w5.heap.size w5 (w5.alloc (.cells #[.int .i64 G.k, .string G.t, .slice rf G.c.length rg] 40)) := (Below.refl _ _).alloc (Nat.le_refl _) _
  have HB5 : Hid (Below w.heap.size w (w5.alloc (.cells #[.int .i64 G.k, .string G.t, .slice rf G.c.length rg] 40))) := (HB3.out.trans (hb.mono hz4)).alloc (by have := hb.size; omega) _
  have HK5 : Hid (Kids (w5.alloc (.cells #[.int .i64 G.k, .string G.t, .slice rf G.c.length rg] 40)) (· < (w5.alloc (.cells #[.int .i64 G.k, .string G.t, .slice rf G.c.length rg] 40)).heap.size) m5 rf G.c) := Kids.to (hk.up (fun j hj => hj.1.lt) (Nat.le_refl _)) hb5
  have HL5 : Hid (Kids (w5.alloc (.cells #[.int .i64 G.k, .string G.t, .slice rf G.c.length rg] 40)) (· < (w5.alloc (.cells #[.int .i64 G.k, .string G.t, .slice rf G.c.length rg] 40)).heap.size) m3 rb G.c) := (HK3.out.to hb).to hb5
  obtain ⟨c0, c1, c2, _⟩ := three_facts (held_to (held_to HE3.out hb) hb5)
  have HQ := Lib.hid (tree_eq1 m3 G G rb rd m5 rf rg _ HO3.out hok HL5.out HK5.out)
  clear hb hb5 hk hok HK3 HO3 HE3 K2' HK5 HL5
  go_wp2_with fail
  refine HQ.out.mono ?_
  rintro e w6 ⟨hb6, ⟨_, rfl⟩ | ⟨hne, _⟩⟩
  · have HB6 : Hid (Below w.heap.size w w6) := HB5.out.trans (hb6.mono HB5.out.size)
    go_wp2_with fail
    go_ret
    exact ⟨rfl, HB6.out⟩
  · exact absurd rfl hne
end Go.Proofs.YtbomilleckgalaaGreat.Ps

namespace Go.Proofs.YtbomilleckgalaaGreat.Lx
open Go.RowKit Go.Proofs.YtbomilleckgalaaGreat.Te Go.Proofs.YtbomilleckgalaaGreat.Ps

theorem errV_bad {n : Nat} {x : Ed} (h : ¬ (0 ≤ x.s ∧ x.s ≤ x.e ∧ x.e ≤ n)) : errV n [x] ≠ 0 := by
  have e1 : sepFrom (n : Int) (-1) [x] = false := by
    unfold sepFrom
    rw [if_pos (by omega)]
  unfold Te.errV
  by_cases h1 : 2000 < (n : Int) ∨ (50 : Int) < ([x].length : Int)
  · rw [if_pos h1]; decide
  · rw [if_neg h1, if_pos e1]; decide

theorem errV_long {n : Nat} {x : Ed} (h1 : 0 ≤ x.s) (h2 : x.s ≤ x.e) (h3 : x.e ≤ n) (h4 : n ≤ 2000) (h5 : ¬ (n : Int) - (x.e - x.s) + x.t.size ≤ 2000) : errV n [x] = 2 := by
  have e1 : sepFrom (n : Int) (-1) [x] = true := by
    unfold sepFrom
    rw [if_neg (by omega)]
    rfl
  have e2 : fitsB (n : Int) [x] = false := by
    unfold fitsB
    exact decide_eq_false (by simp only [tsum, dsum]; omega)
  unfold Te.errV
  rw [e1, e2, if_neg (by simp; omega), if_neg (by simp), if_pos rfl]

theorem add_threes (a b c : ByteArray) (h : a.size + b.size + c.size ≤ 2000000) :
    (∀ W, (Op.stringOp .add a b).run Tryz.prog W = .ok (.string (a ++ b)) W) ∧ (∀ W, (Op.stringOp .add (a ++ b) c).run Tryz.prog W = .ok (.string (a ++ b ++ c)) W) :=
  ⟨fun W => run_string_add W _ _ (by omega) (by omega), fun W => run_string_add W _ _ (by rw [ByteArray.size_append]; omega) (by omega)⟩

set_option maxHeartbeats 1000000 in
set_option maxRecDepth 100000 in
theorem splice_big (z t : ByteArray) (s e : Nat) (w : World) (h0 : s ≤ e) (h1 : e ≤ z.size) (h2 : z.size ≤ 2000) (h3 : t.size ≤ 1100000) :
    Calls Tryz.prog 11 #[.string z, .agg #[.int .i64 s, .int .i64 e, .string t]] w fun r w' => ∃ y, r = .returned (.string y) ∧ L y = next (L z) ⟨(s : Nat), (e : Nat), t⟩ ∧ Below w.heap.size w w' := by
  have a1 : (z.extract 0 s).size = s := by simp; omega
  have a2 : (z.extract e z.size).size = z.size - e := by simp
  obtain ⟨d1, d2⟩ := add_threes (z.extract 0 s) t (z.extract e z.size) (by omega)
  have hy : Hid (L (z.extract 0 s ++ t ++ z.extract e z.size) = next (L z) ⟨(s : Nat), (e : Nat), t⟩) := by
    show _ = _
    rw [L_append, L_append, take_is, drop_is, L_bs, L_bs, List.append_assoc]
    rfl
  have i0 : (s : Int) ≤ e := by omega
  have i1 : (e : Int) ≤ z.size := by omega
  have i2 : (z.size : Int) ≤ 2000 := by omega
  have i3 : (s : Int) ≤ z.size := by omega
  clear a1 a2
  go_enter Tryz.func11, Tryz.ntmps11
  go_wp2_with fail
  have hb : Below w.heap.size w (w.alloc (.cells #[.int .i64 s, .int .i64 e, .string t] 23)) := (Below.refl _ _).alloc (Nat.le_refl _) _
  go_quiet (fail)
  go_wp2_with fail
  go_ret
  exact ⟨_, rfl, hy.out, below_drewN' hb _⟩

/-- What the law holds on to: the edit in its box, the tokens that Update is given. -/
structure Fv (n0 : Nat) (x : Ed) (ta : Option Addr) (m : List Tk) (W : World) : Prop where
  e : W.heap[n0]? = some (.cells #[.int .i64 x.s, .int .i64 x.e, .string x.t] 23 (0, 0))
  t : Tks W W.heap.size ta m
theorem Fv.to {n0 : Nat} {x : Ed} {ta : Option Addr} {m : List Tk} {W W' : World} (h : Fv n0 x ta m W) (hb : Below W.heap.size W W') : Fv n0 x ta m W' :=
  ⟨held_to h.e hb, h.t.below hb hb.size⟩

set_option maxRecDepth 100000 in
set_option maxHeartbeats 8000000 in
theorem ref_any (s : ByteArray) (x : Ed) (oa : Option Addr) (oc : Nat) (other : List Tk) (use : Bool) (w : World) (hs : s.size ≤ 1048576) (hok : x.ok) (hxt : x.t.size ≤ 1048576) (hoc : oa = none → oc = 0) (ho : Tks w w.heap.size oa other) (hol : other.length ≤ 1048576) :
    Calls Tryz.prog 3 #[.string s, .agg #[.int .i64 x.s, .int .i64 x.e, .string x.t], .slice oa other.length oc, .bool use] w fun e w' => e = .returned (.bool true) ∧ Below w.heap.size w w' := by
  have HE := fun W : World => Lib.hid (example_any1 W)
  have KR := Lib.hid (fun W => rtokens_any s W (by omega))
  unfold RToks at KR
  have HTL : Hid ((T (L s)).length ≤ 1048576) := Nat.le_trans (T_length _ (L s) (Nat.le_refl _)) (by rw [L_len]; exact hs)
  have HOK := Lib.hid hok
  have HOC := Lib.hid hoc
  have HOL := Lib.hid hol
  have i1 : (s.size : Int) ≤ 1048576 := by omega
  have HB0 : Hid (Below w.heap.size w (w.alloc (.cells #[.int .i64 x.s, .int .i64 x.e, .string x.t] 23))) := (Below.refl _ _).alloc (Nat.le_refl _) _
  have HE0 : Hid ((w.alloc (.cells #[.int .i64 x.s, .int .i64 x.e, .string x.t] 23)).heap[w.heap.size]? = some (.cells #[.int .i64 x.s, .int .i64 x.e, .string x.t] 23 (0, 0))) := heap_alloc_new w _
  have HO0 : Hid (Tks (w.alloc (.cells #[.int .i64 x.s, .int .i64 x.e, .string x.t] 23)) (w.alloc (.cells #[.int .i64 x.s, .int .i64 x.e, .string x.t] 23)).heap.size oa other) := ho.below HB0.out HB0.out.size
  clear ho hoc hol hok
  cases use
  · go_enter Tryz.func3, Tryz.ntmps3
    go_wp2_with fail
    change Calls _ _ _ (w.alloc (.cells #[.int .i64 x.s, .int .i64 x.e, .string x.t] 23)) _
    generalize w.alloc (.cells #[.int .i64 x.s, .int .i64 x.e, .string x.t] 23) = V0 at *
    refine (HE V0).out.mono ?_
    rintro e V1 ⟨rfl, hb⟩
    have HB1 := Lib.hid (HB0.out.trans (hb.mono HB0.out.size))
    have HE1 := Lib.hid (held_to HE0.out hb)
    have HO1 := Lib.hid (HO0.out.below hb hb.size)
    clear hb HB0 HE0 HO0 HE
    go_wp2_with fail
    refine (KR.out V1).mono ?_
    rintro e V2 ⟨v, rfl, hown, hb⟩
    have HB2 := Lib.hid (HB1.out.trans (hb.mono HB1.out.size))
    obtain ⟨ta, tc, rfl, _, htc, _, htk⟩ := hown.out.whole
    have HF2 : Hid (Fv w.heap.size x ta (T (L s)) V2) := ⟨held_to HE1.out hb, htk⟩
    have HTC := Lib.hid htc
    have HML := Lib.hid HTL.out
    clear htc htk hown hb HO1 HE1 HB1 HOC HOL
    obtain ⟨mm, hmm⟩ : ∃ mm, mm = T (L s) := ⟨_, rfl⟩
    rw [← hmm] at HF2 HML ⊢
    clear hmm
    obtain ⟨c0, c1, c2, f0, f1, f2⟩ := three_facts HF2.out.e
    have HML2 : (mm.length : Int) ≤ 1048576 := by have := HML.out; omega
    by_cases hs2 : 2000 < s.size
    · have HU := Lib.hid (update_long s (.slice ta mm.length tc) x V2 hs2 (by unfold maxLen; omega))
      have i2 : (2000 : Int) < (s.size : Int) := by omega
      clear hs2
      go_wp2_with fail
      refine HU.out.mono ?_
      rintro e V3 ⟨rfl, hb⟩
      have HB3 := Lib.hid (HB2.out.trans (hb.mono HB2.out.size))
      have HF3 := Lib.hid (HF2.out.to hb)
      clear hb HU HF2 HB2 c0 c1 c2 f0 f1 f2
      obtain ⟨c0, c1, c2, f0, f1, f2⟩ := three_facts HF3.out.e
      obtain ⟨xs, xe, xt⟩ := x
      simp only at c0 c1 c2
      by_cases v0 : 0 ≤ xs
      · obtain ⟨st, rfl⟩ := Int.eq_ofNat_of_zero_le v0
        clear v0
        by_cases v1 : (st : Int) ≤ xe
        · obtain ⟨en, rfl⟩ := Int.eq_ofNat_of_zero_le (show 0 ≤ xe by omega)
          have d1 : decide (st ≤ en) = true := decide_eq_true (by omega)
          clear v1
          by_cases v2 : en ≤ s.size
          · have d2 : decide (en ≤ s.size) = true := decide_eq_true v2
            clear v2
            go_wp2_with fail
            go_ret
            exact ⟨rfl, HB3.out⟩
          · have d2 : decide (en ≤ s.size) = false := decide_eq_false v2
            clear v2
            go_wp2_with fail
            go_ret
            exact ⟨rfl, HB3.out⟩
        · have d1 : decide ((st : Int) ≤ xe) = false := decide_eq_false v1
          clear v1
          go_wp2_with fail
          go_ret
          exact ⟨rfl, HB3.out⟩
      · have d0 : decide ((0 : Int) ≤ xs) = false := decide_eq_false v0
        clear v0
        go_wp2_with fail
        go_ret
        exact ⟨rfl, HB3.out⟩
    · have i2 : (s.size : Int) ≤ 2000 := by omega
      have HS2 := Lib.hid (show s.size ≤ 2000 by omega)
      clear hs2
      by_cases hv : 0 ≤ x.s ∧ x.s ≤ x.e ∧ x.e ≤ s.size
      · obtain ⟨v0, v1, v2⟩ := hv
        obtain ⟨st, hst⟩ := Int.eq_ofNat_of_zero_le v0
        obtain ⟨en, hen⟩ := Int.eq_ofNat_of_zero_le (show 0 ≤ x.e by omega)
        obtain ⟨xs, xe, xt⟩ := x
        simp only at hst hen v0 v1 v2 hxt c0 c1 c2
        subst hst hen
        have w1 : st ≤ en := by omega
        have w2 : en ≤ s.size := by omega
        have d1 : decide (st ≤ en) = true := decide_eq_true w1
        have d2 : decide (en ≤ s.size) = true := decide_eq_true w2
        have HW1 := Lib.hid w1
        have HW2 := Lib.hid w2
        clear v0 v1 v2
        by_cases hfit : (s.size : Int) - ((en : Int) - (st : Int)) + (xt.size : Int) ≤ 2000
        · have HFit : Hid (Fit s.size ⟨(st : Nat), (en : Nat), xt⟩) := ⟨by show (0 : Int) ≤ (st : Int); omega, by show (st : Int) ≤ (en : Int); omega, by show (en : Int) ≤ _; omega, by omega, hfit⟩
          by_cases hmt : mm = T (L s)
          · have HU := Lib.hid (update_ok s (.slice ta mm.length tc) ⟨(st : Nat), (en : Nat), xt⟩ V2 HFit.out ⟨ta, tc, by rw [hmt], HTC.out, by rw [← hmt]; exact HF2.out.t⟩)
            have HMT := Lib.hid hmt
            clear hmt hfit
            go_wp2_with fail
            refine HU.out.mono ?_
            rintro e V3 ⟨v', p, k, rfl, HRe, HOw, hb⟩
            obtain ⟨ga, gc, rfl, _, hgc, _, hgt⟩ := HOw.out.whole
            have HB3 := Lib.hid (HB2.out.trans (hb.mono HB2.out.size))
            have HF3 := Lib.hid (HF2.out.to hb)
            have HG3 := Lib.hid hgt
            clear hb HU HF2 HB2 c0 c1 c2 f0 f1 f2 HOw hgt hgc
            obtain ⟨c0, c1, c2, f0, f1, f2⟩ := three_facts HF3.out.e
            go_wp2_with fail
            refine (KR.out V3).mono ?_
            rintro e V4 ⟨v, rfl, hown, hb⟩
            obtain ⟨ra, rc, rfl, _, _, _, hrt⟩ := hown.out.whole
            have HB4 := Lib.hid (HB3.out.trans (hb.mono HB3.out.size))
            have HF4 := Lib.hid (HF3.out.to hb)
            have HG4 := Lib.hid (HG3.out.below hb hb.size)
            have HQ := Lib.hid (equal_any mm (T (L s)) ta tc ra rc V4 (by have := HML.out; omega) (by have := HTL.out; omega) HF4.out.t hrt)
            clear hb hown hrt HF3 HB3 HG3 c0 c1 c2 f0 f1 f2
            go_wp2_with fail
            refine HQ.out.mono ?_
            rintro e V5 ⟨r, rfl, hr, hb⟩
            obtain rfl : r = true := hr.2 HMT.out
            have HB5 := Lib.hid (HB4.out.trans (hb.mono HB4.out.size))
            have HF5 := Lib.hid (HF4.out.to hb)
            have HG5 := Lib.hid (HG4.out.below hb hb.size)
            clear hb hr HQ HF4 HB4 HG4 HMT
            obtain ⟨c0, c1, c2, f0, f1, f2⟩ := three_facts HF5.out.e
            go_wp2_with fail
            refine (splice_big s xt st en V5 HW1.out HW2.out HS2.out (by omega)).mono ?_
            rintro e V6 ⟨y, rfl, hy, hb⟩
            have HY := Lib.hid hy
            have hyz : y.size ≤ 2000 := by
              have h1 := HFit.out.len
              have h2 := HFit.out.2.2.2.2
              rw [← hy, L_len] at h1
              omega
            have hyi : (y.size : Int) ≤ 2000 := by omega
            have HYZ := Lib.hid hyz
            have HB6 := Lib.hid (HB5.out.trans (hb.mono HB5.out.size))
            have HF6 := Lib.hid (HF5.out.to hb)
            have HG6 := Lib.hid (HG5.out.below hb hb.size)
            clear hb hy hyz HF5 HB5 HG5 c0 c1 c2 f0 f1 f2
            obtain ⟨c0, c1, c2, f0, f1, f2⟩ := three_facts HF6.out.e
            have KY := Lib.hid (fun W => rtokens_any y W (by have := HYZ.out; omega))
            unfold RToks at KY
            rw [← HY.out] at HG6
            have HYL : Hid ((T (L y)).length ≤ 2000) := Nat.le_trans (T_length _ (L y) (Nat.le_refl _)) (by rw [L_len]; exact HYZ.out)
            have HNL : Hid ((T (next (L s) ⟨(st : Nat), (en : Nat), xt⟩)).length = (T (L y)).length) := by show _ = _; rw [HY.out]
            rw [HNL.out]
            have hyl : ((T (L y)).length : Int) ≤ 2000 := by have := HYL.out; omega
            go_wp2_with fail
            refine (KY.out V6).mono ?_
            rintro e V7 ⟨v, rfl, hown, hb⟩
            obtain ⟨na, nc, rfl, _, _, _, hnt⟩ := hown.out.whole
            have HB7 := Lib.hid (HB6.out.trans (hb.mono HB6.out.size))
            have HF7 := Lib.hid (HF6.out.to hb)
            have HQ := Lib.hid (equal_any (T (L y)) (T (L y)) ga gc na nc V7 (by have := HYL.out; omega) (by have := HYL.out; omega) (HG6.out.below hb hb.size) hnt)
            clear hb hown hnt HF6 HB6 HG6 c0 c1 c2 f0 f1 f2
            go_wp2_with fail
            refine HQ.out.mono ?_
            rintro e V8 ⟨r, rfl, hr, hb⟩
            obtain rfl : r = true := hr.2 (by first | trivial | rfl)
            have HB8 := Lib.hid (HB7.out.trans (hb.mono HB7.out.size))
            have HF8 := Lib.hid (HF7.out.to hb)
            clear hb hr HQ HF7 HB7
            obtain ⟨c0, c1, c2, f0, f1, f2⟩ := three_facts HF8.out.e
            have HRU := Lib.hid (reused_any s y xt st en p k V8 HFit.out HY.out HRe.out)
            go_wp2_with fail
            refine HRU.out.mono ?_
            rintro e V9 ⟨rfl, hb⟩
            have HB9 := Lib.hid (HB8.out.trans (hb.mono HB8.out.size))
            clear hb HRU HF8 HB8 c0 c1 c2 f0 f1 f2
            go_wp2_with fail
            go_ret
            exact ⟨rfl, HB9.out⟩
          · have HU := Lib.hid (update_other s (.slice ta mm.length tc) mm ⟨(st : Nat), (en : Nat), xt⟩ V2 HFit.out ⟨ta, tc, rfl, HTC.out, HF2.out.t⟩ (by have := HML.out; omega) hmt)
            have HMT := Lib.hid hmt
            clear hmt hfit
            go_wp2_with fail
            refine HU.out.mono ?_
            rintro e V3 ⟨rfl, hb⟩
            have HB3 := Lib.hid (HB2.out.trans (hb.mono HB2.out.size))
            have HF3 := Lib.hid (HF2.out.to hb)
            clear hb HU HF2 HB2 c0 c1 c2 f0 f1 f2
            obtain ⟨c0, c1, c2, f0, f1, f2⟩ := three_facts HF3.out.e
            go_wp2_with fail
            refine (KR.out V3).mono ?_
            rintro e V4 ⟨v, rfl, hown, hb⟩
            obtain ⟨ra, rc, rfl, _, _, _, hrt⟩ := hown.out.whole
            have HB4 := Lib.hid (HB3.out.trans (hb.mono HB3.out.size))
            have HF4 := Lib.hid (HF3.out.to hb)
            have HQ := Lib.hid (equal_any mm (T (L s)) ta tc ra rc V4 (by have := HML.out; omega) (by have := HTL.out; omega) HF4.out.t hrt)
            clear hb hown hrt HF3 HB3 c0 c1 c2 f0 f1 f2
            go_wp2_with fail
            refine HQ.out.mono ?_
            rintro e V5 ⟨r, rfl, hr, hb⟩
            obtain rfl : r = false := by
              cases r with
              | false => rfl
              | true => exact absurd (hr.1 rfl) HMT.out
            have HB5 := Lib.hid (HB4.out.trans (hb.mono HB4.out.size))
            clear hb hr HQ HF4 HB4
            go_wp2_with fail
            go_ret
            exact ⟨rfl, HB5.out⟩
        · have hev : errV s.size [⟨(st : Nat), (en : Nat), xt⟩] = 2 := errV_long (by show (0 : Int) ≤ (st : Int); omega) (by show (st : Int) ≤ (en : Int); omega) (by show (en : Int) ≤ _; omega) HS2.out hfit
          have HU := Lib.hid (update_bad s (.slice ta mm.length tc) ⟨(st : Nat), (en : Nat), xt⟩ V2 HS2.out HOK.out (by rw [hev]; decide))
          rw [hev] at HU
          have HNF := Lib.hid hfit
          clear hev hfit
          go_wp2_with fail
          refine HU.out.mono ?_
          rintro e V3 ⟨rfl, hb⟩
          have HB3 := Lib.hid (HB2.out.trans (hb.mono HB2.out.size))
          have HF3 := Lib.hid (HF2.out.to hb)
          clear hb HU HF2 HB2 c0 c1 c2 f0 f1 f2
          obtain ⟨c0, c1, c2, f0, f1, f2⟩ := three_facts HF3.out.e
          go_wp2_with fail
          refine (KR.out V3).mono ?_
          rintro e V4 ⟨v, rfl, hown, hb⟩
          obtain ⟨ra, rc, rfl, _, _, _, hrt⟩ := hown.out.whole
          have HB4 := Lib.hid (HB3.out.trans (hb.mono HB3.out.size))
          have HF4 := Lib.hid (HF3.out.to hb)
          have HQ := Lib.hid (equal_any mm (T (L s)) ta tc ra rc V4 (by have := HML.out; omega) (by have := HTL.out; omega) HF4.out.t hrt)
          clear hb hown hrt HF3 HB3 c0 c1 c2 f0 f1 f2
          go_wp2_with fail
          refine HQ.out.mono ?_
          rintro e V5 ⟨r, rfl, hr, hb⟩
          have HB5 := Lib.hid (HB4.out.trans (hb.mono HB4.out.size))
          have HF5 := Lib.hid (HF4.out.to hb)
          clear hb hr HQ HF4 HB4
          cases r
          · go_wp2_with fail
            go_ret
            exact ⟨rfl, HB5.out⟩
          · obtain ⟨c0, c1, c2, f0, f1, f2⟩ := three_facts HF5.out.e
            go_wp2_with fail
            refine (splice_big s xt st en V5 HW1.out HW2.out HS2.out (by omega)).mono ?_
            rintro e V6 ⟨y, rfl, hy, hb⟩
            have hyi : (2000 : Int) < (y.size : Int) := by
              have h1 := next_len (l := L s) (x := ⟨(st : Nat), (en : Nat), xt⟩) (by show (0 : Int) ≤ (st : Int); omega) (by show (st : Int) ≤ (en : Int); have := HW1.out; omega) (by rw [L_len]; show (en : Int) ≤ _; have := HW2.out; omega)
              rw [← hy, L_len, L_len, L_len] at h1
              simp only at h1
              have := HNF.out
              omega
            have hym : (y.size : Int) ≤ 3000000 := by
              have h1 := next_len (l := L s) (x := ⟨(st : Nat), (en : Nat), xt⟩) (by show (0 : Int) ≤ (st : Int); omega) (by show (st : Int) ≤ (en : Int); have := HW1.out; omega) (by rw [L_len]; show (en : Int) ≤ _; have := HW2.out; omega)
              rw [← hy, L_len, L_len, L_len] at h1
              simp only at h1
              omega
            have HB6 := Lib.hid (HB5.out.trans (hb.mono HB5.out.size))
            clear hb hy HF5 HB5 c0 c1 c2 f0 f1 f2
            go_wp2_with fail
            go_ret
            exact ⟨rfl, HB6.out⟩
      · have hev : errV s.size [x] ≠ 0 := errV_bad hv
        have HU := Lib.hid (update_bad s (.slice ta mm.length tc) x V2 HS2.out HOK.out hev)
        generalize errV s.size [x] = er at *
        have hv1 : (er != 0) = true := by simpa using hev
        clear hev
        go_wp2_with fail
        refine HU.out.mono ?_
        rintro e V3 ⟨rfl, hb⟩
        have HB3 := Lib.hid (HB2.out.trans (hb.mono HB2.out.size))
        have HF3 := Lib.hid (HF2.out.to hb)
        clear hb HU HF2 HB2 c0 c1 c2 f0 f1 f2
        obtain ⟨c0, c1, c2, f0, f1, f2⟩ := three_facts HF3.out.e
        obtain ⟨xs, xe, xt⟩ := x
        simp only at c0 c1 c2
        by_cases v0 : 0 ≤ xs
        · obtain ⟨st, rfl⟩ := Int.eq_ofNat_of_zero_le v0
          clear v0
          by_cases v1 : (st : Int) ≤ xe
          · obtain ⟨en, rfl⟩ := Int.eq_ofNat_of_zero_le (show 0 ≤ xe by omega)
            have d1 : decide (st ≤ en) = true := decide_eq_true (by omega)
            clear v1
            by_cases v2 : en ≤ s.size
            · exact absurd ⟨by show (0 : Int) ≤ (st : Int); omega, by show (st : Int) ≤ (en : Int); have := of_decide_eq_true d1; omega, by show (en : Int) ≤ _; omega⟩ hv
            · clear hv
              have d2 : decide (en ≤ s.size) = false := decide_eq_false v2
              clear v2
              go_wp2_with fail
              go_ret
              exact ⟨rfl, HB3.out⟩
          · have d1 : decide ((st : Int) ≤ xe) = false := decide_eq_false v1
            clear v1 hv
            go_wp2_with fail
            go_ret
            exact ⟨rfl, HB3.out⟩
        · have d0 : decide ((0 : Int) ≤ xs) = false := decide_eq_false v0
          clear v0 hv
          go_wp2_with fail
          go_ret
          exact ⟨rfl, HB3.out⟩
  · go_enter Tryz.func3, Tryz.ntmps3
    go_wp2_with fail
    change Calls _ _ _ (w.alloc (.cells #[.int .i64 x.s, .int .i64 x.e, .string x.t] 23)) _
    generalize w.alloc (.cells #[.int .i64 x.s, .int .i64 x.e, .string x.t] 23) = V0 at *
    refine (HE V0).out.mono ?_
    rintro e V1 ⟨rfl, hb⟩
    have HB1 := Lib.hid (HB0.out.trans (hb.mono HB0.out.size))
    have HE1 := Lib.hid (held_to HE0.out hb)
    have HO1 := Lib.hid (HO0.out.below hb hb.size)
    clear hb HB0 HE0 HO0 HE
    go_wp2_with fail
    refine (KR.out V1).mono ?_
    rintro e V2 ⟨v, rfl, hown, hb⟩
    have HB2 := Lib.hid (HB1.out.trans (hb.mono HB1.out.size))
    have HF2 : Hid (Fv w.heap.size x oa other V2) := ⟨held_to HE1.out hb, HO1.out.below hb hb.size⟩
    obtain ⟨ta, hta⟩ : ∃ ta, ta = oa := ⟨_, rfl⟩
    obtain ⟨tc, htc⟩ : ∃ tc, tc = oc := ⟨_, rfl⟩
    obtain ⟨mm, hmm⟩ : ∃ mm, mm = other := ⟨_, rfl⟩
    subst hta htc hmm
    have HTC := Lib.hid HOC.out
    have HML := Lib.hid HOL.out
    obtain ⟨v1, v2, rfl, _, _⟩ := hown.out.tks
    clear hown hb HO1 HE1 HB1 HOC HOL
    obtain ⟨c0, c1, c2, f0, f1, f2⟩ := three_facts HF2.out.e
    have HML2 : (mm.length : Int) ≤ 1048576 := by have := HML.out; omega
    by_cases hs2 : 2000 < s.size
    · have HU := Lib.hid (update_long s (.slice ta mm.length tc) x V2 hs2 (by unfold maxLen; omega))
      have i2 : (2000 : Int) < (s.size : Int) := by omega
      clear hs2
      go_wp2_with fail
      refine HU.out.mono ?_
      rintro e V3 ⟨rfl, hb⟩
      have HB3 := Lib.hid (HB2.out.trans (hb.mono HB2.out.size))
      have HF3 := Lib.hid (HF2.out.to hb)
      clear hb HU HF2 HB2 c0 c1 c2 f0 f1 f2
      obtain ⟨c0, c1, c2, f0, f1, f2⟩ := three_facts HF3.out.e
      obtain ⟨xs, xe, xt⟩ := x
      simp only at c0 c1 c2
      by_cases v0 : 0 ≤ xs
      · obtain ⟨st, rfl⟩ := Int.eq_ofNat_of_zero_le v0
        clear v0
        by_cases v1 : (st : Int) ≤ xe
        · obtain ⟨en, rfl⟩ := Int.eq_ofNat_of_zero_le (show 0 ≤ xe by omega)
          have d1 : decide (st ≤ en) = true := decide_eq_true (by omega)
          clear v1
          by_cases v2 : en ≤ s.size
          · have d2 : decide (en ≤ s.size) = true := decide_eq_true v2
            clear v2
            go_wp2_with fail
            go_ret
            exact ⟨rfl, HB3.out⟩
          · have d2 : decide (en ≤ s.size) = false := decide_eq_false v2
            clear v2
            go_wp2_with fail
            go_ret
            exact ⟨rfl, HB3.out⟩
        · have d1 : decide ((st : Int) ≤ xe) = false := decide_eq_false v1
          clear v1
          go_wp2_with fail
          go_ret
          exact ⟨rfl, HB3.out⟩
      · have d0 : decide ((0 : Int) ≤ xs) = false := decide_eq_false v0
        clear v0
        go_wp2_with fail
        go_ret
        exact ⟨rfl, HB3.out⟩
    · have i2 : (s.size : Int) ≤ 2000 := by omega
      have HS2 := Lib.hid (show s.size ≤ 2000 by omega)
      clear hs2
      by_cases hv : 0 ≤ x.s ∧ x.s ≤ x.e ∧ x.e ≤ s.size
      · obtain ⟨v0, v1, v2⟩ := hv
        obtain ⟨st, hst⟩ := Int.eq_ofNat_of_zero_le v0
        obtain ⟨en, hen⟩ := Int.eq_ofNat_of_zero_le (show 0 ≤ x.e by omega)
        obtain ⟨xs, xe, xt⟩ := x
        simp only at hst hen v0 v1 v2 hxt c0 c1 c2
        subst hst hen
        have w1 : st ≤ en := by omega
        have w2 : en ≤ s.size := by omega
        have d1 : decide (st ≤ en) = true := decide_eq_true w1
        have d2 : decide (en ≤ s.size) = true := decide_eq_true w2
        have HW1 := Lib.hid w1
        have HW2 := Lib.hid w2
        clear v0 v1 v2
        by_cases hfit : (s.size : Int) - ((en : Int) - (st : Int)) + (xt.size : Int) ≤ 2000
        · have HFit : Hid (Fit s.size ⟨(st : Nat), (en : Nat), xt⟩) := ⟨by show (0 : Int) ≤ (st : Int); omega, by show (st : Int) ≤ (en : Int); omega, by show (en : Int) ≤ _; omega, by omega, hfit⟩
          by_cases hmt : mm = T (L s)
          · have HU := Lib.hid (update_ok s (.slice ta mm.length tc) ⟨(st : Nat), (en : Nat), xt⟩ V2 HFit.out ⟨ta, tc, by rw [hmt], HTC.out, by rw [← hmt]; exact HF2.out.t⟩)
            have HMT := Lib.hid hmt
            clear hmt hfit
            go_wp2_with fail
            refine HU.out.mono ?_
            rintro e V3 ⟨v', p, k, rfl, HRe, HOw, hb⟩
            obtain ⟨ga, gc, rfl, _, hgc, _, hgt⟩ := HOw.out.whole
            have HB3 := Lib.hid (HB2.out.trans (hb.mono HB2.out.size))
            have HF3 := Lib.hid (HF2.out.to hb)
            have HG3 := Lib.hid hgt
            clear hb HU HF2 HB2 c0 c1 c2 f0 f1 f2 HOw hgt hgc
            obtain ⟨c0, c1, c2, f0, f1, f2⟩ := three_facts HF3.out.e
            go_wp2_with fail
            refine (KR.out V3).mono ?_
            rintro e V4 ⟨v, rfl, hown, hb⟩
            obtain ⟨ra, rc, rfl, _, _, _, hrt⟩ := hown.out.whole
            have HB4 := Lib.hid (HB3.out.trans (hb.mono HB3.out.size))
            have HF4 := Lib.hid (HF3.out.to hb)
            have HG4 := Lib.hid (HG3.out.below hb hb.size)
            have HQ := Lib.hid (equal_any mm (T (L s)) ta tc ra rc V4 (by have := HML.out; omega) (by have := HTL.out; omega) HF4.out.t hrt)
            clear hb hown hrt HF3 HB3 HG3 c0 c1 c2 f0 f1 f2
            go_wp2_with fail
            refine HQ.out.mono ?_
            rintro e V5 ⟨r, rfl, hr, hb⟩
            obtain rfl : r = true := hr.2 HMT.out
            have HB5 := Lib.hid (HB4.out.trans (hb.mono HB4.out.size))
            have HF5 := Lib.hid (HF4.out.to hb)
            have HG5 := Lib.hid (HG4.out.below hb hb.size)
            clear hb hr HQ HF4 HB4 HG4 HMT
            obtain ⟨c0, c1, c2, f0, f1, f2⟩ := three_facts HF5.out.e
            go_wp2_with fail
            refine (splice_big s xt st en V5 HW1.out HW2.out HS2.out (by omega)).mono ?_
            rintro e V6 ⟨y, rfl, hy, hb⟩
            have HY := Lib.hid hy
            have hyz : y.size ≤ 2000 := by
              have h1 := HFit.out.len
              have h2 := HFit.out.2.2.2.2
              rw [← hy, L_len] at h1
              omega
            have hyi : (y.size : Int) ≤ 2000 := by omega
            have HYZ := Lib.hid hyz
            have HB6 := Lib.hid (HB5.out.trans (hb.mono HB5.out.size))
            have HF6 := Lib.hid (HF5.out.to hb)
            have HG6 := Lib.hid (HG5.out.below hb hb.size)
            clear hb hy hyz HF5 HB5 HG5 c0 c1 c2 f0 f1 f2
            obtain ⟨c0, c1, c2, f0, f1, f2⟩ := three_facts HF6.out.e
            have KY := Lib.hid (fun W => rtokens_any y W (by have := HYZ.out; omega))
            unfold RToks at KY
            rw [← HY.out] at HG6
            have HYL : Hid ((T (L y)).length ≤ 2000) := Nat.le_trans (T_length _ (L y) (Nat.le_refl _)) (by rw [L_len]; exact HYZ.out)
            have HNL : Hid ((T (next (L s) ⟨(st : Nat), (en : Nat), xt⟩)).length = (T (L y)).length) := by show _ = _; rw [HY.out]
            rw [HNL.out]
            have hyl : ((T (L y)).length : Int) ≤ 2000 := by have := HYL.out; omega
            go_wp2_with fail
            refine (KY.out V6).mono ?_
            rintro e V7 ⟨v, rfl, hown, hb⟩
            obtain ⟨na, nc, rfl, _, _, _, hnt⟩ := hown.out.whole
            have HB7 := Lib.hid (HB6.out.trans (hb.mono HB6.out.size))
            have HF7 := Lib.hid (HF6.out.to hb)
            have HQ := Lib.hid (equal_any (T (L y)) (T (L y)) ga gc na nc V7 (by have := HYL.out; omega) (by have := HYL.out; omega) (HG6.out.below hb hb.size) hnt)
            clear hb hown hnt HF6 HB6 HG6 c0 c1 c2 f0 f1 f2
            go_wp2_with fail
            refine HQ.out.mono ?_
            rintro e V8 ⟨r, rfl, hr, hb⟩
            obtain rfl : r = true := hr.2 (by first | trivial | rfl)
            have HB8 := Lib.hid (HB7.out.trans (hb.mono HB7.out.size))
            have HF8 := Lib.hid (HF7.out.to hb)
            clear hb hr HQ HF7 HB7
            obtain ⟨c0, c1, c2, f0, f1, f2⟩ := three_facts HF8.out.e
            have HRU := Lib.hid (reused_any s y xt st en p k V8 HFit.out HY.out HRe.out)
            go_wp2_with fail
            refine HRU.out.mono ?_
            rintro e V9 ⟨rfl, hb⟩
            have HB9 := Lib.hid (HB8.out.trans (hb.mono HB8.out.size))
            clear hb HRU HF8 HB8 c0 c1 c2 f0 f1 f2
            go_wp2_with fail
            go_ret
            exact ⟨rfl, HB9.out⟩
          · have HU := Lib.hid (update_other s (.slice ta mm.length tc) mm ⟨(st : Nat), (en : Nat), xt⟩ V2 HFit.out ⟨ta, tc, rfl, HTC.out, HF2.out.t⟩ (by have := HML.out; omega) hmt)
            have HMT := Lib.hid hmt
            clear hmt hfit
            go_wp2_with fail
            refine HU.out.mono ?_
            rintro e V3 ⟨rfl, hb⟩
            have HB3 := Lib.hid (HB2.out.trans (hb.mono HB2.out.size))
            have HF3 := Lib.hid (HF2.out.to hb)
            clear hb HU HF2 HB2 c0 c1 c2 f0 f1 f2
            obtain ⟨c0, c1, c2, f0, f1, f2⟩ := three_facts HF3.out.e
            go_wp2_with fail
            refine (KR.out V3).mono ?_
            rintro e V4 ⟨v, rfl, hown, hb⟩
            obtain ⟨ra, rc, rfl, _, _, _, hrt⟩ := hown.out.whole
            have HB4 := Lib.hid (HB3.out.trans (hb.mono HB3.out.size))
            have HF4 := Lib.hid (HF3.out.to hb)
            have HQ := Lib.hid (equal_any mm (T (L s)) ta tc ra rc V4 (by have := HML.out; omega) (by have := HTL.out; omega) HF4.out.t hrt)
            clear hb hown hrt HF3 HB3 c0 c1 c2 f0 f1 f2
            go_wp2_with fail
            refine HQ.out.mono ?_
            rintro e V5 ⟨r, rfl, hr, hb⟩
            obtain rfl : r = false := by
              cases r with
              | false => rfl
              | true => exact absurd (hr.1 rfl) HMT.out
            have HB5 := Lib.hid (HB4.out.trans (hb.mono HB4.out.size))
            clear hb hr HQ HF4 HB4
            go_wp2_with fail
            go_ret
            exact ⟨rfl, HB5.out⟩
        · have hev : errV s.size [⟨(st : Nat), (en : Nat), xt⟩] = 2 := errV_long (by show (0 : Int) ≤ (st : Int); omega) (by show (st : Int) ≤ (en : Int); omega) (by show (en : Int) ≤ _; omega) HS2.out hfit
          have HU := Lib.hid (update_bad s (.slice ta mm.length tc) ⟨(st : Nat), (en : Nat), xt⟩ V2 HS2.out HOK.out (by rw [hev]; decide))
          rw [hev] at HU
          have HNF := Lib.hid hfit
          clear hev hfit
          go_wp2_with fail
          refine HU.out.mono ?_
          rintro e V3 ⟨rfl, hb⟩
          have HB3 := Lib.hid (HB2.out.trans (hb.mono HB2.out.size))
          have HF3 := Lib.hid (HF2.out.to hb)
          clear hb HU HF2 HB2 c0 c1 c2 f0 f1 f2
          obtain ⟨c0, c1, c2, f0, f1, f2⟩ := three_facts HF3.out.e
          go_wp2_with fail
          refine (KR.out V3).mono ?_
          rintro e V4 ⟨v, rfl, hown, hb⟩
          obtain ⟨ra, rc, rfl, _, _, _, hrt⟩ := hown.out.whole
          have HB4 := Lib.hid (HB3.out.trans (hb.mono HB3.out.size))
          have HF4 := Lib.hid (HF3.out.to hb)
          have HQ := Lib.hid (equal_any mm (T (L s)) ta tc ra rc V4 (by have := HML.out; omega) (by have := HTL.out; omega) HF4.out.t hrt)
          clear hb hown hrt HF3 HB3 c0 c1 c2 f0 f1 f2
          go_wp2_with fail
          refine HQ.out.mono ?_
          rintro e V5 ⟨r, rfl, hr, hb⟩
          have HB5 := Lib.hid (HB4.out.trans (hb.mono HB4.out.size))
          have HF5 := Lib.hid (HF4.out.to hb)
          clear hb hr HQ HF4 HB4
          cases r
          · go_wp2_with fail
            go_ret
            exact ⟨rfl, HB5.out⟩
          · obtain ⟨c0, c1, c2, f0, f1, f2⟩ := three_facts HF5.out.e
            go_wp2_with fail
            refine (splice_big s xt st en V5 HW1.out HW2.out HS2.out (by omega)).mono ?_
            rintro e V6 ⟨y, rfl, hy, hb⟩
            have hyi : (2000 : Int) < (y.size : Int) := by
              have h1 := next_len (l := L s) (x := ⟨(st : Nat), (en : Nat), xt⟩) (by show (0 : Int) ≤ (st : Int); omega) (by show (st : Int) ≤ (en : Int); have := HW1.out; omega) (by rw [L_len]; show (en : Int) ≤ _; have := HW2.out; omega)
              rw [← hy, L_len, L_len, L_len] at h1
              simp only at h1
              have := HNF.out
              omega
            have hym : (y.size : Int) ≤ 3000000 := by
              have h1 := next_len (l := L s) (x := ⟨(st : Nat), (en : Nat), xt⟩) (by show (0 : Int) ≤ (st : Int); omega) (by show (st : Int) ≤ (en : Int); have := HW1.out; omega) (by rw [L_len]; show (en : Int) ≤ _; have := HW2.out; omega)
              rw [← hy, L_len, L_len, L_len] at h1
              simp only at h1
              omega
            have HB6 := Lib.hid (HB5.out.trans (hb.mono HB5.out.size))
            clear hb hy HF5 HB5 c0 c1 c2 f0 f1 f2
            go_wp2_with fail
            go_ret
            exact ⟨rfl, HB6.out⟩
      · have hev : errV s.size [x] ≠ 0 := errV_bad hv
        have HU := Lib.hid (update_bad s (.slice ta mm.length tc) x V2 HS2.out HOK.out hev)
        generalize errV s.size [x] = er at *
        have hv1 : (er != 0) = true := by simpa using hev
        clear hev
        go_wp2_with fail
        refine HU.out.mono ?_
        rintro e V3 ⟨rfl, hb⟩
        have HB3 := Lib.hid (HB2.out.trans (hb.mono HB2.out.size))
        have HF3 := Lib.hid (HF2.out.to hb)
        clear hb HU HF2 HB2 c0 c1 c2 f0 f1 f2
        obtain ⟨c0, c1, c2, f0, f1, f2⟩ := three_facts HF3.out.e
        obtain ⟨xs, xe, xt⟩ := x
        simp only at c0 c1 c2
        by_cases v0 : 0 ≤ xs
        · obtain ⟨st, rfl⟩ := Int.eq_ofNat_of_zero_le v0
          clear v0
          by_cases v1 : (st : Int) ≤ xe
          · obtain ⟨en, rfl⟩ := Int.eq_ofNat_of_zero_le (show 0 ≤ xe by omega)
            have d1 : decide (st ≤ en) = true := decide_eq_true (by omega)
            clear v1
            by_cases v2 : en ≤ s.size
            · exact absurd ⟨by show (0 : Int) ≤ (st : Int); omega, by show (st : Int) ≤ (en : Int); have := of_decide_eq_true d1; omega, by show (en : Int) ≤ _; omega⟩ hv
            · clear hv
              have d2 : decide (en ≤ s.size) = false := decide_eq_false v2
              clear v2
              go_wp2_with fail
              go_ret
              exact ⟨rfl, HB3.out⟩
          · have d1 : decide ((st : Int) ≤ xe) = false := decide_eq_false v1
            clear v1 hv
            go_wp2_with fail
            go_ret
            exact ⟨rfl, HB3.out⟩
        · have d0 : decide ((0 : Int) ≤ xs) = false := decide_eq_false v0
          clear v0 hv
          go_wp2_with fail
          go_ret
          exact ⟨rfl, HB3.out⟩
end Go.Proofs.YtbomilleckgalaaGreat.Lx
