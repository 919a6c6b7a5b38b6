/-
  lexer.Keywords, lexer.Tokenize and lexer.IsIdentifier by their contracts.
-/
import Derived.Test.YtibiniokbcjjeaaLxFirst
namespace Go.Proofs.Ytibiniokbcjjeaa
open Go.RowKit

/-- The new block with the keywords. -/
def kwBlock : Obj := .cells (kws.map fun x => Value.string (bs x)).toArray 9

theorem keys_any (w : World) : Calls Try.prog 13 #[] w fun e w' => e = .returned (.slice (some ⟨w.heap.size, 0, none⟩) 22 22) ∧ w' = w.alloc kwBlock := by
  go_enter Try.func13, Try.ntmps13
  go_wp2_with fail
  go_ret
  exact ⟨rfl, rfl⟩

theorem kw_strs (w : World) : Strs (w.alloc kwBlock) (w.alloc kwBlock).heap.size (some ⟨w.heap.size, 0, none⟩) kws := Strs.new w kws

theorem kw_below (w : World) : Below w.heap.size w (w.alloc kwBlock) := (Below.refl _ _).alloc (Nat.le_refl _) _

theorem mem_bs {l : List (List UInt8)} {x : ByteArray} : x ∈ l.map bs ↔ L x ∈ l := by
  constructor
  · intro h
    obtain ⟨y, hy, rfl⟩ := List.mem_map.1 h
    rw [L_bs]; exact hy
  · intro h
    exact List.mem_map.2 ⟨L x, h, bs_L x⟩

theorem kw_contains (b B : Nat) (x : ByteArray) (w : World) (h : Strs w B (some ⟨b, 0, none⟩) kws) :
    Calls Try.prog 16 #[.slice (some ⟨b, 0, none⟩) 22 22, .string x] w fun e w' => e = .returned (.bool (kws.contains (L x))) ∧ w' = w := by
  have := Try.slices_Contains_string b 0 22 22 (kws.map bs) x w (by decide) (by omega) (by
    intro j hj
    rw [List.length_map] at hj
    have hx : kws[j]? = some (kws[j]'hj) := List.getElem?_eq_getElem hj
    obtain ⟨b', o, h1, h2, h3⟩ := h j _ hx
    cases h1
    rw [h3, List.getD_eq_getElem?_getD, List.getElem?_map, hx]
    rfl)
  have e : Lib.containsS ((kws.map bs).take 22) x = kws.contains (L x) := by
    rw [List.take_of_length_le (by decide)]
    rw [Bool.eq_iff_iff, Lib.containsS_iff, mem_bs]
    simp
  rw [e] at this
  exact this

theorem clone_any (s : ByteArray) (w : World) (hs : s.size ≤ 1000000) :
    Calls Try.prog 14 #[.string s] w fun e w' => e = .returned (.string s) ∧ Below w.heap.size w w' := by
  go_enter Try.func14, Try.ntmps14
  go_wp2_with fail
  refine (Try.stringslite_Clone s w (by omega)).mono ?_
  rintro e w' ⟨rfl, hb⟩
  go_wp2_with fail
  go_ret
  exact ⟨rfl, hb⟩

theorem alloc_at {w : World} {m : Nat} (h : w.heap.size = m) (o : Obj) : (w.alloc o).heap[m]? = some o := by subst h; exact heap_alloc_new w o

theorem OwnsT.lower {w : World} {B B0 : Nat} {v : Value} {l : List Tk} (h : OwnsT w B v l) (hB : B0 ≤ B) : OwnsT w B0 v l :=
  ⟨h.1, h.2.elim .inl fun ⟨g, cap, cur, hv, hb, hg⟩ => .inr ⟨g, cap, cur, hv, Nat.le_trans hB hb, hg⟩⟩

/-- How long a string is. -/
def strSize : Value → Nat | .string s => s.size | _ => 0

/-- What Tokenize hands back. -/
def Toks (s : ByteArray) (w : World) (e : Ending) (w' : World) : Prop := ∃ v, e = .returned (.tuple #[v, .int .i64 0]) ∧ Hid (OwnsT w' w.heap.size v (T (L s))) ∧ Below w.heap.size w w'

theorem tokK_keep {l : List UInt8} (h : ¬ (tok0 l).1 = 103) : tokK l = (tok0 l).1 := by unfold tokK; rw [if_neg (fun e => h e.1)]
theorem tokK_word {l : List UInt8} (h : (tok0 l).1 = 103) (h2 : kws.contains (l.take (tok0 l).2) = false) : tokK l = 103 := by
  unfold tokK tokN
  rw [if_neg (by rw [h2]; simp), h]
theorem tokK_key {l : List UInt8} (h : (tok0 l).1 = 103) (h2 : kws.contains (l.take (tok0 l).2) = true) : tokK l = 104 := by
  unfold tokK tokN
  rw [if_pos ⟨h, h2⟩]

theorem size_ne {s : ByteArray} (h : 0 < s.size) : s.toList.isEmpty = false := by
  rw [ByteArray.toList_eq]
  have h2 := L_len s
  unfold L at h2
  cases hl : s.data.toList with
  | nil => rw [hl] at h2; simp at h2; omega
  | cons _ _ => rfl

set_option maxHeartbeats 2000000 in
set_option maxRecDepth 100000 in
theorem tokenize_any (s : ByteArray) (w : World) (hs : s.size ≤ 2000) : Calls Try.prog 7 #[.string s] w (Toks s w) := by
  obtain ⟨i0, hi, hz0, hz1, hz2⟩ := info_parts info_tok
  have g0 : (s.size : Int) ≤ 2000 := by omega
  have K13 := Lib.hid (keys_any w)
  go_enter Try.func7, Try.ntmps7
  go_wp2_with fail
  refine K13.out.mono ?_
  rintro e w0 ⟨rfl, rfl⟩
  have HS0 := Lib.hid (kw_strs w)
  have B0 := kw_below w
  generalize hw0 : w.alloc kwBlock = w0 at *
  clear hw0
  have K20 := Lib.hid (clone_any s w0 (by omega))
  clear K13
  go_wp2_with fail
  refine K20.out.mono ?_
  rintro e w1 ⟨rfl, hb1⟩
  have HS1 : Hid (Strs w1 w1.heap.size (some ⟨w.heap.size, 0, none⟩) kws) := HS0.out.to hb1
  have B1 := B0.trans (hb1.mono B0.size)
  have B1s := B1.size
  clear HS0 B0 hb1 K20
  go_wp2_with fail
  go_loopw [4, 6] (fun v rv wr => ∃ (acc : List Tk) (ρ : ByteArray), rv = .string ρ ∧ acc.length + ρ.size ≤ 2000 ∧ Hid (T (L s) = acc ++ T (L ρ)) ∧ Hid (OwnsT wr w1.heap.size v acc) ∧ Below w1.heap.size w1 wr)
    (fun _ rv _ => strSize rv)
  case atStart => exact ⟨[], s, rfl, by simp; omega, rfl, OwnsT.nil _ _, Below.refl _ _⟩
  case round =>
    obtain ⟨acc, ρ, rfl, hlen, hT, hown, hb⟩ := hrel
    have hzw := hb.size
    by_cases hne : 0 < ρ.size
    · have hne1 := size_ne hne
      have K21 := Lib.hid (first_any ρ wr (by omega) hne)
      have hr : L ρ ≠ [] := by intro h; have := L_len ρ; rw [h] at this; simp at this; omega
      have hbd := tokN_bound hr
      rw [L_len] at hbd
      have HTc := Lib.hid (T_cons hr)
      have HK1 := Lib.hid (@tokK_keep (L ρ))
      have HK2 := Lib.hid (@tokK_word (L ρ))
      have HK3 := Lib.hid (@tokK_key (L ρ))
      unfold tokN at hbd HTc
      unfold Firsts at K21
      generalize (tok0 (L ρ)).1 = k at *
      generalize (tok0 (L ρ)).2 = n at *
      have HX : Hid (ρ.extract 0 n = bs ((L ρ).take n)) := take_is ρ n
      have HY : Hid (ρ.extract n ρ.size = bs ((L ρ).drop n)) := drop_is ρ n
      have HLX : Hid (L (ρ.extract 0 n) = (L ρ).take n) := by show _ = _; rw [take_is, L_bs]
      have hzn : (ρ.extract n ρ.size).size = ρ.size - n := by simp
      have b1 : (1 : Int) ≤ n := by omega
      have b2 : (n : Int) ≤ ρ.size := by omega
      have b3 : (ρ.size : Int) ≤ 2000 := by omega
      obtain ⟨hbd1, hbd2⟩ := hbd
      have HM : Hid (acc.length + 1 + (ρ.extract n ρ.size).size ≤ 2000) := by show _ ≤ _; rw [hzn]; omega
      have HMs : Hid ((ρ.extract n ρ.size).size < ρ.size) := by show _ < _; rw [hzn]; omega
      have HTn : Hid (∀ kk, tokK (L ρ) = kk → T (L s) = (acc ++ [(kk, (L ρ).take n)]) ++ T (L (ρ.extract n ρ.size))) := by
        intro kk hk
        rw [hT.out, HTc.out, hk, HY.out, L_bs, List.append_assoc]; rfl
      clear hT hr HTc hzn
      by_cases hk : k = 103
      · cases hcon : kws.contains ((L ρ).take n) with
        | true =>
          subst hk
          have HKK := Lib.hid (HK3.out rfl hcon)
          clear HK1 HK2 HK3
          go_wp2_with fail
          refine K21.out.mono ?_
          rintro e w2 ⟨rfl, hb2⟩
          have hb20 := hb.trans (hb2.mono hzw)
          have hy2 := hb20.size
          have HO2 : Hid (OwnsT w2 w1.heap.size u4 acc) := ownsT_below hown.out hb2
          go_wp2_with fail
          have c0 : (w2.alloc (.cells #[.int .i64 103, .string (ρ.extract 0 n)] 37)).cell? ⟨w2.heap.size, 0, none⟩ = some (.int .i64 103) := by go_simp
          have c1 : (w2.alloc (.cells #[.int .i64 103, .string (ρ.extract 0 n)] 37)).cell? ⟨w2.heap.size, 1, none⟩ = some (.string (ρ.extract 0 n)) := by go_simp
          have f0 : (w2.alloc (.cells #[.int .i64 103, .string (ρ.extract 0 n)] 37)).frozen? ⟨w2.heap.size, 0, none⟩ = false := by go_simp
          have hz3 : (w2.alloc (.cells #[.int .i64 103, .string (ρ.extract 0 n)] 37)).heap.size = w2.heap.size + 1 := by simp
          have hb3 : Below w1.heap.size w1 (w2.alloc (.cells #[.int .i64 103, .string (ρ.extract 0 n)] 37)) := hb20.alloc hy2 _
          have hb32 : Below w2.heap.size w2 (w2.alloc (.cells #[.int .i64 103, .string (ρ.extract 0 n)] 37)) := (Below.refl _ _).alloc (Nat.le_refl _) _
          have C0 := Lib.hid c0
          have C1 := Lib.hid c1
          have F0 := Lib.hid f0
          have HZ := Lib.hid hz3
          clear c0 c1 f0 hz3 K21 hown
          generalize hw3 : w2.alloc (.cells #[.int .i64 103, .string (ρ.extract 0 n)] 37) = w3 at *
          clear hw3
          have K22 := Lib.hid (kw_contains w.heap.size _ (ρ.extract 0 n) w3 (HS1.out.below hb3 (Nat.le_refl _)))
          rw [HLX.out, hcon] at K22
          refine K22.out.mono ?_
          rintro e w4 ⟨rfl, rfl⟩
          have c0 := C0.out
          have c1 := C1.out
          have f0 := F0.out
          have hz4 := HZ.out
          have HOW : Hid (OwnsT (w4.setCell ⟨w2.heap.size, 0, none⟩ (.int .i64 104)) w1.heap.size u4 acc) := ownsT_below HO2.out (hb32.setCell (p := ⟨w2.heap.size, 0, none⟩) (Nat.le_refl _) _)
          have BW : Below w1.heap.size w1 (w4.setCell ⟨w2.heap.size, 0, none⟩ (.int .i64 104)) := hb3.setCell (p := ⟨w2.heap.size, 0, none⟩) hy2 _
          clear K22 HO2 hb3 hb32
          go_wp2_with (at_builtin; refine wpList_append_own _ rfl _ _ 25 rfl w1.heap.size 37 i0 _ 2 24 Try.underlying25 hi hz0 hz1 hz2 rfl (by decide) _ _ _ rfl (HOW.out.alloc _) ⟨w2.heap.size + 1, 0, none⟩ 1 1 [.int .i64 104, .string (ρ.extract 0 n)] rfl rfl (World.news_of_block (alloc_at (by first | exact hz4 | (simp; exact hz4) | simp) _)) (by simp [Value.oneCell']) (by unfold maxLen; first | omega | (simp; done)) (by first | omega | (simp; done)) (by first | omega | (simp; omega) | (simp; done)) ?_)
          intro v' w5 hown' hgrow _
          have hown5 : Hid (OwnsT w5 w1.heap.size v' (acc ++ [(104, (L ρ).take n)])) := by
            show World.ownsRow _ _ _ _ _ _ _
            rw [cellsT_append, List.length_append]
            have e : cellsT [(104, (L ρ).take n)] = [.int .i64 104, .string (ρ.extract 0 n)] := by rw [HX.out]; rfl
            rw [e]
            exact hown'
          have hb5 : Below w1.heap.size w1 w5 := (BW.alloc (by first | omega | (simp; omega)) _).grown hgrow (by first | omega | (simp; omega)) (fun j hj => (HOW.out.lt j hj).1)
          have HT5 := Lib.hid (HTn.out _ HKK.out)
          clear hown' hgrow HOW
          go_wp2_with fail
          go_roundw
          case rel => exact ⟨_, _, rfl, by rw [List.length_append]; exact HM.out, HT5, hown5, hb5⟩
          case measure => exact HMs.out
        | false =>
          subst hk
          have HKK := Lib.hid (HK2.out rfl hcon)
          clear HK1 HK2 HK3
          go_wp2_with fail
          refine K21.out.mono ?_
          rintro e w2 ⟨rfl, hb2⟩
          have hb20 := hb.trans (hb2.mono hzw)
          have hy2 := hb20.size
          have HO2 : Hid (OwnsT w2 w1.heap.size u4 acc) := ownsT_below hown.out hb2
          go_wp2_with fail
          have c0 : (w2.alloc (.cells #[.int .i64 103, .string (ρ.extract 0 n)] 37)).cell? ⟨w2.heap.size, 0, none⟩ = some (.int .i64 103) := by go_simp
          have c1 : (w2.alloc (.cells #[.int .i64 103, .string (ρ.extract 0 n)] 37)).cell? ⟨w2.heap.size, 1, none⟩ = some (.string (ρ.extract 0 n)) := by go_simp
          have f0 : (w2.alloc (.cells #[.int .i64 103, .string (ρ.extract 0 n)] 37)).frozen? ⟨w2.heap.size, 0, none⟩ = false := by go_simp
          have hz3 : (w2.alloc (.cells #[.int .i64 103, .string (ρ.extract 0 n)] 37)).heap.size = w2.heap.size + 1 := by simp
          have hb3 : Below w1.heap.size w1 (w2.alloc (.cells #[.int .i64 103, .string (ρ.extract 0 n)] 37)) := hb20.alloc hy2 _
          have hb32 : Below w2.heap.size w2 (w2.alloc (.cells #[.int .i64 103, .string (ρ.extract 0 n)] 37)) := (Below.refl _ _).alloc (Nat.le_refl _) _
          have C0 := Lib.hid c0
          have C1 := Lib.hid c1
          have F0 := Lib.hid f0
          have HZ := Lib.hid hz3
          clear c0 c1 f0 hz3 K21 hown
          generalize hw3 : w2.alloc (.cells #[.int .i64 103, .string (ρ.extract 0 n)] 37) = w3 at *
          clear hw3
          have K22 := Lib.hid (kw_contains w.heap.size _ (ρ.extract 0 n) w3 (HS1.out.below hb3 (Nat.le_refl _)))
          rw [HLX.out, hcon] at K22
          refine K22.out.mono ?_
          rintro e w4 ⟨rfl, rfl⟩
          have c0 := C0.out
          have c1 := C1.out
          have f0 := F0.out
          have hz4 := HZ.out
          have HOW : Hid (OwnsT w4 w1.heap.size u4 acc) := ownsT_below HO2.out hb32
          have BW : Below w1.heap.size w1 w4 := hb3
          clear K22 HO2 hb3 hb32
          go_wp2_with (at_builtin; refine wpList_append_own _ rfl _ _ 25 rfl w1.heap.size 37 i0 _ 2 24 Try.underlying25 hi hz0 hz1 hz2 rfl (by decide) _ _ _ rfl (HOW.out.alloc _) ⟨w2.heap.size + 1, 0, none⟩ 1 1 [.int .i64 103, .string (ρ.extract 0 n)] rfl rfl (World.news_of_block (alloc_at (by first | exact hz4 | (simp; exact hz4) | simp) _)) (by simp [Value.oneCell']) (by unfold maxLen; first | omega | (simp; done)) (by first | omega | (simp; done)) (by first | omega | (simp; omega) | (simp; done)) ?_)
          intro v' w5 hown' hgrow _
          have hown5 : Hid (OwnsT w5 w1.heap.size v' (acc ++ [(103, (L ρ).take n)])) := by
            show World.ownsRow _ _ _ _ _ _ _
            rw [cellsT_append, List.length_append]
            have e : cellsT [(103, (L ρ).take n)] = [.int .i64 103, .string (ρ.extract 0 n)] := by rw [HX.out]; rfl
            rw [e]
            exact hown'
          have hb5 : Below w1.heap.size w1 w5 := (BW.alloc (by first | omega | (simp; omega)) _).grown hgrow (by first | omega | (simp; omega)) (fun j hj => (HOW.out.lt j hj).1)
          have HT5 := Lib.hid (HTn.out _ HKK.out)
          clear hown' hgrow HOW
          go_wp2_with fail
          go_roundw
          case rel => exact ⟨_, _, rfl, by rw [List.length_append]; exact HM.out, HT5, hown5, hb5⟩
          case measure => exact HMs.out
      · have gk : (k == 103) = false := by simpa using hk
        have HKK := Lib.hid (HK1.out hk)
        clear HK1 HK2 HK3 hk
        go_wp2_with fail
        refine K21.out.mono ?_
        rintro e w2 ⟨rfl, hb2⟩
        have hb20 := hb.trans (hb2.mono hzw)
        have hy2 := hb20.size
        have HO2 : Hid (OwnsT w2 w1.heap.size u4 acc) := ownsT_below hown.out hb2
        have HOW : Hid (OwnsT (w2.alloc (.cells #[.int .i64 k, .string (ρ.extract 0 n)] 37)) w1.heap.size u4 acc) := HO2.out.alloc _
        have BW : Below w1.heap.size w1 (w2.alloc (.cells #[.int .i64 k, .string (ρ.extract 0 n)] 37)) := hb20.alloc hy2 _
        clear K21 hown HO2
        go_wp2_with (at_builtin; refine wpList_append_own _ rfl _ _ 25 rfl w1.heap.size 37 i0 _ 2 24 Try.underlying25 hi hz0 hz1 hz2 rfl (by decide) _ _ _ rfl (HOW.out.alloc _) ⟨w2.heap.size + 1, 0, none⟩ 1 1 [.int .i64 k, .string (ρ.extract 0 n)] rfl rfl (World.news_of_block (alloc_at (by first | exact hz4 | (simp; exact hz4) | simp) _)) (by simp [Value.oneCell']) (by unfold maxLen; first | omega | (simp; done)) (by first | omega | (simp; done)) (by first | omega | (simp; omega) | (simp; done)) ?_)
        intro v' w5 hown' hgrow _
        have hown5 : Hid (OwnsT w5 w1.heap.size v' (acc ++ [(k, (L ρ).take n)])) := by
          show World.ownsRow _ _ _ _ _ _ _
          rw [cellsT_append, List.length_append]
          have e : cellsT [(k, (L ρ).take n)] = [.int .i64 k, .string (ρ.extract 0 n)] := by rw [HX.out]; rfl
          rw [e]
          exact hown'
        have hb5 : Below w1.heap.size w1 w5 := (BW.alloc (by first | omega | (simp; omega)) _).grown hgrow (by first | omega | (simp; omega)) (fun j hj => (HOW.out.lt j hj).1)
        have HT5 := Lib.hid (HTn.out _ HKK.out)
        clear hown' hgrow HOW
        go_wp2_with fail
        go_roundw
        case rel => exact ⟨_, _, rfl, by rw [List.length_append]; exact HM.out, HT5, hown5, hb5⟩
        case measure => exact HMs.out
    · obtain rfl : ρ = ⟨#[]⟩ := by
        have : L ρ = [] := List.eq_nil_of_length_eq_zero (by rw [L_len]; omega)
        rw [← bs_L ρ, this]; rfl
      have hT2 : Hid (T (L s) = acc) := by
        show _ = _
        rw [hT.out]
        exact List.append_nil _
      have hown2 : Hid (OwnsT wr w.heap.size u4 (T (L s))) := by rw [hT2.out]; exact Lib.hid (hown.out.lower B1s)
      have B2 := B1.trans (hb.mono B1.size)
      clear hT hown hT2
      go_wp2_with fail
      go_ret2
      exact ⟨_, rfl, hown2, B2⟩
end Go.Proofs.Ytibiniokbcjjeaa
