/-
  ReparseErrors's law, by its contract.
-/
import Derived.Test.YtbomilleckgalaaGreatRpEx
import Derived.Test.YtbomilleckgalaaGreatTeSplice
import Derived.StillTactics
namespace Go.Proofs.YtbomilleckgalaaGreat.Ps
open Go.RowKit

/-- Parse, as the laws use it. -/
theorem parse_law (s : ByteArray) (w : World) (hs : s.size ≤ 2000) : Calls Tryz.prog 15 #[.string s] w fun e w' => Below w.heap.size w w' ∧ ∃ m ra rc, e = .returned (.tuple #[tv (fileT (Lx.L s)) ra rc, .int .i64 0]) ∧ Kids w' (· < w'.heap.size) m ra (fileT (Lx.L s)).c ∧ (fileT (Lx.L s)).ok := by
  refine (parse_file s w hs).mono ?_
  rintro e w' ⟨hb, m, ra, rc, he, hk, hok, _⟩
  exact ⟨hb, m, ra, rc, he, hk.up (fun j hj => hj.1.lt) (Nat.le_refl _), hok⟩
/-- Update, as the laws use it. -/
theorem update_law (s t : ByteArray) (st en : Nat) (y : Tree) (a : Option Addr) (c n : Nat) (w : World) (h1 : st ≤ en) (h2 : en ≤ s.size) (hs : s.size ≤ 2000) (hn : s.size - (en - st) + t.size ≤ 2000) (hy : y.ok) (hk : Kids w (· < w.heap.size) n a y.c) :
    Calls Tryz.prog 17 #[.string s, tv y a c, .agg #[.int .i64 st, .int .i64 en, .string t]] w fun e w' => Below w.heap.size w w' ∧
      ((y = fileT (Lx.L s) ∧ ∃ m ra rc, e = .returned (.tuple #[tv (fileT (Te.next (Lx.L s) ⟨st, en, t⟩)) ra rc, .int .i64 (((kept (Lx.L s) st).1 : Nat) : Int), .int .i64 0]) ∧ Kids w' (· < w'.heap.size) m ra (fileT (Te.next (Lx.L s) ⟨st, en, t⟩)).c ∧ (fileT (Te.next (Lx.L s) ⟨st, en, t⟩)).ok) ∨
    (¬ y = fileT (Lx.L s) ∧ e = .returned (.tuple #[.agg #[.int .i64 0, .string ⟨#[]⟩, .slice none 0 0], .int .i64 0, .int .i64 3]))) := by
  refine (update_any s t st en y a c n w h1 h2 hs hn hy hk).mono ?_
  rintro e w' ⟨hb, ⟨h, m, ra, rc, he, hk, hok⟩ | h⟩
  · exact ⟨hb, Or.inl ⟨h, m, ra, rc, he, hk.up (fun _ hj => hj.1) (Nat.le_refl _), hok⟩⟩
  · exact ⟨hb, Or.inr h⟩

theorem file_one {a b : ByteArray} (ha : a.size ≤ 2000) (hb : b.size ≤ 2000) (h : fileT (Lx.L a) = fileT (Lx.L b)) : a = b := by
  have hc : parseC (Lx.L a) = parseC (Lx.L b) := by
    have := congrArg Tree.c h
    exact this
  have h1 := parseC_src (l := Lx.L a) (by rw [Lx.L_len]; exact ha)
  have h2 := parseC_src (l := Lx.L b) (by rw [Lx.L_len]; exact hb)
  rw [hc, h2] at h1
  have := congrArg Lx.bs h1
  rw [Lx.bs_L, Lx.bs_L] at this
  exact this.symm

def zeroT : Tree := .node 0 ⟨#[]⟩ []

set_option maxRecDepth 100000 in
set_option maxHeartbeats 8000000 in
theorem err_any (a b : ByteArray) (xs xe : Int) (xt : ByteArray) (w : World) (ha : a.size ≤ maxLen) (hb : b.size ≤ maxLen) (ht : xt.size ≤ maxLen) :
    Calls Tryz.prog 6 #[.string a, .string b, .agg #[.int .i64 xs, .int .i64 xe, .string xt]] w fun e w' => e = .returned (.bool true) ∧ Below w.heap.size w w' := by
  have HE := fun W : World => Lib.hid (example_any W)
  have KSA := fun W : World => Lib.hid (short_any a 200 W ha (by omega))
  have KSB := fun W : World => Lib.hid (short_any b 200 W hb (by omega))
  have KST := fun W : World => Lib.hid (short_any xt 40 W ht (by omega))
  have ha2 := cutB_size 200 a
  have hb2 := cutB_size 200 b
  have ht2 := cutB_size 40 xt
  generalize cutB 200 a = a2 at *
  generalize cutB 200 b = b2 at *
  generalize cutB 40 xt = t2 at *
  have KPA := fun W : World => Lib.hid (parse_law a2 W (by omega))
  have KPB := fun W : World => Lib.hid (parse_law b2 W (by omega))
  have KU := Lib.hid (fun y c a n W hy hk => update_law a2 t2 0 0 y a c n W (Nat.le_refl _) (Nat.zero_le _) (by omega) (by omega) hy hk)
  have HONE : Hid (fileT (Lx.L a2) = fileT (Lx.L b2) → a2 = b2) := file_one (by omega) (by omega)
  obtain ⟨X, hX⟩ : ∃ X, X = fileT (Lx.L a2) := ⟨_, rfl⟩
  obtain ⟨Y, hY⟩ : ∃ Y, Y = fileT (Lx.L b2) := ⟨_, rfl⟩
  rw [← hX, ← hY] at HONE
  rw [← hX] at KPA KU
  rw [← hY] at KPB
  clear hX hY ha hb ht ha2 hb2 ht2
  generalize fileT (Te.next (Lx.L a2) ⟨(0 : Nat), (0 : Nat), t2⟩) = N at *
  generalize (kept (Lx.L a2) 0).1 = K at *
  have KU' : Hid (∀ y c a n W, y.ok → Kids W (· < W.heap.size) n a y.c → Calls Tryz.prog 17 #[.string a2, tv y a c, .agg #[.int .i64 0, .int .i64 0, .string t2]] W fun e w' => Below W.heap.size W w' ∧
      ((y = X ∧ ∃ m ra rc, e = .returned (.tuple #[tv N ra rc, .int .i64 (K : Nat), .int .i64 0]) ∧ Kids w' (· < w'.heap.size) m ra N.c ∧ N.ok) ∨ (¬ y = X ∧ e = .returned (.tuple #[.agg #[.int .i64 0, .string ⟨#[]⟩, .slice none 0 0], .int .i64 0, .int .i64 3])))) := KU
  clear KU
  have HB0 : Hid (Below w.heap.size w (w.alloc (.cells #[.int .i64 xs, .int .i64 xe, .string xt] 23))) := (Below.refl _ _).alloc (Nat.le_refl _) _
  have HE0 : Hid ((w.alloc (.cells #[.int .i64 xs, .int .i64 xe, .string xt] 23)).heap[w.heap.size]? = some (.cells #[.int .i64 xs, .int .i64 xe, .string xt] 23 (0, 0))) := heap_alloc_new w _
  go_enter Tryz.func6, Tryz.ntmps6
  go_wp2_with fail
  change Calls _ _ _ (w.alloc (.cells #[.int .i64 xs, .int .i64 xe, .string xt] 23)) _
  generalize w.alloc (.cells #[.int .i64 xs, .int .i64 xe, .string xt] 23) = V0 at *
  refine (HE V0).out.mono ?_
  rintro e V1 ⟨rfl, hb⟩
  have HB1 : Hid (Below w.heap.size w V1) := HB0.out.trans (hb.mono HB0.out.size)
  have HE1 := Lib.hid (held_to HE0.out hb)
  clear hb HB0 HE0
  go_wp2_with fail
  refine (KSA V1).out.mono ?_
  rintro e V2 ⟨rfl, rfl⟩
  go_wp2_with fail
  refine (KSB V1).out.mono ?_
  rintro e V2 ⟨rfl, rfl⟩
  obtain ⟨c0, c1, c2, f0, f1, f2⟩ := three_facts HE1.out
  go_wp2_with fail
  refine (KST V1).out.mono ?_
  rintro e V2 ⟨rfl, rfl⟩
  have HE2 : Hid ((((V1.setCell ⟨w.heap.size, 0, none⟩ (.int .i64 0)).setCell ⟨w.heap.size, 1, none⟩ (.int .i64 0)).setCell ⟨w.heap.size, 2, none⟩ (.string t2)).heap[w.heap.size]? = some (.cells #[.int .i64 0, .int .i64 0, .string t2] 23 (0, 0))) := set_three HE1.out
  have HB2 : Hid (Below w.heap.size w (((V1.setCell ⟨w.heap.size, 0, none⟩ (.int .i64 0)).setCell ⟨w.heap.size, 1, none⟩ (.int .i64 0)).setCell ⟨w.heap.size, 2, none⟩ (.string t2))) :=
    ((HB1.out.setCell (p := ⟨w.heap.size, 0, none⟩) (Nat.le_refl _) _).setCell (p := ⟨w.heap.size, 1, none⟩) (Nat.le_refl _) _).setCell (p := ⟨w.heap.size, 2, none⟩) (Nat.le_refl _) _
  go_wp2_with fail
  change Calls _ _ _ (((V1.setCell ⟨w.heap.size, 0, none⟩ (.int .i64 0)).setCell ⟨w.heap.size, 1, none⟩ (.int .i64 0)).setCell ⟨w.heap.size, 2, none⟩ (.string t2)) _
  clear c0 c1 c2 f0 f1 f2 HE1 HB1
  generalize (((V1.setCell ⟨w.heap.size, 0, none⟩ (.int .i64 0)).setCell ⟨w.heap.size, 1, none⟩ (.int .i64 0)).setCell ⟨w.heap.size, 2, none⟩ (.string t2)) = V2 at *
  refine (KPA V2).out.mono ?_
  rintro e V3 ⟨hb, mX, raX, rcX, rfl, hk, hok⟩
  have HOX := Lib.hid hok
  have hb3 : Below V3.heap.size V3 (V3.alloc (.cells #[.int .i64 X.k, .string X.t, .slice raX X.c.length rcX] 40)) := (Below.refl _ _).alloc (Nat.le_refl _) _
  have HB3 : Hid (Below w.heap.size w (V3.alloc (.cells #[.int .i64 X.k, .string X.t, .slice raX X.c.length rcX] 40))) := (HB2.out.trans (hb.mono HB2.out.size)).trans (hb3.mono (by have := HB2.out.size; have := hb.size; omega))
  have HE3 := Lib.hid (held_to (held_to HE2.out hb) hb3)
  have HX3 : Hid ((V3.alloc (.cells #[.int .i64 X.k, .string X.t, .slice raX X.c.length rcX] 40)).heap[V3.heap.size]? = some (.cells #[.int .i64 X.k, .string X.t, .slice raX X.c.length rcX] 40 (0, 0))) := heap_alloc_new V3 _
  have HKX := Lib.hid (hk.to hb3)
  clear hb hb3 hk hok HE2 HB2
  go_wp2_with fail
  change Calls _ _ _ (V3.alloc (.cells #[.int .i64 X.k, .string X.t, .slice raX X.c.length rcX] 40)) _
  generalize hV4 : (V3.alloc (.cells #[.int .i64 X.k, .string X.t, .slice raX X.c.length rcX] 40)) = V4 at *
  generalize V3.heap.size = H3 at *
  clear hV4
  refine (KPB V4).out.mono ?_
  rintro e V5 ⟨hb, mY, raY, rcY, rfl, hk, hok⟩
  have HOY := Lib.hid hok
  have hb5 : Below V5.heap.size V5 (V5.alloc (.cells #[.int .i64 Y.k, .string Y.t, .slice raY Y.c.length rcY] 40)) := (Below.refl _ _).alloc (Nat.le_refl _) _
  have HB5 : Hid (Below w.heap.size w (V5.alloc (.cells #[.int .i64 Y.k, .string Y.t, .slice raY Y.c.length rcY] 40))) := (HB3.out.trans (hb.mono HB3.out.size)).trans (hb5.mono (by have := HB3.out.size; have := hb.size; omega))
  have HE5 := Lib.hid (held_to (held_to HE3.out hb) hb5)
  have HX5 := Lib.hid (held_to (held_to HX3.out hb) hb5)
  have HKX5 := Lib.hid ((HKX.out.to hb).to hb5)
  have HY5 : Hid ((V5.alloc (.cells #[.int .i64 Y.k, .string Y.t, .slice raY Y.c.length rcY] 40)).heap[V5.heap.size]? = some (.cells #[.int .i64 Y.k, .string Y.t, .slice raY Y.c.length rcY] 40 (0, 0))) := heap_alloc_new V5 _
  have HKY := Lib.hid (hk.to hb5)
  obtain ⟨c0, c1, c2, _⟩ := three_facts HE5.out
  clear hb hb5 hk hok HE3 HX3 HKX HB3
  go_wp2_with fail
  change Calls _ _ _ (V5.alloc (.cells #[.int .i64 Y.k, .string Y.t, .slice raY Y.c.length rcY] 40)) _
  generalize hV6 : (V5.alloc (.cells #[.int .i64 Y.k, .string Y.t, .slice raY Y.c.length rcY] 40)) = V6 at *
  generalize V5.heap.size = H5 at *
  clear hV6 c0 c1 c2
  refine (KU'.out Y rcY raY mY V6 HOY.out HKY.out).mono ?_
  rintro e V7 ⟨hb, hcase⟩
  have HB7 := Lib.hid (HB5.out.trans (hb.mono HB5.out.size))
  have hz7 := HB7.out.size
  have HX7 := Lib.hid (held_to HX5.out hb)
  have HY7 := Lib.hid (held_to HY5.out hb)
  have HKX7 := Lib.hid (HKX5.out.to hb)
  have HKY7 := Lib.hid (HKY.out.to hb)
  clear hb HX5 HY5 HKX5 HKY HB5 HE5
  rcases hcase with ⟨hYX, mN, raN, rcN, rfl, hkN, hokN⟩ | ⟨hYX, rfl⟩
  · have hb8 : Below V7.heap.size V7 (V7.alloc (.cells #[.int .i64 N.k, .string N.t, .slice raN N.c.length rcN] 40)) := (Below.refl _ _).alloc (Nat.le_refl _) _
    have HB8 : Hid (Below w.heap.size w (V7.alloc (.cells #[.int .i64 N.k, .string N.t, .slice raN N.c.length rcN] 40))) := HB7.out.trans (hb8.mono hz7)
    have HX8 := Lib.hid (held_to HX7.out hb8)
    have HY8 := Lib.hid (held_to HY7.out hb8)
    have HKX8 := Lib.hid (HKX7.out.to hb8)
    have HKY8 := Lib.hid (HKY7.out.to hb8)
    have HYX := Lib.hid hYX
    clear hb8 HX7 HY7 HKX7 HKY7 HB7 hkN hokN hYX
    go_wp2_with fail
    change Calls _ _ _ (V7.alloc (.cells #[.int .i64 N.k, .string N.t, .slice raN N.c.length rcN] 40)) _
    generalize hV8 : (V7.alloc (.cells #[.int .i64 N.k, .string N.t, .slice raN N.c.length rcN] 40)) = V8 at *
    clear hV8
    refine (HE V8).out.mono ?_
    rintro e V9 ⟨rfl, hb⟩
    have HB9 := Lib.hid (HB8.out.trans (hb.mono HB8.out.size))
    have HX9 := Lib.hid (held_to HX8.out hb)
    have HY9 := Lib.hid (held_to HY8.out hb)
    have HKX9 := Lib.hid (HKX8.out.to hb)
    have HKY9 := Lib.hid (HKY8.out.to hb)
    obtain ⟨x0, x1, x2, _⟩ := three_facts HX9.out
    obtain ⟨y0, y1, y2, _⟩ := three_facts HY9.out
    have HQ := Lib.hid (tree_eq mX X Y raX rcX mY raY rcY V9 HOX.out HOY.out HKX9.out HKY9.out)
    clear hb HX8 HY8 HKX8 HKY8 HB8 HX9 HY9
    go_wp2_with fail
    refine HQ.out.mono ?_
    rintro e Va ⟨hba, ⟨hxy, rfl⟩ | ⟨hne, _⟩⟩
    · have HBa := Lib.hid (HB9.out.trans (hba.mono HB9.out.size))
      have hab : a2 = b2 := HONE.out hxy
      subst hab
      clear hxy hba HONE
      go_wp2_with fail
      go_ret
      exact ⟨rfl, HBa.out⟩
    · exact absurd HYX.out.symm hne
  · have HYX := Lib.hid hYX
    have hbN : Below V7.heap.size V7 (V7.alloc (.cells #[.int .i64 0, .string ⟨#[]⟩, .slice none 0 0] 40)) := (Below.refl _ _).alloc (Nat.le_refl _) _
    have HB8 : Hid (Below w.heap.size w (V7.alloc (.cells #[.int .i64 0, .string ⟨#[]⟩, .slice none 0 0] 40))) := HB7.out.trans (hbN.mono hz7)
    have HX8 := Lib.hid (held_to HX7.out hbN)
    have HY8 := Lib.hid (held_to HY7.out hbN)
    have HN8 : Hid ((V7.alloc (.cells #[.int .i64 0, .string ⟨#[]⟩, .slice none 0 0] 40)).heap[V7.heap.size]? = some (.cells #[.int .i64 0, .string ⟨#[]⟩, .slice none 0 0] 40 (0, 0))) := heap_alloc_new V7 _
    have HKX8 := Lib.hid (HKX7.out.to hbN)
    have HKY8 := Lib.hid (HKY7.out.to hbN)
    clear hbN HX7 HY7 HKX7 HKY7 HB7 hYX
    go_wp2_with fail
    change Calls _ _ _ (V7.alloc (.cells #[.int .i64 0, .string ⟨#[]⟩, .slice none 0 0] 40)) _
    generalize hV8 : (V7.alloc (.cells #[.int .i64 0, .string ⟨#[]⟩, .slice none 0 0] 40)) = V8 at *
    generalize V7.heap.size = H7 at *
    clear hV8
    refine (HE V8).out.mono ?_
    rintro e V9 ⟨rfl, hb⟩
    have HB9 := Lib.hid (HB8.out.trans (hb.mono HB8.out.size))
    have HX9 := Lib.hid (held_to HX8.out hb)
    have HY9 := Lib.hid (held_to HY8.out hb)
    have HN9 := Lib.hid (held_to HN8.out hb)
    have HKX9 := Lib.hid (HKX8.out.to hb)
    have HKY9 := Lib.hid (HKY8.out.to hb)
    obtain ⟨x0, x1, x2, _⟩ := three_facts HX9.out
    obtain ⟨y0, y1, y2, _⟩ := three_facts HY9.out
    have HQ := Lib.hid (tree_eq mX X Y raX rcX mY raY rcY V9 HOX.out HOY.out HKX9.out HKY9.out)
    clear hb HX8 HY8 HN8 HKX8 HKY8 HB8 HX9 HY9
    go_wp2_with fail
    refine HQ.out.mono ?_
    rintro e Va ⟨hba, ⟨hxy, _⟩ | ⟨_, rfl⟩⟩
    · exact absurd hxy.symm HYX.out
    · have HBa := Lib.hid (HB9.out.trans (hba.mono HB9.out.size))
      have HNa := Lib.hid (held_to HN9.out hba)
      obtain ⟨x0, x1, x2, _⟩ := three_facts HNa.out
      have hzo : zeroT.ok := ⟨by show I64 0; unfold I64; omega, by show (0 : Nat) ≤ maxLen; exact Nat.zero_le _, by show (0 : Nat) ≤ maxLen; exact Nat.zero_le _⟩
      have HQ2 := Lib.hid (tree_eq 0 zeroT zeroT none 0 0 none 0 Va hzo hzo (Kids.nil _ _ _ _) (Kids.nil _ _ _ _))
      clear hba HN9 hzo
      go_wp2_with fail
      refine HQ2.out.mono ?_
      rintro e Vb ⟨hbb, ⟨_, rfl⟩ | ⟨hne, _⟩⟩
      · have HBb := Lib.hid (HBa.out.trans (hbb.mono HBa.out.size))
        clear hbb
        go_wp2_with fail
        go_ret
        exact ⟨rfl, HBb.out⟩
      · exact absurd rfl hne
end Go.Proofs.YtbomilleckgalaaGreat.Ps
