/-
  glossatorref4.CanonicalEdits by its contract.
-/
import Derived.Test.YtbkiliiopondaaaRefAtt
import Derived.Test.YtbkiliiopondaaaRefInv
namespace Go.Proofs.Ytbkiliiopondaaa
open Go.RowKit

/-- The origins that are none of an inserted byte rise from p on and stay below n. -/
def Rising (n : Int) : Int → List Tb → Prop
  | p, [] => p ≤ n
  | p, x :: r => if x.o = -1 then Rising n p r else p ≤ x.o ∧ x.o < n ∧ Rising n (x.o + 1) r

theorem Rising.le {n : Int} {l : List Tb} : ∀ {p : Int}, Rising n p l → p ≤ n := by
  induction l with
  | nil => intro p h; exact h
  | cons x r ih =>
    intro p h
    rw [Rising] at h
    split at h
    · exact ih h
    · have := h.2.2; omega

theorem good_rising {src : List UInt8} {l : List Tb} : ∀ {p : Int}, p ≤ src.length → Good src l → (∀ x, x ∈ l → x.o ≠ -1 → p ≤ x.o) → Rising src.length p l := by
  induction l with
  | nil => intro p h _ _; exact h
  | cons x r ih =>
    intro p hp h hq
    rw [Rising]
    split
    · exact ih hp h.tail (fun y hy => hq y (List.mem_cons_of_mem _ hy))
    · rename_i hx
      obtain ⟨g1, g2⟩ := h.2 x List.mem_cons_self hx
      have g3 := (List.getElem?_eq_some_iff.1 g2).1
      exact ⟨hq x List.mem_cons_self hx, by omega, ih (by omega) h.tail (h.next hx)⟩

/-- What is still to be written when the next gap begins at p. -/
def canonR (n p : Int) (l : List Tb) : List Ed := if p ≤ n then canonFrom n p [] l else []

/-- Are there few enough edits? .. and the edits then. -/
def canonB (n : Int) (l : List Tb) : Bool := decide ((canonL n l).length ≤ 50)
def canonV (n : Int) (l : List Tb) : List Ed := if (canonL n l).length ≤ 50 then canonL n l else []

theorem addC_T {s e : Int} {g : List UInt8} {T : ByteArray} (hT : T.data.toList = g) (h : ¬ (s = e ∧ g = [])) : addC s e g = [⟨s, e, T⟩] := by
  rw [addC, if_neg h, ← hT, Lib.mk_data]

theorem str_ne {T : ByteArray} (h : T.data.toList ≠ []) : T.toList.isEmpty = false := by rw [ByteArray.toList_eq]; cases hl : T.data.toList with | nil => exact absurd hl h | cons _ _ => rfl

theorem run_byte_string (W : World) (v : UInt8) : (convert 47 9 (.slice (some ⟨W.heap.size, 0, none⟩) 1 1)).run Try.prog (W.alloc (.cells #[.int .u8 v.toNat] 5)) = .ok (.string ⟨#[v]⟩) (W.alloc (.cells #[.int .u8 v.toNat] 5)) := by
  have := run_convert_bytes_back (P := Try.prog) (W.alloc (.cells #[.int .u8 v.toNat] 5)) 47 9 5 ⟨W.heap.size, 0, none⟩ 1 [v] Try.underlying47 Try.underlying5 Try.underlying9 (by
    intro j hj
    simp at hj
    subst hj
    have hadd : (⟨W.heap.size, 0, none⟩ : Addr).add 0 = ⟨W.heap.size, 0, none⟩ := by unfold Addr.add; split <;> simp_all
    rw [hadd]
    simp)
  simpa using this

set_option maxHeartbeats 2000000 in
set_option maxRecDepth 100000 in
theorem refcanon_any (n : Int) (a : Option Addr) (cap : Nat) (l : List Tb) (w : World) (hn0 : 0 ≤ n) (hn1 : n ≤ 100000) (hl : l.length ≤ 100000) (ho : ∀ x, x ∈ l → -1 ≤ x.o) (hr : Rising n 0 l) (h : Tbs w w.heap.size a l) :
    Calls Try.prog 25 #[.int .i64 n, .slice a l.length cap] w fun e w' => ∃ v, e = .returned (.tuple #[v, .bool (canonB n l)]) ∧ Hid (Owns w' w.heap.size v (canonV n l)) ∧ Below w.heap.size w w' := by
  obtain ⟨i0, hi, hz0, hz1, hz2⟩ := info_parts info_ed
  have HT := Lib.hid h
  have HR := Lib.hid hr
  have HO := Lib.hid ho
  clear h hr ho
  go_enter Try.func25, Try.ntmps25
  go_wp2_with fail
  go_loopw [6, 7, 8] (fun v nx st wr => ∃ (k : Nat) (p : Int) (acc : List Ed), nx = .int .i64 k ∧ st = .int .i64 p ∧ 0 ≤ p ∧ p ≤ n + 1 ∧ k ≤ l.length + 1 ∧ acc.length ≤ k ∧ (p ≤ n → k ≤ l.length ∧ Hid (Rising n p (l.drop k))) ∧
      Hid (canonL n l = acc ++ canonR n p (l.drop k)) ∧ Hid (Owns wr w.heap.size v acc) ∧ Below w.heap.size w wr)
    (fun _ _ st _ => (n + 1 - intOf st).toNat)
  case atStart => exact ⟨0, 0, [], rfl, rfl, Int.le_refl _, by omega, Nat.zero_le _, Nat.le_refl _, fun _ => ⟨Nat.zero_le _, HR⟩, by show _ = _; rw [canonR, if_pos hn0]; rfl, World.ownsRow_nil _ _ _ _, Below.refl _ _⟩
  case round =>
    obtain ⟨k, p, acc, rfl, rfl, hp0, hp1, hk, hak, hrun, hacc, hown, hb⟩ := hrel
    by_cases hlt : p ≤ n
    · obtain ⟨hk1, hri⟩ := hrun hlt
      have hacc1 : Hid (canonL n l = acc ++ canonFrom n p [] (l.drop k)) := by show _ = _; rw [hacc.out, canonR, if_pos hlt]
      clear hacc hrun
      go_wp2_with fail
      go_loopw [9, 7] (fun tv nx wr => ∃ (k2 : Nat) (g : List UInt8) (T : ByteArray), tv = .string T ∧ nx = .int .i64 k2 ∧ k ≤ k2 ∧ k2 ≤ l.length ∧ T.size + k ≤ k2 ∧ Hid (T.data.toList = g) ∧ Hid (Rising n p (l.drop k2)) ∧ Hid (canonL n l = acc ++ canonFrom n p g (l.drop k2)) ∧ Hid (Owns wr w.heap.size u6 acc) ∧ Below w.heap.size w wr)
        (fun _ nx _ => l.length - (intOf nx).toNat)
      case atStart => exact ⟨k, [], ⟨#[]⟩, rfl, rfl, Nat.le_refl _, hk1, by show 0 + k ≤ k; omega, rfl, hri, hacc1, hown, hb⟩
      case round =>
        clear hri hacc1 hown hb
        obtain ⟨k2, g, T, rfl, rfl, hk2, hk3, hTs, hT, hri, hacc, hown, hb⟩ := hrel
        have hzw := hb.size
        have hrest : (∃ x, l[k2]? = some x ∧ x.o = -1) ∨ (∃ x e, e = x.o ∧ l[k2]? = some x ∧ ¬ x.o = -1) ∨ ¬ k2 < l.length := by
          by_cases h1 : k2 < l.length
          · by_cases h2 : l[k2].o = -1
            · exact .inl ⟨_, List.getElem?_eq_getElem h1, h2⟩
            · exact .inr (.inl ⟨_, _, rfl, List.getElem?_eq_getElem h1, h2⟩)
          · exact .inr (.inr h1)
        rcases hrest with ⟨x, hx, hxo⟩ | hrest
        · have h1 : k2 < l.length := (List.getElem?_eq_some_iff.1 hx).1
          obtain ⟨b, o, rfl, hbl, c0, c1⟩ := (HT.out.below hb) k2 x hx
          have hri2 : Hid (Rising n p (l.drop (k2 + 1))) := by
            have := hri.out
            rw [drop_at hx, Rising, if_pos hxo] at this
            exact this
          have hacc2 := Lib.hid (canon_in hx hacc.out hxo)
          have ha := add_run (a := T) (b := ⟨#[x.v]⟩) (by have : (⟨#[x.v]⟩ : ByteArray).size = 1 := rfl; omega)
          have hcv := run_byte_string wr x.v
          have hT2 : Hid ((T ++ ⟨#[x.v]⟩).data.toList = g ++ [x.v]) := by
            show _ = _
            rw [ByteArray.data_append]
            simp [hT.out]
          rw [hxo] at c1
          have Hx := Lib.hid hx
          clear hx hri hacc hT
          go_wp2_with fail
          go_roundw
          case rel => exact ⟨k2 + 1, _, _, rfl, by go_num, by omega, by omega, by rw [ByteArray.size_append, show (⟨#[x.v]⟩ : ByteArray).size = 1 from rfl]; omega, hT2, hri2, hacc2, hown.out.alloc _, hb.alloc hzw _⟩
          case measure => simp [intOf]; omega
        · have hkey : ∃ e, p ≤ e ∧ e ≤ n ∧ Hid (canonL n l = (acc ++ addC p e g) ++ canonR n (e + 1) (l.drop (k2 + 1))) ∧ (e + 1 ≤ n → k2 + 1 ≤ l.length ∧ Hid (Rising n (e + 1) (l.drop (k2 + 1)))) ∧ ((¬ k2 < l.length ∧ e = n) ∨ (∃ x, l[k2]? = some x ∧ x.o = e ∧ 0 ≤ e)) := by
            rcases hrest with ⟨x, e, he, hx, hxo⟩ | h1
            · have h1 : k2 < l.length := (List.getElem?_eq_some_iff.1 hx).1
              have q1 := hri.out
              rw [drop_at hx, Rising, if_neg hxo] at q1
              obtain ⟨q2, q3, q4⟩ := q1
              have q5 := canon_out hx hacc.out hxo
              rw [← he] at q2 q3 q4 q5
              exact ⟨e, q2, by omega, by show _ = _; rw [q5, canonR, if_pos (by omega)], fun _ => ⟨by omega, q4⟩, .inr ⟨x, hx, he.symm, by omega⟩⟩
            · exact ⟨n, hlt, Int.le_refl _, by show _ = _; rw [canon_end (by omega) hacc.out, canonR, if_neg (by omega), List.append_nil], fun h => by omega, .inl ⟨h1, rfl⟩⟩
          obtain ⟨e, he0, he1, hst, hrun2, hend⟩ := hkey
          have h3 : (addC p e g = [⟨p, e, T⟩] ∧ (p < e ∨ (e = p ∧ T.toList.isEmpty = false))) ∨ (e = p ∧ T = ⟨#[]⟩ ∧ addC p e g = []) := by
            by_cases h4 : p = e ∧ g = []
            · refine .inr ⟨h4.1.symm, ?_, by rw [addC, if_pos h4]⟩
              have := hT.out
              rw [h4.2] at this
              rw [← Lib.mk_data T, this]
            · refine .inl ⟨addC_T hT.out h4, ?_⟩
              by_cases h5 : p = e
              · exact .inr ⟨h5.symm, str_ne (by rw [hT.out]; exact fun h => h4 ⟨h5, h⟩)⟩
              · exact .inl (by omega)
          clear hacc hri hrest hT
          rcases h3 with ⟨ha, h3⟩ | ⟨rfl, rfl, ha⟩
          · rw [ha] at hst
            clear ha
            rcases h3 with h3 | ⟨rfl, hne⟩
            · rcases hend with ⟨h1, rfl⟩ | ⟨x, hx, rfl, hx0⟩
              · go_wp2_with (at_builtin; refine wpList_append_own _ rfl (.tmp 54) (.tmp 59) 22 rfl w.heap.size 38 i0 _ 3 32 Try.underlying22 hi hz0 hz1 hz2 rfl (by decide) _ _ _ rfl (hown.out.alloc _) ⟨wr.heap.size, 0, none⟩ 1 1 [.int .i64 p, .int .i64 e, .string T] rfl rfl (World.news_of_block (heap_alloc_new wr _)) (by simp [Value.oneCell']) (by unfold maxLen; omega) (by omega) (by simp; omega) ?_)
                intro v' w3 hown' hgrow _
                have hown3 : Hid (Owns w3 w.heap.size v' (acc ++ [⟨p, e, T⟩])) := by
                  show World.ownsRow _ _ _ _ _ _ _
                  rw [edCells_append, List.length_append]
                  exact hown'
                have hb3 : Below w.heap.size w w3 := (hb.alloc hzw _).grown hgrow (by simp; omega) (fun j hj => (hown.out.lt j hj).1)
                clear hown' hgrow hown
                go_wp2_with fail
                go_roundw
                case rel => exact ⟨k2 + 1, e + 1, _, by go_num, rfl, by omega, by omega, by omega, by simp; omega, hrun2, hst, hown3, hb3⟩
                case measure => simp [intOf]; omega
              · obtain ⟨b, o, rfl, hbl, c0, c1⟩ := (HT.out.below hb) k2 x hx
                have h1 : k2 < l.length := (List.getElem?_eq_some_iff.1 hx).1
                have hxn : ¬ x.o < 0 := by omega
                have Hx := Lib.hid hx
                clear hx
                go_wp2_with (at_builtin; refine wpList_append_own _ rfl (.tmp 54) (.tmp 59) 22 rfl w.heap.size 38 i0 _ 3 32 Try.underlying22 hi hz0 hz1 hz2 rfl (by decide) _ _ _ rfl (hown.out.alloc _) ⟨wr.heap.size, 0, none⟩ 1 1 [.int .i64 p, .int .i64 x.o, .string T] rfl rfl (World.news_of_block (heap_alloc_new wr _)) (by simp [Value.oneCell']) (by unfold maxLen; omega) (by omega) (by simp; omega) ?_)
                intro v' w3 hown' hgrow _
                have hown3 : Hid (Owns w3 w.heap.size v' (acc ++ [⟨p, x.o, T⟩])) := by
                  show World.ownsRow _ _ _ _ _ _ _
                  rw [edCells_append, List.length_append]
                  exact hown'
                have hb3 : Below w.heap.size w w3 := (hb.alloc hzw _).grown hgrow (by simp; omega) (fun j hj => (hown.out.lt j hj).1)
                clear hown' hgrow hown
                go_wp2_with fail
                go_roundw
                case rel => exact ⟨k2 + 1, x.o + 1, _, by go_num, rfl, by omega, by omega, by omega, by simp; omega, hrun2, hst, hown3, hb3⟩
                case measure => simp [intOf]; omega
            · rcases hend with ⟨h1, rfl⟩ | ⟨x, hx, rfl, hx0⟩
              · go_wp2_with (at_builtin; refine wpList_append_own _ rfl (.tmp 54) (.tmp 59) 22 rfl w.heap.size 38 i0 _ 3 32 Try.underlying22 hi hz0 hz1 hz2 rfl (by decide) _ _ _ rfl (hown.out.alloc _) ⟨wr.heap.size, 0, none⟩ 1 1 [.int .i64 e, .int .i64 e, .string T] rfl rfl (World.news_of_block (heap_alloc_new wr _)) (by simp [Value.oneCell']) (by unfold maxLen; omega) (by omega) (by simp; omega) ?_)
                intro v' w3 hown' hgrow _
                have hown3 : Hid (Owns w3 w.heap.size v' (acc ++ [⟨e, e, T⟩])) := by
                  show World.ownsRow _ _ _ _ _ _ _
                  rw [edCells_append, List.length_append]
                  exact hown'
                have hb3 : Below w.heap.size w w3 := (hb.alloc hzw _).grown hgrow (by simp; omega) (fun j hj => (hown.out.lt j hj).1)
                clear hown' hgrow hown
                go_wp2_with fail
                go_roundw
                case rel => exact ⟨k2 + 1, e + 1, _, by go_num, rfl, by omega, by omega, by omega, by simp; omega, hrun2, hst, hown3, hb3⟩
                case measure => simp [intOf]; omega
              · obtain ⟨b, o, rfl, hbl, c0, c1⟩ := (HT.out.below hb) k2 x hx
                have h1 : k2 < l.length := (List.getElem?_eq_some_iff.1 hx).1
                have hxn : ¬ x.o < 0 := by omega
                have Hx := Lib.hid hx
                clear hx
                go_wp2_with (at_builtin; refine wpList_append_own _ rfl (.tmp 54) (.tmp 59) 22 rfl w.heap.size 38 i0 _ 3 32 Try.underlying22 hi hz0 hz1 hz2 rfl (by decide) _ _ _ rfl (hown.out.alloc _) ⟨wr.heap.size, 0, none⟩ 1 1 [.int .i64 x.o, .int .i64 x.o, .string T] rfl rfl (World.news_of_block (heap_alloc_new wr _)) (by simp [Value.oneCell']) (by unfold maxLen; omega) (by omega) (by simp; omega) ?_)
                intro v' w3 hown' hgrow _
                have hown3 : Hid (Owns w3 w.heap.size v' (acc ++ [⟨x.o, x.o, T⟩])) := by
                  show World.ownsRow _ _ _ _ _ _ _
                  rw [edCells_append, List.length_append]
                  exact hown'
                have hb3 : Below w.heap.size w w3 := (hb.alloc hzw _).grown hgrow (by simp; omega) (fun j hj => (hown.out.lt j hj).1)
                clear hown' hgrow hown
                go_wp2_with fail
                go_roundw
                case rel => exact ⟨k2 + 1, x.o + 1, _, by go_num, rfl, by omega, by omega, by omega, by simp; omega, hrun2, hst, hown3, hb3⟩
                case measure => simp [intOf]; omega
          · rw [ha, List.append_nil] at hst
            clear ha
            rcases hend with ⟨h1, rfl⟩ | ⟨x, hx, rfl, hx0⟩
            · go_wp2_with fail
              go_roundw
              case rel => exact ⟨k2 + 1, e + 1, _, by go_num, rfl, by omega, by omega, by omega, by omega, hrun2, hst, hown, hb⟩
              case measure => simp [intOf]; omega
            · obtain ⟨b, o, rfl, hbl, c0, c1⟩ := (HT.out.below hb) k2 x hx
              have h1 : k2 < l.length := (List.getElem?_eq_some_iff.1 hx).1
              have hxn : ¬ x.o < 0 := by omega
              have Hx := Lib.hid hx
              clear hx
              go_wp2_with fail
              go_roundw
              case rel => exact ⟨k2 + 1, x.o + 1, _, by go_num, rfl, by omega, by omega, by omega, by omega, hrun2, hst, hown, hb⟩
              case measure => simp [intOf]; omega
    · have hfin : Hid (canonL n l = acc) := by show _ = _; rw [hacc.out, canonR, if_neg hlt, List.append_nil]
      obtain ⟨av, cv, rfl⟩ := owns_form hown.out
      clear hacc hrun
      have hQ : Hid (Owns wr w.heap.size (.slice av acc.length cv) (canonL n l)) := by rw [hfin.out]; exact hown
      have hL0 : Hid (acc.length = (canonL n l).length) := by show _ = _; rw [hfin.out]
      clear hfin hown hak
      generalize hL : acc.length = L at *
      have HL := Lib.hid hL
      clear hL
      by_cases h50 : (50 : Int) < L
      · have e1 : Hid (canonB n l = false) := by show _ = _; rw [canonB, ← hL0.out]; exact decide_eq_false (by omega)
        have e2 : Hid (canonV n l = []) := by show _ = _; rw [canonV, ← hL0.out, if_neg (by omega)]
        go_wp2_with fail
        go_ret2
        exact ⟨_, by rw [e1.out]; rfl, by rw [e2.out]; exact none_owns _ _, hb⟩
      · have e1 : Hid (canonB n l = true) := by show _ = _; rw [canonB, ← hL0.out]; exact decide_eq_true (by omega)
        have e2 : Hid (canonV n l = canonL n l) := by show _ = _; rw [canonV, ← hL0.out, if_pos (by omega)]
        go_wp2_with fail
        go_ret2
        exact ⟨_, by rw [e1.out]; rfl, by rw [e2.out]; exact hQ, hb⟩
end Go.Proofs.Ytbkiliiopondaaa
