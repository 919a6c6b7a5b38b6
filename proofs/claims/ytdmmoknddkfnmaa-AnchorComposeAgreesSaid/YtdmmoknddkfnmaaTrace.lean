/-
  textedit.trace by its contract; appending from whatever source.
-/
import Derived.Test.YtdmmoknddkfnmaaTraced
import Derived.WalkSpells
import Derived.Lib.Hide
import Derived.Lib.Strings
import Derived.Laws.AppendOwnNone
namespace Go.Proofs.Ytdmmoknddkfnmaa
open Go.RowKit

theorem info_tb : (Try.prog.info? 67).map (fun i => (i.zero, i.size, i.bytes)) = some (some (.agg #[.int .u8 0, .int .i64 0]), 2, 16) := by kernel_rfl

def traceFrom : Int → List UInt8 → List Tb
  | _, [] => []
  | i, b :: r => ⟨b, i⟩ :: traceFrom (i + 1) r

def traceL (l : List UInt8) : List Tb := traceFrom 0 l

theorem trace_length {l : List UInt8} : ∀ {i : Int}, (traceFrom i l).length = l.length := by
  induction l with
  | nil => intro i; rfl
  | cons b r ih => intro i; simp [traceFrom, ih]

theorem trace_at {l : List UInt8} : ∀ {i : Int} {k : Nat} {x : Tb}, (traceFrom i l)[k]? = some x → x.o = i + k ∧ l[k]? = some x.v := by
  induction l with
  | nil => intro i k x h; simp [traceFrom] at h
  | cons b r ih =>
    intro i k x h
    cases k with
    | zero => simp [traceFrom] at h; subst h; simp
    | succ k =>
      simp [traceFrom] at h
      obtain ⟨h1, h2⟩ := ih h
      exact ⟨by rw [h1]; omega, by simpa using h2⟩

theorem trace_step {acc out : List Tb} {l : List UInt8} {k : Nat} {b : UInt8} (hx : l[k]? = some b) (h : out = acc ++ traceFrom k (l.drop k)) : out = (acc ++ [⟨b, k⟩]) ++ traceFrom (k + 1 : Nat) (l.drop (k + 1)) := by
  rw [h, drop_at hx, traceFrom]
  simp

theorem str_at (s : ByteArray) (k : Nat) (h : k < s.size) : s.data.toList[k]? = some s[k] := by
  rw [List.getElem?_eq_getElem (by simpa using h)]; rfl

set_option maxHeartbeats 1000000 in
set_option maxRecDepth 100000 in
theorem trace_any (s : ByteArray) (w : World) (hs : s.size ≤ 100000) :
    Calls Try.prog 27 #[.string s] w fun e w' => ∃ v, e = .returned v ∧ Hid (OwnsT 67 w' w.heap.size v (traceL s.data.toList)) ∧ Below w.heap.size w w' := by
  obtain ⟨i0, hi, hz0, hz1, hz2⟩ := info_parts info_tb
  have hmk := fun W => run_make (P := Try.prog) W 59 67 i0 _ Try.underlying59 hi hz0 .i64 .i64 0 s.size (by omega) (by omega) (by rw [hz2]; omega) (by omega)
  go_enter Try.func27, Try.ntmps27
  go_wp2
  go_loopw [3, 10] (fun v i wr => ∃ (k : Nat) (acc : List Tb), k ≤ s.size ∧ i = .int .i64 k ∧ acc.length ≤ k ∧ Hid (traceL s.data.toList = acc ++ traceFrom k (s.data.toList.drop k)) ∧ Hid (OwnsT 67 wr w.heap.size v acc) ∧ Below w.heap.size w wr)
    (fun _ i _ => s.size - (intOf i).toNat)
  case atStart => exact ⟨0, [], Nat.zero_le _, rfl, Nat.le_refl _, rfl, World.ownsRow_made w _ _ (Nat.le_refl _) (by unfold maxLen; omega) (size_madeCells _ _), (Below.refl _ _).alloc (Nat.le_refl _) _⟩
  case round =>
    obtain ⟨k, acc, hk, rfl, hak, hacc, hown, hb⟩ := hrel
    have hzw := hb.size
    by_cases hlt : k < s.size
    · have hacc2 := Lib.hid (trace_step (str_at s k hlt) hacc.out)
      clear hacc
      go_wp2_with (at_builtin; refine wpList_append_own _ rfl _ _ 59 rfl w.heap.size 67 i0 _ 2 16 Try.underlying59 hi hz0 hz1 hz2 rfl (by decide) _ _ _ rfl (hown.out.alloc _) ⟨wr.heap.size, 0, none⟩ 1 1 [.int .u8 s[k].toNat, .int .i64 k] rfl rfl (World.news_of_block (heap_alloc_new wr _)) (by simp [Value.oneCell']) (by unfold maxLen; omega) (by omega) (by simp; omega) ?_)
      intro v' w1 hown' hgrow _
      have hown2 : Hid (OwnsT 67 w1 w.heap.size v' (acc ++ [⟨s[k], k⟩])) := by
        show World.ownsRow _ _ _ _ _ _ _
        rw [List.length_append, tbCells_append]
        exact hown'
      have hb2 : Below w.heap.size w w1 := (hb.alloc hzw _).grown hgrow (by simp; omega) (fun j hj => (hown.out.lt j hj).1)
      clear hown' hgrow hown
      go_wp2
      go_roundw
      case rel => exact ⟨k + 1, _, by omega, by go_num, by simp; omega, hacc2, hown2, hb2⟩
      case measure => simp [intOf]; omega
    · have hfin : Hid (OwnsT 67 wr w.heap.size u3 (traceL s.data.toList)) := by
        have := hacc.out
        rw [List.drop_eq_nil_of_le (by rw [Array.length_toList]; show s.size ≤ k; omega), traceFrom, List.append_nil] at this
        rw [this]
        exact hown
      go_wp2
      go_ret
      exact ⟨_, rfl, hfin, hb⟩
end Go.Proofs.Ytdmmoknddkfnmaa
