/-
  textedit.appendChange by its contract.
-/
import Derived.Test.YtdmmoknddkfnmaaOwn
import Derived.Lib.Builder
import Derived.Lib.AppendStr
import Derived.Laws.IdiomStrings
import Derived.Lib.UnsafeStr
namespace Go.Proofs.Ytdmmoknddkfnmaa
open Go.RowKit

/-- The edit of a gap, unless there is nothing in it. -/
def addC (s e : Int) (g : List UInt8) : List Ed := if s = e ∧ g = [] then [] else [⟨s, e, ⟨g.toArray⟩⟩]

def OwnsB (w : World) (B : Nat) (v : Value) (g : List UInt8) : Prop := w.ownsRow B 5 1 v g.length (Lib.byteCells g)

theorem OwnsB.form {w : World} {B : Nat} {v : Value} {g : List UInt8} (h : OwnsB w B v g) : ∃ a cap, v = .slice a g.length cap ∧ g.length ≤ cap ∧ (convert 50 9 v).run Try.prog w = .ok (.string ⟨g.toArray⟩) w := by
  rcases h.2 with ⟨rfl, h0⟩ | ⟨b, cap, cur, rfl, hb, hg, h1, h2, h3, h4⟩
  · have : g = [] := List.eq_nil_of_length_eq_zero h0
    subst this
    refine ⟨none, 0, rfl, Nat.le_refl _, ?_⟩
    rw [run_convert_bytes_nil w 50 5 Try.underlying50 Try.underlying5 0 0 9 Try.underlying9]
    rfl
  · refine ⟨some ⟨b, 0, none⟩, cap, rfl, h1, ?_⟩
    refine run_convert_bytes_back w 50 9 5 ⟨b, 0, none⟩ cap g Try.underlying50 Try.underlying5 Try.underlying9 ?_
    intro j hj
    have hadd : (⟨b, 0, none⟩ : Addr).add j = ⟨b, j, none⟩ := by unfold Addr.add; split <;> simp_all
    rw [hadd, cell_of_row w b j cur 5 (0, 0) hg]
    have h5 : (cur.toList.take (g.length * 1))[j]? = some (.int .u8 (g[j].toNat : Int)) := by rw [h4]; simp [Lib.byteCells, hj]
    rw [List.getElem?_take] at h5
    split at h5
    · simpa using h5
    · cases h5

theorem own_ne {w : World} {B : Nat} {e T : TypeId} {size n : Nat} {v : Value} {xs : List Value} {b : Nat} {cs : Array Value} {fr : Nat × Nat} (hown : w.ownsRow B e size v n xs) (hb : w.heap[b]? = some (.cells cs T fr)) (hTe : T ≠ e) : v.ownBlock ≠ some b := by
  rcases hown.2 with ⟨rfl, _⟩ | ⟨g, cap, cur, rfl, _, hg, _⟩
  · simp [Value.ownBlock]
  · intro h
    simp only [Value.ownBlock, Option.some.injEq] at h
    subst h
    rw [hg] at hb
    simp only [Option.some.injEq, Obj.cells.injEq] at hb
    exact hTe hb.2.1.symm

/-- What is owned as rows of one type stays while a row of another type is grown. -/
theorem own_other {w w' : World} {B B' : Nat} {e T : TypeId} {size size' n n' : Nat} {v v' : Value} {xs xs' : List Value} (h : w.ownsRow B e size v n xs) (h' : w.ownsRow B' T size' v' n' xs') (hTe : T ≠ e) (hg : w.grownBy w' v'.ownBlock) :
    w'.ownsRow B e size v n xs := by
  refine h.kept hg ?_
  cases hv : v.ownBlock with
  | none => exact .inl rfl
  | some k =>
    right
    intro he
    rcases h.2 with ⟨rfl, _⟩ | ⟨g, cap, cur, rfl, _, hgg, _⟩
    · simp [Value.ownBlock] at hv
    · simp [Value.ownBlock] at hv
      subst hv
      exact own_ne h' hgg (Ne.symm hTe) he.symm

set_option maxHeartbeats 1000000 in
set_option maxRecDepth 100000 in
theorem change_go (B : Nat) (v : Value) (ga : Option Addr) (gc : Nat) (acc : List Ed) (s e : Int) (g : List UInt8) (w : World) (hown : Hid (Owns w B v acc)) (hgv : OwnsB w B (.slice ga g.length gc) g) (hl : acc.length ≤ 100000) (hB : B ≤ w.heap.size)
    (hcase : ((s == e) = false) ∨ ((s == e) = true ∧ (((g.length : Int) == 0) = false))) :
    Calls Try.prog 34 #[v, .int .i64 s, .int .i64 e, .slice ga g.length gc] w fun r w' => ∃ v', r = .returned v' ∧ Hid (Owns w' B v' (acc ++ [⟨s, e, ⟨g.toArray⟩⟩])) ∧ w.grownBy w' v.ownBlock := by
  obtain ⟨i0, hi, hz0, hz1, hz2⟩ := info_parts info_ed
  obtain ⟨_, _, _, _, hcv⟩ := hgv.form
  clear hgv
  rcases hcase with h1 | ⟨h1, h2⟩
  all_goals
    go_enter Try.func34, Try.ntmps34
    go_wp2_with (at_builtin; refine wpList_append_own _ rfl _ _ 22 rfl B 35 i0 _ 3 32 Try.underlying22 hi hz0 hz1 hz2 rfl (by decide) _ _ _ rfl (hown.out.alloc _) ⟨w.heap.size, 0, none⟩ 1 1 [.int .i64 s, .int .i64 e, .string ⟨g.toArray⟩] rfl rfl (World.news_of_block (heap_alloc_new w _)) (by simp [Value.oneCell']) (by unfold maxLen; omega) (by omega) (by simp; omega) ?_)
    intro v' w1 hown' hgrow _
    have hown4 : Hid (Owns w1 B v' (acc ++ [⟨s, e, ⟨g.toArray⟩⟩])) := by
      show World.ownsRow _ _ _ _ _ _ _
      rw [edCells_append, List.length_append]
      exact hown'
    have hgr : Hid (w.grownBy w1 v.ownBlock) := ⟨hgrow.os, hgrow.tape, hgrow.output, by have := hgrow.size; simp at this; omega, fun k hk hne => (hgrow.block k (by simp; omega) hne).trans (Below.heap_alloc w _ k hk)⟩
    clear hown' hgrow
    go_wp2
    go_ret
    exact ⟨_, rfl, hown4, hgr⟩

theorem change_no (v : Value) (ga : Option Addr) (gc : Nat) (s : Int) (w : World) (hv : ∃ a n c, v = .slice a n c) :
    Calls Try.prog 34 #[v, .int .i64 s, .int .i64 s, .slice ga 0 gc] w fun r w' => r = .returned v ∧ w' = w := by
  obtain ⟨a, n, c, rfl⟩ := hv
  go_enter Try.func34, Try.ntmps34
  go_wp2
  go_ret
  exact ⟨rfl, rfl⟩

theorem change_any (B : Nat) (v gv : Value) (acc : List Ed) (s e : Int) (g : List UInt8) (w : World) (hown : Hid (Owns w B v acc)) (hgv : Hid (OwnsB w B gv g)) (hl : acc.length ≤ 100000) (hB : B ≤ w.heap.size) :
    Calls Try.prog 34 #[v, .int .i64 s, .int .i64 e, gv] w fun r w' => ∃ v', r = .returned v' ∧ Hid (Owns w' B v' (acc ++ addC s e g)) ∧ Hid (w.grownBy w' v.ownBlock) := by
  obtain ⟨ga, gc, rfl, _, _⟩ := hgv.out.form
  by_cases h : s = e ∧ g = []
  · obtain ⟨rfl, rfl⟩ := h
    obtain ⟨a, c, hv, _⟩ : ∃ a c, v = .slice a acc.length c ∧ True := by
      rcases hown.out.2 with ⟨hv, h0⟩ | ⟨b, cap, cur, hv, _⟩
      · exact ⟨_, _, by rw [hv, h0], trivial⟩
      · exact ⟨_, _, hv, trivial⟩
    refine (change_no v ga gc s w ⟨_, _, _, hv⟩).mono ?_
    rintro r w' ⟨rfl, rfl⟩
    refine ⟨v, rfl, ?_, ⟨rfl, rfl, rfl, Nat.le_refl _, fun _ _ _ => rfl⟩⟩
    have : addC s s [] = [] := by simp [addC]
    rw [this, List.append_nil]
    exact hown
  · have ha : addC s e g = [⟨s, e, ⟨g.toArray⟩⟩] := by rw [addC, if_neg h]
    rw [ha]
    refine change_go B v ga gc acc s e g w hown hgv.out hl hB ?_
    by_cases hs : s = e
    · refine .inr ⟨by simp [hs], ?_⟩
      have : g ≠ [] := fun hg => h ⟨hs, hg⟩
      have h2 := List.length_pos_iff.2 this
      simp; omega
    · exact .inl (by simp [hs])
end Go.Proofs.Ytdmmoknddkfnmaa
