/-
  slices.Backward over the edits: it hands over the edits from the last to the first.
-/
import Derived.Test.YtkbodbbbgibgfaaRounds
import Derived.Test.YtkbodbbbgibgfaaApply
import Derived.OwnWalkIn
import Derived.TacticsInMore
import Derived.LoopNIn
import Derived.LoopIn
namespace Go.Proofs.Ytkbodbbbgibgfaa
open Go.RowKit Go.Shelf

attribute [local go_sem] Oper.semAt_some

/-- The edits from the last to the first, with their places. -/
def backs (l : List Ed) : List (Ed × Nat) := l.zipIdx.reverse

theorem backs_step {l : List Ed} {k : Nat} {x : Ed} (h : l[k]? = some x) : backs (l.take (k + 1)) = (x, k) :: backs (l.take k) := by
  have hk : k < l.length := (List.getElem?_eq_some_iff.1 h).1
  unfold backs
  rw [take_snoc h, List.zipIdx_append]
  have e : (l.take k).length = k := by rw [List.length_take]; omega
  simp [e]

def encEd (x : Ed × Nat) : Array Value := #[.int .i64 (x.2 : Int), .agg #[.int .i64 x.1.s, .int .i64 x.1.e, .string x.1.t]]

/-- A round keeps what lay below n₀, and the block Bs. -/
def KpB (n₀ Bs : Nat) (A B : World) : Prop := Below n₀ A B ∧ B.heap[Bs]? = A.heap[Bs]?

theorem KpB.trans {n₀ Bs : Nat} {A B C : World} (h : KpB n₀ Bs A B) (k : KpB n₀ Bs B C) : KpB n₀ Bs A C := ⟨h.1.trans k.1, k.2.trans h.2⟩

set_option maxRecDepth 100000 in
set_option maxHeartbeats 1000000 in
theorem back_in (F : Fence) (n : Nat) (h5 : F.fn 32) (hro : F.round = none) (a : Option Addr) (len cap : Nat) (w : World) :
    CallsIn F n Try.prog 32 #[.slice a len cap] w fun e w' => e = .returned (.func (.func 43) #[] #[.pointer (some ⟨w.heap.size, 0, none⟩)]) ∧ w' = w.alloc (.cells #[.slice a len cap] 44) := by
  refine callsIn_of_wp Try.func32 rfl h5 ?_ hro
  simp only [Try.ntmps32, List.size_toArray, List.length_cons, List.length_nil, Nat.reduceAdd, Nat.reduceSub, Array.replicate_succ, Array.replicate_zero, List.push_toArray, List.append_toArray, List.nil_append, List.cons_append]
  gi_wp2
  go_ret
  exact ⟨rfl, rfl⟩

set_option maxRecDepth 100000 in
set_option maxHeartbeats 2000000 in
theorem back_over (F : Fence) (n : Nat) (h7 : F.fn 43) (hro : F.round = none) (hn : 1 ≤ n) (Bs n₀ : Nat) (a : Option Addr) (l : List Ed) (cap : Nat) (w : World) (hBs : Bs < w.heap.size) (hn₀ : n₀ ≤ w.heap.size) (hl : l.length ≤ 1000)
    (hc : w.cell? ⟨Bs, 0, none⟩ = some (.slice a l.length cap)) (hE : Eds w n₀ a l) :
    HandsOver F n Try.prog 43 #[.pointer (some ⟨Bs, 0, none⟩)] encEd (KpB n₀ Bs) (backs l) w := fun li J W hW hJ hY h0 => by
  have hE' := Lib.hid (hE.below (hW.mono hn₀))
  have hc' : W.cell? ⟨Bs, 0, none⟩ = some (.slice a l.length cap) := (hW.cell (p := ⟨Bs, 0, none⟩) hBs).trans hc
  have l1 : (l.length : Int) ≤ 1000 := by omega
  have l2 : (0 : Int) ≤ l.length := by omega
  have hYY := Lib.hid hY
  have hJJ := Lib.hid hJ
  clear hJ
  clear hY hE hc
  refine callsIn_of_wp Try.func43 rfl h7 ?_ hro
  simp only [Try.ntmps43, List.size_toArray, List.length_cons, List.length_nil, Nat.reduceAdd, Nat.reduceSub, Array.replicate_succ, Array.replicate_zero, List.push_toArray, List.append_toArray, List.nil_append, List.cons_append]
  gi_wp2
  gi_loopw [3] (fun i wr => ∃ (k : Nat) (pre : List (Ed × Nat)), k ≤ l.length ∧ i = .int .i64 ((k : Int) - 1) ∧ backs l = pre ++ backs (l.take k) ∧ J pre wr ∧ KpB n₀ Bs W wr)
    (fun i _ => (intOf i + 1).toNat)
  case atStart => exact ⟨l.length, [], Nat.le_refl _, rfl, by simp, h0, Below.refl _ _, rfl⟩
  case round =>
    obtain ⟨k, pre, hk, rfl, hpre, hJs, hK⟩ := hrel
    have hbox : wr.cell? ⟨Bs, 0, none⟩ = some (.slice a l.length cap) := (World.cell?_of_block (w := W) (a := ⟨Bs, 0, none⟩) hK.2).trans hc'
    cases k with
    | zero =>
      gi_wp2
      go_end0
      refine ⟨⟨_, rfl⟩, ?_⟩
      rw [hpre]
      simpa [backs] using hJs
    | succ k =>
      have hx : l[k]? = some (l[k]'(by omega)) := List.getElem?_eq_getElem (by omega)
      obtain ⟨x, hX⟩ : ∃ x, x = l[k]'(by omega) := ⟨_, rfl⟩
      rw [← hX] at hx
      clear hX
      obtain ⟨hok, b, o, rfl, hb, c0, c1, c2⟩ := (hE'.out.below hK.1) k x hx
      have hpre2 : backs l = pre ++ (x, k) :: backs (l.take k) := by rw [hpre, backs_step hx]
      obtain ⟨fn, tmps, assign, body, hy, hR⟩ := hYY.out pre (x, k) _ wr hpre2 hJs
      dsimp only [encEd] at hy
      have e1 : ((k + 1 : Nat) : Int) - 1 = k := by omega
      have k1 : (0 : Int) ≤ k := by omega
      have k2 : (k : Int) < l.length := by omega
      rw [e1]
      clear hok
      gi_wp2
      refine hR.mono ?_
      rintro e W3 ⟨rfl, hJ3, hk3⟩
      gi_wp2
      go_roundw
      case rel => exact ⟨k, pre ++ [(x, k)], by omega, by go_num, by rw [hpre2]; simp, hJ3, hK.trans hk3⟩
      case measure => simp [intOf]
end Go.Proofs.Ytkbodbbbgibgfaa
