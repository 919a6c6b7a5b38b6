/-
  How great the answers are; cells of a block of two.
-/
import Derived.Test.YtmdfkahodbfjnaaDoorEx
namespace Go.Proofs.YtmdfkahodbfjnaaDoor
open Go.RowKit

theorem col_bd {s : ByteArray} {u : Bool} {off stop : Nat} (hs : stop ≤ s.size) : ∀ (f p c x : Nat), stop - p ≤ f → c ≤ 2 * p → p ≤ stop → colOf u off (runes s stop p) c = some x → x ≤ 2 * stop + 2
  | 0, p, c, x, hf, hc, hp, h => by
    rw [col_end (by omega)] at h
    obtain rfl := Option.some.inj h
    omega
  | f + 1, p, c, x, hf, hc, hp, h => by
    rcases Nat.lt_or_ge p stop with hp | hp
    · rcases Nat.lt_or_ge p off with h1 | h1
      · rcases Nat.lt_or_ge off (p + dW s p) with h2 | h2
        · rw [col_in hs hp h1 h2] at h; cases h
        · have hw := dW_pos (s := s) (p := p) (by omega)
          have hd := wd_pos u s p (dW s p)
          rw [col_go hs hp h1 h2] at h
          rcases Nat.lt_or_ge stop (p + dW s p) with h3 | h3
          · rw [col_end (by omega)] at h
            obtain rfl := Option.some.inj h
            omega
          · exact col_bd hs f _ _ x (by omega) (by omega) h3 h
      · rw [col_at hs h1] at h
        obtain rfl := Option.some.inj h
        omega
    · rw [col_end hp] at h
      obtain rfl := Option.some.inj h
      omega

theorem pos_bd {s : ByteArray} {u : Bool} {off L C E : Int} (h : posV s u off = (L, C, E)) : 0 ≤ L ∧ L ≤ s.size ∧ 0 ≤ C ∧ C ≤ 2 * s.size + 2 := by
  by_cases hb : off < 0 ∨ (s.size : Int) < off
  · rw [posV_bad hb] at h; simp at h; omega
  · obtain ⟨n, rfl⟩ : ∃ n : Nat, off = n := ⟨off.toNat, by omega⟩
    have hn : n ≤ s.size := by omega
    rw [posV_in hn] at h
    have hz := ls_le s n
    have hsp := le_spec (s := s) (p := ls s n) (by omega)
    cases hc : colOf u n (lineAt s (ls s n)) 0 with
    | none => rw [hc] at h; simp [posOf] at h; omega
    | some c =>
      rw [hc] at h
      simp [posOf] at h
      obtain ⟨rfl, rfl, _⟩ := h
      have h1 := nl_le s n
      have h2 := col_bd hsp.2.1 _ (ls s n) 0 c (Nat.le_refl _) (Nat.zero_le _) hsp.1 hc
      omega

theorem two_at {W : World} {b : Nat} {v0 v1 : Value} {t : TypeId} (h : W.heap[b]? = some (.cells #[v0, v1] t (0, 0))) : W.cell? ⟨b, 0, none⟩ = some v0 ∧ W.cell? ⟨b, 1, none⟩ = some v1 := by
  constructor
  · rw [Lib.cell_of_heap h]; rfl
  · rw [Lib.cell_of_heap h]; rfl
theorem below_new {W W' : World} {o : Obj} (h : Below (W.alloc o).heap.size (W.alloc o) W') : W'.heap[W.heap.size]? = some o := (h.block _ (by simp)).trans (heap_alloc_new W o)
theorem below_old {W W' : World} {o o' : Obj} {b : Nat} (h : Below (W.alloc o').heap.size (W.alloc o') W') (hb : W.heap[b]? = some o) : W'.heap[b]? = some o :=
  (h.block _ (by have := lt_of_block hb; simp; omega)).trans ((Below.heap_alloc _ _ _ (lt_of_block hb)).trans hb)
theorem below_kept {W W' : World} {o : Obj} {b : Nat} (h : Below W.heap.size W W') (hb : W.heap[b]? = some o) : W'.heap[b]? = some o := (h.block _ (lt_of_block hb)).trans hb
theorem below_via {B : Nat} {w W W' : World} {o : Obj} (hB : Below B w W) (hz : B ≤ W.heap.size) (h : Below (W.alloc o).heap.size (W.alloc o) W') : Below B w W' := (hB.alloc hz o).trans (h.mono (by simp; omega))
theorem Tabs.alloc {W : World} (h : Tabs W) (o : Obj) : Tabs (W.alloc o) := h.to ((Below.refl _ _).alloc (Nat.le_refl _) _)
end Go.Proofs.YtmdfkahodbfjnaaDoor
