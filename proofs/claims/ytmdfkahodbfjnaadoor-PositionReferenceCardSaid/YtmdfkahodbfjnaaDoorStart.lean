/-
  position.LineStarts and glossatorref1.LineStarts by their contracts.
-/
import Derived.Test.YtmdfkahodbfjnaaDoorBase
namespace Go.Proofs.YtmdfkahodbfjnaaDoor
open Go.RowKit

theorem lst_in {s : ByteArray} (hs : s.size ≤ 1000000) : InI (lst s s.size) := by
  intro z hz
  obtain ⟨j, hj⟩ := List.mem_iff_getElem?.1 hz
  obtain ⟨p, rfl, hp, _⟩ := lst_ls s _ _ _ hj
  omega

theorem nl_byte {s : ByteArray} {k : Nat} {c : UInt8} (hk : k < s.size) (h : s[k]'hk = c) : isNl s k = decide ((c.toNat : Int) = 10) := by
  unfold isNl
  rw [Utf8W.get!_of_lt s k hk, h]
  by_cases e : c = 10
  · subst e; rfl
  · rw [decide_eq_false]
    · simpa using e
    · intro h2
      exact e (UInt8.toNat_inj.1 (by show c.toNat = 10; omega))

set_option maxHeartbeats 1000000 in
theorem starts_any (s : ByteArray) (w : World) (hs : s.size ≤ 1000000) :
    Calls Tryd.prog 10 #[.string s] w fun e w' => ∃ a cap, e = .returned (.slice a (lst s s.size).length cap) ∧ Hid (Ints w' w'.heap.size a (lst s s.size)) ∧ Below w.heap.size w w' := by
  obtain ⟨i0, hi, hz0, hz1, hz2⟩ := info_parts info_int
  go_enter Tryd.func10, Tryd.ntmps10
  go_wp2_with fail
  go_loopw [3, 8] (fun v i wr => ∃ (k : Nat), k ≤ s.size ∧ i = .int .i64 k ∧ Hid (OwnsI wr w.heap.size v (lst s k)) ∧ Below w.heap.size w wr)
    (fun _ i _ => s.size - (intOf i).toNat)
  case atStart => exact ⟨0, Nat.zero_le _, rfl, World.ownsRow_lit w #[.int .i64 0] 1 (Nat.le_refl _) (by unfold maxLen; omega) rfl, (Below.refl _ _).alloc (Nat.le_refl _) _⟩
  case round =>
    obtain ⟨k, hk, rfl, hown, hb⟩ := hrel
    have hzw := hb.size
    by_cases hlt : k < s.size
    · have hlen : (lst s k).length ≤ 1000001 := by rw [lst_length]; have := nl_le s k; omega
      obtain ⟨c, hc⟩ : ∃ c, s[k]'hlt = c := ⟨_, rfl⟩
      have hn := nl_byte hlt hc
      by_cases hd : (c.toNat : Int) = 10
      · have hl := Lib.hid (lst_yes (hn.trans (decide_eq_true hd)))
        clear hn
        go_wp2_with (at_builtin; refine wpList_append_own _ rfl _ _ 27 rfl w.heap.size 3 i0 _ 1 8 Tryd.underlying27 hi hz0 hz1 hz2 rfl (by decide) _ _ _ rfl (hown.out.alloc _) ⟨wr.heap.size, 0, none⟩ 1 1 [.int .i64 (k + 1)] rfl rfl (World.news_of_block (heap_alloc_new wr _)) (by simp [Value.oneCell']) (by unfold maxLen; omega) (by omega) (by simp; omega) ?_)
        intro v' w3 hown' hgrow _
        have hown3 : Hid (OwnsI w3 w.heap.size v' (lst s (k + 1))) := by
          show World.ownsRow _ _ _ _ _ _ _
          rw [hl.out, List.length_append, iCells_append]
          exact hown'
        have hb4 : Below w.heap.size w w3 := (hb.alloc hzw _).grown hgrow (by simp; omega) (fun j hj => (hown.out.lt j hj).1)
        clear hown' hgrow hown hl
        go_wp2_with fail
        go_roundw
        case rel => exact ⟨k + 1, by omega, by go_num, hown3, hb4⟩
        case measure => simp [intOf]; omega
      · have hl := Lib.hid (lst_no (hn.trans (decide_eq_false hd)))
        have hd0 : ((c.toNat : Int) == 10) = false := by simpa using hd
        have hown3 : Hid (OwnsI wr w.heap.size u3 (lst s (k + 1))) := by rw [hl.out]; exact hown
        clear hn hown hl
        go_wp2_with fail
        go_roundw
        case rel => exact ⟨k + 1, by omega, by go_num, hown3, hb⟩
        case measure => simp [intOf]; omega
    · obtain rfl : k = s.size := by omega
      obtain ⟨a, cap, rfl, hI⟩ := hown.out.ints (lst_in hs)
      have HI := Lib.hid hI
      clear hI hown
      go_wp2_with fail
      go_ret
      exact ⟨_, _, rfl, HI, hb⟩

theorem own_ne {w : World} {B e size n bm : Nat} {v : Value} {xs : List Value} {cs : Array Value} {t : TypeId} {fr : Nat × Nat} (ho : w.ownsRow B e size v n xs) (hbk : w.heap[bm]? = some (.cells cs t fr)) (ht : t ≠ e) : v.ownBlock ≠ some bm := by
  rcases ho.2 with ⟨rfl, _⟩ | ⟨g, cap, cur, rfl, _, hg, _⟩
  · simp [Value.ownBlock]
  · intro h
    simp [Value.ownBlock] at h
    subst h
    rw [hg] at hbk
    simp at hbk
    exact ht hbk.2.1.symm

theorem block_new {w : World} {m : Nat} (h : w.heap.size = m) (o : Obj) : ((w.alloc o).drew).heap[m]? = some o := by subst h; exact heap_alloc_new w o

/-- The block m of wr holds the bytes of s. -/
def Row (wr : World) (m : Nat) (s : ByteArray) : Prop := ∃ cap fr, wr.heap[m]? = some (.cells (bytesRow s cap) 5 fr)

theorem Row.cell {wr : World} {m : Nat} {s : ByteArray} (h : Row wr m s) {k : Nat} (hk : k < s.size) : wr.cell? ⟨m, k, none⟩ = some (.int .u8 (s[k]'hk).toNat) := by
  obtain ⟨cap, fr, h⟩ := h
  rw [cell_of_row wr m k _ 5 fr h]
  have hk' : k < s.data.size := hk
  unfold bytesRow
  rw [Array.getElem?_append_left (by simpa using hk'), Array.getElem?_map, Array.getElem?_eq_getElem hk']
  rfl

theorem Row.grown {w w1 w3 : World} {B m : Nat} {s : ByteArray} {v : Value} {zs : List Int} {o : Obj} (h : Row w m s) (h1 : w1 = w) (ho : OwnsI w B v zs) (hg : (w1.alloc o).grownBy w3 v.ownBlock) : Row w3 m s := by
  subst h1
  obtain ⟨cap, fr, h⟩ := h
  have hlt : m < w1.heap.size := lt_of_block h
  exact ⟨cap, fr, by rw [hg.block m (by simp; omega) (Ne.symm (own_ne ho h (by decide))), Below.heap_alloc _ _ _ hlt]; exact h⟩

set_option maxHeartbeats 1000000 in
theorem rstarts_any (s : ByteArray) (w : World) (hs : s.size ≤ 1000000) :
    Calls Tryd.prog 11 #[.string s] w fun e w' => ∃ a cap, e = .returned (.slice a (lst s s.size).length cap) ∧ Hid (Ints w' w'.heap.size a (lst s s.size)) ∧ Below w.heap.size w w' := by
  obtain ⟨i0, hi, hz0, hz1, hz2⟩ := info_parts info_int
  have hcv := fun W => run_bytes_of_string (P := Tryd.prog) W 9 39 5 s Tryd.underlying9 Tryd.underlying39 Tryd.underlying5
  go_enter Tryd.func11, Tryd.ntmps11
  go_wp2_with fail
  clear hcv
  go_loopw [3, 10] (fun v i wr => ∃ (k : Nat), k ≤ s.size ∧ i = .int .i64 k ∧ Hid (OwnsI wr w.heap.size v (lst s k)) ∧ Hid (Row wr (w.heap.size + 1) s) ∧ Below w.heap.size w wr)
    (fun _ i _ => s.size - (intOf i).toNat)
  case atStart => exact ⟨0, Nat.zero_le _, rfl, (World.ownsRow_lit w #[.int .i64 0] 1 (Nat.le_refl _) (by unfold maxLen; omega) rfl).drew.alloc _, ⟨_, _, block_new (by simp) _⟩, (((Below.refl _ _).alloc (Nat.le_refl _) _).drew).alloc (by simp) _⟩
  case round =>
    obtain ⟨k, hk, rfl, hown, hrow, hb⟩ := hrel
    have hzw := hb.size
    by_cases hlt : k < s.size
    · have hlen : (lst s k).length ≤ 1000001 := by rw [lst_length]; have := nl_le s k; omega
      have hcell := hrow.out.cell hlt
      obtain ⟨c, hc⟩ : ∃ c, s[k]'hlt = c := ⟨_, rfl⟩
      have hn := nl_byte hlt hc
      rw [hc] at hcell
      clear hc
      by_cases hd : (c.toNat : Int) = 10
      · have hl := Lib.hid (lst_yes (hn.trans (decide_eq_true hd)))
        have hd1 : ((c.toNat : Int) == 10) = true := by simpa using hd
        clear hn
        go_wp2_with (at_builtin; refine wpList_append_own _ rfl _ _ 27 rfl w.heap.size 3 i0 _ 1 8 Tryd.underlying27 hi hz0 hz1 hz2 rfl (by decide) _ _ _ rfl (hown.out.alloc _) ⟨wr.heap.size, 0, none⟩ 1 1 [.int .i64 (k + 1)] rfl rfl (World.news_of_block (heap_alloc_new wr _)) (by simp [Value.oneCell']) (by unfold maxLen; omega) (by omega) (by simp; omega) ?_)
        intro v' w3 hown' hgrow _
        have hown3 : Hid (OwnsI w3 w.heap.size v' (lst s (k + 1))) := by
          show World.ownsRow _ _ _ _ _ _ _
          rw [hl.out, List.length_append, iCells_append]
          exact hown'
        have hrow3 : Hid (Row w3 (w.heap.size + 1) s) := hrow.out.grown rfl hown.out hgrow
        have hb4 : Below w.heap.size w w3 := (hb.alloc hzw _).grown hgrow (by simp; omega) (fun j hj => (hown.out.lt j hj).1)
        clear hown' hgrow hown hl hrow
        go_wp2_with fail
        go_roundw
        case rel => exact ⟨k + 1, by omega, by go_num, hown3, hrow3, hb4⟩
        case measure => simp [intOf]; omega
      · have hl := Lib.hid (lst_no (hn.trans (decide_eq_false hd)))
        have hd0 : ((c.toNat : Int) == 10) = false := by simpa using hd
        have hown3 : Hid (OwnsI wr w.heap.size u3 (lst s (k + 1))) := by rw [hl.out]; exact hown
        clear hn hown hl
        go_wp2_with fail
        go_roundw
        case rel => exact ⟨k + 1, by omega, by go_num, hown3, hrow, hb⟩
        case measure => simp [intOf]; omega
    · obtain rfl : k = s.size := by omega
      obtain ⟨a, cap, rfl, hI⟩ := hown.out.ints (lst_in hs)
      have HI := Lib.hid hI
      clear hI hown hrow
      go_wp2_with fail
      go_ret
      exact ⟨_, _, rfl, HI, hb⟩
end Go.Proofs.YtmdfkahodbfjnaaDoor
