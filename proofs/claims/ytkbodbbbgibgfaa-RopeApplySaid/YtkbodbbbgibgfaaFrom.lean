/-
  short, and ropeFrom in its two forms, by their contracts.
-/
import Derived.Test.YtkbodbbbgibgfaaApi
import Derived.Deep.RegionWith
namespace Go.Proofs.Ytkbodbbbgibgfaa
open Go.RowKit
attribute [local go_sem ↓] Go.wp_at_zero Go.wp_at_succ

/-- A string cut to n bytes. -/
def cut (n : Nat) (s : ByteArray) : ByteArray := if s.size ≤ n then s else s.extract 0 n

theorem cut_size (n : Nat) (s : ByteArray) : (cut n s).size ≤ n := by
  unfold cut; split
  · assumption
  · simp; omega

theorem short_any (s : ByteArray) (n : Nat) (w : World) (hs : s.size ≤ maxLen) (hn : n ≤ 1000) : Calls Try.prog 8 #[.string s, .int .i64 n] w fun e w' => e = .returned (.string (cut n s)) ∧ w = w' := by
  have hs' : (s.size : Int) ≤ 9223372036854775807 := by unfold maxLen at hs; omega
  have g0 : (n : Int) ≤ 1000 := by omega
  by_cases h : s.size ≤ n
  · have HV : Hid (cut n s = s) := if_pos h
    have h1 : (s.size : Int) ≤ n := by omega
    have hm : min (s.size : Int) n = s.size := by omega
    go_enter Try.func8, Try.ntmps8
    go_wp2_with fail
    go_ret
    exact ⟨by rw [HV.out]; simp, rfl⟩
  · have HV : Hid (cut n s = s.extract 0 n) := if_neg h
    have h1 : (n : Int) < s.size := by omega
    have hm : min (s.size : Int) n = n := by omega
    go_enter Try.func8, Try.ntmps8
    go_wp2_with fail
    go_ret
    exact ⟨by rw [HV.out]; rfl, rfl⟩

/-- The slice at a reads in w as the list l of strings. -/
def Strs (w : World) (B : Nat) (a : Option Addr) (l : List ByteArray) : Prop :=
  ∀ i x, l[i]? = some x → ∃ b o, a = some ⟨b, o, none⟩ ∧ b < B ∧ w.cell? ⟨b, o + i, none⟩ = some (.string x)

theorem Strs.below {w w' : World} {B B' : Nat} {a : Option Addr} {l : List ByteArray} (h : Strs w B a l) (hb : Below B w w') (hB : B ≤ B') : Strs w' B' a l := by
  intro i x hx
  obtain ⟨b, o, h1, h2, h3⟩ := h i x hx
  exact ⟨b, o, h1, Nat.lt_of_lt_of_le h2 hB, (hb.cell (p := ⟨b, _, none⟩) h2).trans h3⟩

theorem Strs.to {w w' : World} {a : Option Addr} {l : List ByteArray} (h : Strs w w.heap.size a l) (hb : Below w.heap.size w w') : Strs w' w'.heap.size a l := h.below hb hb.size

theorem Strs.take {w : World} {B : Nat} {a : Option Addr} {l : List ByteArray} (h : Strs w B a l) (m : Nat) : Strs w B a (l.take m) := by
  intro i x hx
  rw [List.getElem?_take] at hx
  split at hx
  · exact h i x hx
  · cases hx

theorem Strs.drop {w : World} {B b o : Nat} {l : List ByteArray} (h : Strs w B (some ⟨b, o, none⟩) l) (m : Nat) : Strs w B (some ⟨b, o + m, none⟩) (l.drop m) := by
  intro i x hx
  rw [List.getElem?_drop] at hx
  obtain ⟨b', o', h1, h2, h3⟩ := h _ x hx
  cases h1
  exact ⟨b, o + m, rfl, h2, by rw [Nat.add_assoc]; exact h3⟩

def cat (l : List ByteArray) : List UInt8 := l.flatMap fun s => s.data.toList

theorem cat_take {l : List ByteArray} {k : Nat} {x : ByteArray} (h : l[k]? = some x) : cat (l.take (k + 1)) = cat (l.take k) ++ x.data.toList := by
  rw [List.take_add_one, h]; simp [cat]

theorem cat_append (a b : List ByteArray) : cat (a ++ b) = cat a ++ cat b := by simp [cat]

theorem cat_split (l : List ByteArray) (m : Nat) : cat (l.take m) ++ cat (l.drop m) = cat l := by rw [← cat_append, List.take_append_drop]

theorem cat_take_le (l : List ByteArray) (k : Nat) : (cat (l.take k)).length ≤ (cat l).length := by
  rw [← cat_split l k, List.length_append]; omega

set_option maxHeartbeats 2000000 in
set_option maxRecDepth 100000 in
theorem from_one (a : Option Addr) (l : List ByteArray) (cap : Nat) (w : World) (h : Strs w w.heap.size a l) (hl : l.length ≤ 1000000) (hn : (cat l).length ≤ 1099511627776) :
    Calls Try.prog 9 #[.slice a l.length cap, .bool false] w (HandsRope (cat l) w) := by
  have H := Lib.hid h
  have HN := Lib.hid hn
  clear h hn
  go_enter Try.func9, Try.ntmps9
  go_wp2_with fail
  go_loopw [29] (fun i wr => ∃ (k : Nat) (p : Option Addr), k ≤ l.length ∧ i = .int .i64 k ∧ wr.cell? ⟨w.heap.size + 1, 0, none⟩ = some (.pointer p) ∧ wr.frozen? ⟨w.heap.size + 1, 0, none⟩ = false ∧ wr.cell? ⟨w.heap.size, 0, none⟩ = some (.pointer none) ∧ wr.frozen? ⟨w.heap.size, 0, none⟩ = false ∧
      Hid (IsRope wr p (cat (l.take k))) ∧ Below w.heap.size w wr ∧ w.heap.size + 1 < wr.heap.size)
    (fun i _ => l.length - (intOf i).toNat)
  case atStart => exact ⟨0, none, Nat.zero_le _, rfl, by go_simp, by go_simp, by go_simp, by go_simp, by simp only [List.take_zero]; exact isRope_none _, ((Below.refl _ _).alloc (Nat.le_refl _) _).alloc (by simp) _, by simp⟩
  case round =>
    obtain ⟨k, p, hk, rfl, c1, f1, c0, f0, hR, hB, hz⟩ := hrel
    by_cases hlt : k < l.length
    · have hx : l[k]? = some l[k] := List.getElem?_eq_getElem hlt
      obtain ⟨x, hX⟩ : ∃ x, x = l[k] := ⟨_, rfl⟩
      rw [← hX] at hx
      clear hX
      obtain ⟨b, o, rfl, hb, hcell⟩ := H.out.below hB (Nat.le_refl _) k x hx
      have hct := cat_take hx
      have hle := cat_take_le l (k + 1)
      have hsz : (cat (l.take k)).length + x.data.toList.length ≤ 1099511627776 := by have := HN.out; rw [hct, List.length_append] at hle; omega
      have hxs : x.size ≤ 1099511627776 := by have e : x.data.toList.length = x.size := (by simp); omega
      have K1 := Lib.hid (fun W => new_any x W hxs)
      have K2 := Lib.hid (fun W q (hW : Below wr.heap.size wr W) (hq : Hid (IsRope W q x.data.toList)) => concat_any p q _ _ W (Lib.hid (hR.out.to hW)) hq hsz)
      have HCT := Lib.hid hct
      clear hx hct hle
      go_wp2_with fail
      go_region_with (first
        | (go_at_call 15; refine (K1.out _).mono ?_; rintro e w1 ⟨p1, rfl, hr1, hb0⟩; have hb1 := below_drew' hb0; have d1 := (hb1.cell (p := ⟨w.heap.size + 1, 0, none⟩) hz).trans c1; have K3 := Lib.hid (K2.out w1 p1 hb1 hr1); clear K1 K2)
        | (go_at_call 14; refine K3.out.mono ?_; rintro e w2 ⟨p2, rfl, hr2, hb2⟩; have d2 := ((hb1.trans (hb2.mono hb1.size)).cell (p := ⟨w.heap.size + 1, 0, none⟩) hz).trans c1; have g2 := ((hb1.trans (hb2.mono hb1.size)).frozen (p := ⟨w.heap.size + 1, 0, none⟩) hz).trans f1; have hb3 := hb1.trans (hb2.mono hb1.size)))
      all_goals
        have z0 := (hb3.cell (p := ⟨w.heap.size, 0, none⟩) (by simp; omega)).trans c0
        have y0 := (hb3.frozen (p := ⟨w.heap.size, 0, none⟩) (by simp; omega)).trans f0
        have HR2 := Lib.hid (hr2.out.set d2 (.pointer p2))
        have hz3 := hb3.size
        go_wp2_with fail
        go_roundw
        case rel => exact ⟨k + 1, p2, by omega, by go_num, World.cell?_setCell_same' _ _ _ (by rw [d2]; rfl), by rw [World.frozen?_setCell]; exact g2, by rw [World.cell?_setCell_far _ _ _ _ (by simp)]; exact z0, by rw [World.frozen?_setCell]; exact y0, by rw [HCT.out]; exact HR2, (hB.trans (hb3.mono (by omega))).setCell (p := ⟨w.heap.size + 1, 0, none⟩) (by simp) _, by simp; omega⟩
        case measure => simp [intOf]; omega
    · obtain rfl : k = l.length := by omega
      have hR' : IsRope wr p (cat l) := by have := hR.out; rwa [List.take_length] at this
      have HR := Lib.hid (hR'.set c0 (.pointer p))
      clear hR hR'
      go_wp2_with fail
      have z0 : (wr.setCell ⟨w.heap.size, 0, none⟩ (.pointer p)).cell? ⟨w.heap.size, 0, none⟩ = some (.pointer p) := World.cell?_setCell_same' _ _ _ (by rw [c0]; rfl)
      refine bodyPost_ret (v := .agg #[.pointer p]) (by simp [results, Try.results9, go_sem, z0]; try rfl) rfl ?_
      exact ⟨p, rfl, HR, hB.setCell (p := ⟨w.heap.size, 0, none⟩) (Nat.le_refl _) _⟩

set_option maxHeartbeats 2000000 in
set_option maxRecDepth 100000 in
theorem from_few (a : Option Addr) (l : List ByteArray) (cap : Nat) (w : World) (h : Strs w w.heap.size a l) (h1 : l.length ≤ 1) (hn : (cat l).length ≤ 1099511627776) :
    Calls Try.prog 9 #[.slice a l.length cap, .bool true] w (HandsRope (cat l) w) := by
  have g1 : (l.length : Int) ≤ 1 := by omega
  have H := Lib.hid h
  have HN := Lib.hid hn
  clear h hn
  go_enter Try.func9, Try.ntmps9
  go_wp2_with fail
  go_loopw [29] (fun i wr => ∃ (k : Nat) (p : Option Addr), k ≤ l.length ∧ i = .int .i64 k ∧ wr.cell? ⟨w.heap.size + 1, 0, none⟩ = some (.pointer p) ∧ wr.frozen? ⟨w.heap.size + 1, 0, none⟩ = false ∧ wr.cell? ⟨w.heap.size, 0, none⟩ = some (.pointer none) ∧ wr.frozen? ⟨w.heap.size, 0, none⟩ = false ∧
      Hid (IsRope wr p (cat (l.take k))) ∧ Below w.heap.size w wr ∧ w.heap.size + 1 < wr.heap.size)
    (fun i _ => l.length - (intOf i).toNat)
  case atStart => exact ⟨0, none, Nat.zero_le _, rfl, by go_simp, by go_simp, by go_simp, by go_simp, by simp only [List.take_zero]; exact isRope_none _, ((Below.refl _ _).alloc (Nat.le_refl _) _).alloc (by simp) _, by simp⟩
  case round =>
    obtain ⟨k, p, hk, rfl, c1, f1, c0, f0, hR, hB, hz⟩ := hrel
    by_cases hlt : k < l.length
    · have hx : l[k]? = some l[k] := List.getElem?_eq_getElem hlt
      obtain ⟨x, hX⟩ : ∃ x, x = l[k] := ⟨_, rfl⟩
      rw [← hX] at hx
      clear hX
      obtain ⟨b, o, rfl, hb, hcell⟩ := H.out.below hB (Nat.le_refl _) k x hx
      have hct := cat_take hx
      have hle := cat_take_le l (k + 1)
      have hsz : (cat (l.take k)).length + x.data.toList.length ≤ 1099511627776 := by have := HN.out; rw [hct, List.length_append] at hle; omega
      have hxs : x.size ≤ 1099511627776 := by have e : x.data.toList.length = x.size := (by simp); omega
      have K1 := Lib.hid (fun W => new_any x W hxs)
      have K2 := Lib.hid (fun W q (hW : Below wr.heap.size wr W) (hq : Hid (IsRope W q x.data.toList)) => concat_any p q _ _ W (Lib.hid (hR.out.to hW)) hq hsz)
      have HCT := Lib.hid hct
      clear hx hct hle
      go_wp2_with fail
      go_region_with (first
        | (go_at_call 15; refine (K1.out _).mono ?_; rintro e w1 ⟨p1, rfl, hr1, hb0⟩; have hb1 := below_drew' hb0; have d1 := (hb1.cell (p := ⟨w.heap.size + 1, 0, none⟩) hz).trans c1; have K3 := Lib.hid (K2.out w1 p1 hb1 hr1); clear K1 K2)
        | (go_at_call 14; refine K3.out.mono ?_; rintro e w2 ⟨p2, rfl, hr2, hb2⟩; have d2 := ((hb1.trans (hb2.mono hb1.size)).cell (p := ⟨w.heap.size + 1, 0, none⟩) hz).trans c1; have g2 := ((hb1.trans (hb2.mono hb1.size)).frozen (p := ⟨w.heap.size + 1, 0, none⟩) hz).trans f1; have hb3 := hb1.trans (hb2.mono hb1.size)))
      all_goals
        have z0 := (hb3.cell (p := ⟨w.heap.size, 0, none⟩) (by simp; omega)).trans c0
        have y0 := (hb3.frozen (p := ⟨w.heap.size, 0, none⟩) (by simp; omega)).trans f0
        have HR2 := Lib.hid (hr2.out.set d2 (.pointer p2))
        have hz3 := hb3.size
        go_wp2_with fail
        go_roundw
        case rel => exact ⟨k + 1, p2, by omega, by go_num, World.cell?_setCell_same' _ _ _ (by rw [d2]; rfl), by rw [World.frozen?_setCell]; exact g2, by rw [World.cell?_setCell_far _ _ _ _ (by simp)]; exact z0, by rw [World.frozen?_setCell]; exact y0, by rw [HCT.out]; exact HR2, (hB.trans (hb3.mono (by omega))).setCell (p := ⟨w.heap.size + 1, 0, none⟩) (by simp) _, by simp; omega⟩
        case measure => simp [intOf]; omega
    · obtain rfl : k = l.length := by omega
      have hR' : IsRope wr p (cat l) := by have := hR.out; rwa [List.take_length] at this
      have HR := Lib.hid (hR'.set c0 (.pointer p))
      clear hR hR'
      go_wp2_with fail
      have z0 : (wr.setCell ⟨w.heap.size, 0, none⟩ (.pointer p)).cell? ⟨w.heap.size, 0, none⟩ = some (.pointer p) := World.cell?_setCell_same' _ _ _ (by rw [c0]; rfl)
      refine bodyPost_ret (v := .agg #[.pointer p]) (by simp [results, Try.results9, go_sem, z0]; try rfl) rfl ?_
      exact ⟨p, rfl, HR, hB.setCell (p := ⟨w.heap.size, 0, none⟩) (Nat.le_refl _) _⟩


set_option maxHeartbeats 2000000 in
set_option maxRecDepth 100000 in
theorem from_all (n : Nat) : ∀ (a : Option Addr) (l : List ByteArray) (cap : Nat) (w : World), l.length ≤ n → Strs w w.heap.size a l → l.length ≤ cap → l.length ≤ 1000000 → (cat l).length ≤ 1099511627776 →
    Calls Try.prog 9 #[.slice a l.length cap, .bool true] w (HandsRope (cat l) w) := by
  induction n with
  | zero => intro a l cap w h0 h hcap hl hn; exact from_few a l cap w h (by omega) hn
  | succ n ih =>
    intro a l cap w h0 h hcap hl hn
    by_cases h1 : l.length ≤ 1
    · exact from_few a l cap w h h1 hn
    · obtain ⟨x0, hx0⟩ : ∃ x, l[0]? = some x := ⟨_, List.getElem?_eq_getElem (by omega)⟩
      obtain ⟨b, o, rfl, hb, _⟩ := h 0 x0 hx0
      have hc := cat_split l (l.length / 2)
      have hc2 : (cat (l.take (l.length / 2))).length + (cat (l.drop (l.length / 2))).length = (cat l).length := by rw [← hc, List.length_append]
      have e1 : (l.take (l.length / 2)).length = l.length / 2 := by rw [List.length_take]; omega
      have e2 : (l.drop (l.length / 2)).length = l.length - l.length / 2 := by rw [List.length_drop]
      have K1 := Lib.hid (fun W (hW : Below w.heap.size w W) => ih _ _ cap W (by rw [e1]; omega) (h.take (l.length / 2) |>.to hW) (by rw [e1]; omega) (by rw [e1]; omega) (by omega))
      have K2 := Lib.hid (fun W (hW : Below w.heap.size w W) => ih _ _ (cap - l.length / 2) W (by rw [e2]; omega) (h.drop (l.length / 2) |>.to hW) (by rw [e2]; omega) (by rw [e2]; omega) (by omega))
      have K3 := Lib.hid (fun W p q (hp : Hid (IsRope W p (cat (l.take (l.length / 2))))) (hq : Hid (IsRope W q (cat (l.drop (l.length / 2))))) => concat_any p q _ _ W hp hq (by omega))
      rw [e1] at K1
      rw [e2] at K2
      have HC := Lib.hid hc
      have g1 : (1 : Int) < l.length := by omega
      have g2 : (0 : Int) ≤ (l.length : Int) / 2 := by omega
      have g3 : (l.length : Int) / 2 ≤ cap := by omega
      have g4 : (l.length : Int) ≤ cap := by omega
      have g5 : (l.length : Int) / 2 ≤ l.length := by omega
      have g6 : ((l.length : Int) / 2).toNat = l.length / 2 := by omega
      have g7 : (l.length : Int) ≤ 1000000 := by omega
      clear hc hc2 e1 e2 ih hx0 h
      go_enter Try.func9, Try.ntmps9
      go_wp2_with fail
      have c0 : (w.alloc (.cells #[.pointer none] 27)).cell? ⟨w.heap.size, 0, none⟩ = some (.pointer none) := by go_simp
      have f0 : (w.alloc (.cells #[.pointer none] 27)).frozen? ⟨w.heap.size, 0, none⟩ = false := by go_simp
      have hB : Below w.heap.size w (w.alloc (.cells #[.pointer none] 27)) := (Below.refl _ _).alloc (Nat.le_refl _) _
      have hz : w.heap.size < (w.alloc (.cells #[.pointer none] 27)).heap.size := by simp
      generalize w.alloc (.cells #[.pointer none] 27) = w0 at *
      go_region_held3 (fun w' => True) (trivial)
        (first
          | (go_at_call 9; refine (K1.out _ ?_).mono ?_; (first | exact hB | exact hB.drew); rintro e w1 ⟨p1, rfl, hp1, hb0⟩; have hb1 : Below w0.heap.size w0 w1 := (by first | exact hb0 | exact below_drew' hb0); clear K1)
          | (go_at_call 9; refine (K2.out _ (hB.trans (hb1.mono (Nat.le_of_lt hz)))).mono ?_; rintro e w2 ⟨p2, rfl, hp2, hb2⟩; have hp3 := Lib.hid (hp1.out.to hb2); clear hp1 K2; have hb3 := hb1.trans (hb2.mono hb1.size); have c2 := (hb3.cell (p := ⟨w.heap.size, 0, none⟩) hz).trans c0)
          | (go_at_call 14; refine (K3.out _ _ _ hp3 hp2).mono ?_; rintro e w3 ⟨p3, rfl, hp4, hb4⟩; have hb5 := hb3.trans (hb4.mono hb3.size); have c3 := (hb5.cell (p := ⟨w.heap.size, 0, none⟩) hz).trans c0; have f3 := (hb5.frozen (p := ⟨w.heap.size, 0, none⟩) hz).trans f0))
      have HR := Lib.hid (hp4.out.set c3 (.pointer p3))
      go_wp2_with fail
      have z0 : (w3.setCell ⟨w.heap.size, 0, none⟩ (.pointer p3)).cell? ⟨w.heap.size, 0, none⟩ = some (.pointer p3) := World.cell?_setCell_same' _ _ _ (by rw [c3]; rfl)
      refine bodyPost_ret (v := .agg #[.pointer p3]) (by simp [results, Try.results9, go_sem, z0]; try rfl) rfl ?_
      exact ⟨p3, rfl, by rw [← HC.out]; exact HR, (hB.trans (hb5.mono (Nat.le_of_lt hz))).setCell (p := ⟨w.heap.size, 0, none⟩) (Nat.le_refl _) _⟩
end Go.Proofs.Ytkbodbbbgibgfaa
