/-
  byteAt by its contract: the loop goes down the tree.
-/
import Derived.Test.YtkbodbbbgibgfaaSplit
import Derived.Deep.LoopGhost
namespace Go.Proofs.Ytkbodbbbgibgfaa
open Go.RowKit

def ByteAt (c : List UInt8) (i : Int) (w : World) (e : Ending) (w' : World) : Prop := ∃ x, c[i.toNat]? = some x ∧ e = .returned (.int .u8 (x.toNat : Int)) ∧ w' = w

set_option maxHeartbeats 2000000 in
set_option maxRecDepth 100000 in
theorem byte_any (t : Tr) (p : Option Addr) (i : Int) (w : World) (R : Hid (Rep w w.heap.size p t)) (v : t.avl) (h0 : 0 ≤ i) (h1 : i < t.len) (hn : t.len ≤ 1099511627776) :
    Calls Try.prog 25 #[.pointer p, .int .i64 i] w (ByteAt t.con i w) := by
  have hv := Lib.hid v
  have h3 := Lib.hid h1
  clear v
  obtain ⟨b, _, _, _, rfl, _, _⟩ := Rep.root R.out
  go_enter Try.func25, Try.ntmps25
  go_wp2_with fail
  go_loopg [0, 1] t.siz (fun k p i' wr => ∃ (b : Nat) (j : Int) (u : Tr), p = .pointer (some ⟨b, 0, none⟩) ∧ i' = .int .i64 j ∧ u.siz ≤ k ∧ Hid (Rep wr wr.heap.size (some ⟨b, 0, none⟩) u) ∧ 0 ≤ j ∧ j < u.len ∧ u.len ≤ 1099511627776 ∧ Hid (u.con[j.toNat]? = t.con[i.toNat]?) ∧ Hid (wr = w))
  case atStart => exact ⟨b, i, t, rfl, rfl, Nat.le_refl _, R, h0, h3.out, hn, rfl, rfl⟩
  case round =>
    obtain ⟨b, j, u, rfl, rfl, hk, R, j0, j1, hn, hc, hw⟩ := hrel
    match u, R, hk, j1, hn, hc with
    | .leaf s, R, hk, j1, hn, hc =>
      obtain ⟨b', hbb, _, N⟩ := R.out
      obtain rfl : b' = b := by simpa using hbb.symm
      have KL := Lib.hid (isleaf_yes b' _ _ _ _ _ wr N)
      obtain ⟨a0, a1, a2, a3, a4, a5⟩ := N
      have j2 : j < (s.size : Int) := j1
      go_wp2_with fail
      refine KL.out.mono ?_
      rintro e w' ⟨rfl, rfl⟩
      go_wp2_with fail
      go_ret
      have hx : s.data.toList[j.toNat]? = some s[j.toNat] := by
        rw [List.getElem?_eq_getElem (by simp; omega)]
        simp
        rfl
      refine ⟨s[j.toNat]'(by omega), ?_, ?_, hw⟩
      · rw [← hc.out]; exact hx
      · rfl
    | .node l r, R, hk, j1, hn, hc =>
      obtain ⟨b', pl, pr, hbb, hb, N, hl, hr⟩ := R.out
      obtain rfl : b' = b := by simpa using hbb.symm
      obtain ⟨bl, sl, ll, rl, rfl, hbl, NL⟩ := hl.root
      obtain ⟨br, _, _, _, rfl, _, _⟩ := hr.root
      have hx : (Tr.node l r).ht ≠ 0 := by simp [Tr.ht]
      have KL := Lib.hid (isleaf_no b' _ _ _ _ _ _ wr N (by omega))
      have HL := Lib.hid hl
      have HR := Lib.hid hr
      simp only [Tr.siz] at hk
      have hlen := Tr.len_node l r
      have n1 : (l.len : Int) ≤ 1099511627776 := by omega
      have n2 : (r.len : Int) ≤ 1099511627776 := by omega
      have n3 : (0 : Int) ≤ l.len := by omega
      have j3 : j < (l.len : Int) + r.len := by omega
      generalize ((Tr.node l r).ht : Int) = x1 at *
      generalize hnl : (l.len : Int) = n at *
      have HNL := Lib.hid hnl
      obtain ⟨a0, a1, a2, a3, a4, a5⟩ := N
      obtain ⟨d0, d1, d2, d3, d4, d5⟩ := NL
      clear R hl hr hx hbb hlen j1 hn hnl
      go_wp2_with fail
      refine KL.out.mono ?_
      rintro e w' ⟨rfl, rfl⟩
      by_cases hj : j < n
      · go_wp2_with fail
        go_roundg l.siz
        case measure => omega
        case rel => exact ⟨_, j, l, rfl, rfl, Nat.le_refl _, HL, j0, by rw [HNL.out]; exact hj, by have := HNL.out; omega, by rw [← hc.out]; simp only [Tr.con]; rw [List.getElem?_append_left (by have := HNL.out; simp only [Tr.len] at this; omega)]; rfl, hw⟩
      · go_wp2_with fail
        go_roundg r.siz
        case measure => omega
        case rel => exact ⟨_, j - n, r, rfl, rfl, Nat.le_refl _, HR, by omega, by have := HNL.out; omega, by omega, by rw [← hc.out]; simp only [Tr.con]; rw [List.getElem?_append_right (by have := HNL.out; simp only [Tr.len] at this; omega)]; (congr 1; have := HNL.out; simp only [Tr.len] at this; omega), hw⟩
end Go.Proofs.Ytkbodbbbgibgfaa
