/-
  validNode of the program by its contracts.
-/
import Derived.Test.YtbgahkicinkgfaaGreatGtIdx
namespace Go.Proofs.YtbgahkicinkgfaaGreat
open Go.RowKit

theorem inR_take {n : Nat} {c : List Int} {k : Nat} {z : Int} (h : InR n (c.take k)) (hz : c[k]? = some z) (hr : 0 ≤ z ∧ z < n) : InR n (c.take (k + 1)) := by
  rw [List.take_add_one, hz]
  intro y hy
  rcases List.mem_append.1 hy with hy | hy
  · exact h y hy
  · simp at hy
    subst hy
    exact hr

def nodeBox (k wd : Int) (t : ByteArray) (v : Value) : Obj := .cells #[.int .i64 k, .int .i64 wd, .string t, v] 78

theorem nodeBox_facts (w : World) (k wd : Int) (t : ByteArray) (v : Value) :
    (w.alloc (nodeBox k wd t v)).cell? ⟨w.heap.size, 0, none⟩ = some (.int .i64 k) ∧ (w.alloc (nodeBox k wd t v)).cell? ⟨w.heap.size, 1, none⟩ = some (.int .i64 wd) ∧
    (w.alloc (nodeBox k wd t v)).cell? ⟨w.heap.size, 2, none⟩ = some (.string t) ∧ (w.alloc (nodeBox k wd t v)).cell? ⟨w.heap.size, 3, none⟩ = some v := by
  refine ⟨?_, ?_, ?_, ?_⟩ <;> simp [nodeBox, go_sem]

set_option maxHeartbeats 2000000 in
theorem valid_yes (l : List N) (a : Option Addr) (cap : Nat) (i : Nat) (x : N) (w : World) (hx : l[i]? = some x) (hn : Nodes w (· < w.heap.size) a l)
    (h1 : InR i x.g.c) (h2 : wfN x.g.k x.g.t x.g.c.length = true) (h3 : x.g.w = wid (gs l) x.g.t x.g.c) :
    Calls Tryz.prog 38 #[.slice a l.length cap, .int .i64 i] w fun e w' => e = .returned (.bool true) ∧ Below w.heap.size w w' := by
  obtain ⟨⟨_, _, _, hc8, _⟩, b, o, rfl, _, q0, q1, q2, q3, qI⟩ := hn i x hx
  have hi : i < l.length := (List.getElem?_eq_some_iff.1 hx).1
  obtain ⟨⟨xk, xw, xt, xc⟩, xa, xcap⟩ := x
  simp only at h1 h2 h3 hc8 q0 q1 q2 q3 qI
  subst h3
  have hcl : xc.length ≤ maxLen := by unfold maxLen; omega
  have HI := Lib.hid qI
  have HR := Lib.hid h1
  have HK1 := Lib.hid (fun W (hB : Below w.heap.size w W) => (width_any l (some ⟨b, o, none⟩) cap xt xc xa xcap W hcl (h1.mono (by omega)) (hn.to hB) (qI.to hB)).mono fun _ _ h => And.intro h.1 h.2.symm)
  have HK2 := Lib.hid (fun W => (wfN_any xk xt xc.length W).mono fun _ _ h => And.intro h.1 h.2.symm)
  have hi0 : (0 : Int) ≤ (i : Int) := by omega
  have hi1 : (i : Int) < (l.length : Int) := by omega
  have hc0 : (xc.length : Int) ≤ 17592186043904 := by omega
  have HB : Hid (Below w.heap.size w (w.alloc (nodeBox xk (wid (gs l) xt xc) xt (.slice xa xc.length xcap)))) := (Below.refl _ _).alloc (Nat.le_refl _) _
  generalize wid (gs l) xt xc = v at *
  clear hx h1 qI hc8 hn hcl
  go_enter Tryz.func38, Tryz.ntmps38
  go_wp2_with fail
  go_loop [7, 15] (fun _ j => ∃ k : Nat, k ≤ xc.length ∧ j = .int .i64 k) (fun _ j => xc.length - (intOf j).toNat)
  case atStart => exact ⟨0, Nat.zero_le _, rfl⟩
  case round =>
    obtain ⟨k, hk, rfl⟩ := hrel
    by_cases hlt : k < xc.length
    · have hx : xc[k]? = some xc[k] := List.getElem?_eq_getElem hlt
      obtain ⟨z, hZ⟩ : ∃ y, y = xc[k] := ⟨_, rfl⟩
      rw [← hZ] at hx
      clear hZ
      obtain ⟨j, rfl, hj⟩ := inR_at HR.out hx
      obtain ⟨bb, oo, rfl, hbb, g0⟩ := HI.out k _ hx
      have g0' := (HB.out.cell (p := ⟨bb, oo + k, none⟩) hbb).trans g0
      have hk0 : (0 : Int) ≤ (k : Int) := by omega
      have hk1 : (k : Int) < (xc.length : Int) := by omega
      have hj0 : (0 : Int) ≤ (j : Int) := by omega
      have hj1 : (j : Int) < (i : Int) := by omega
      clear hx g0
      unfold nodeBox at g0'
      go_wp2_with fail
      go_round
      case rel => exact ⟨k + 1, by omega, by go_num⟩
      case measure => simp [intOf]; omega
    · go_wp2_with fail
      go_quiet (first | (go_at_call 40; exact Calls.quiet_of_same (HK2.out _)) | (go_at_call 41; exact Calls.quiet_of_same (HK1.out _ (below_drewN' HB.out _))))
      go_wp2_with fail
      go_ret
      exact ⟨rfl, below_drewN' HB.out _⟩

set_option maxHeartbeats 2000000 in
theorem valid_no (l : List N) (a : Option Addr) (cap : Nat) (i : Nat) (x : N) (w : World) (hx : l[i]? = some x) (hn : Nodes w (· < w.heap.size) a l)
    (hbad : ¬ (InR i x.g.c ∧ wfN x.g.k x.g.t x.g.c.length = true ∧ x.g.w = wid (gs l) x.g.t x.g.c)) :
    Calls Tryz.prog 38 #[.slice a l.length cap, .int .i64 i] w fun e w' => e = .returned (.bool false) ∧ Below w.heap.size w w' := by
  obtain ⟨⟨_, _, _, hc8, hci, _⟩, b, o, rfl, _, q0, q1, q2, q3, qI⟩ := hn i x hx
  have hi : i < l.length := (List.getElem?_eq_some_iff.1 hx).1
  obtain ⟨⟨xk, xw, xt, xc⟩, xa, xcap⟩ := x
  simp only at hbad hc8 hci q0 q1 q2 q3 qI
  have hcl : xc.length ≤ maxLen := by unfold maxLen; omega
  have HI := Lib.hid qI
  have HCI := Lib.hid hci
  have HB : Hid (Below w.heap.size w (w.alloc (nodeBox xk xw xt (.slice xa xc.length xcap)))) := (Below.refl _ _).alloc (Nat.le_refl _) _
  have HK2 := Lib.hid (fun W => (wfN_any xk xt xc.length W).mono fun _ _ h => And.intro h.1 h.2.symm)
  have hi0 : (0 : Int) ≤ (i : Int) := by omega
  have hi1 : (i : Int) < (l.length : Int) := by omega
  have hc0 : (xc.length : Int) ≤ 17592186043904 := by omega
  have HN := Lib.hid hn
  have HBAD := Lib.hid hbad
  clear hx qI hc8 hn hci hbad
  go_enter Tryz.func38, Tryz.ntmps38
  go_wp2_with fail
  go_loop [7, 15] (fun _ j => ∃ k : Nat, k ≤ xc.length ∧ j = .int .i64 k ∧ Hid (InR i (xc.take k))) (fun _ j => xc.length - (intOf j).toNat)
  case atStart => exact ⟨0, Nat.zero_le _, rfl, fun z hz => by simp at hz⟩
  case round =>
    obtain ⟨k, hk, rfl, hin⟩ := hrel
    by_cases hlt : k < xc.length
    · have hx : xc[k]? = some xc[k] := List.getElem?_eq_getElem hlt
      obtain ⟨z, hZ⟩ : ∃ y, y = xc[k] := ⟨_, rfl⟩
      rw [← hZ] at hx
      clear hZ
      have hz := HCI.out z (List.mem_of_getElem? hx)
      unfold I64 at hz
      obtain ⟨hz1, hz2⟩ := hz
      obtain ⟨bb, oo, rfl, hbb, g0⟩ := HI.out k _ hx
      have g0' := (HB.out.cell (p := ⟨bb, oo + k, none⟩) hbb).trans g0
      have hk0 : (0 : Int) ≤ (k : Int) := by omega
      have hk1 : (k : Int) < (xc.length : Int) := by omega
      have HX := Lib.hid hx
      clear hx g0
      unfold nodeBox at g0'
      by_cases hr : 0 ≤ z ∧ z < i
      · obtain ⟨hr1, hr2⟩ := hr
        have hnew : Hid (InR i (xc.take (k + 1))) := inR_take hin.out HX.out ⟨hr1, hr2⟩
        go_wp2_with fail
        go_round
        case rel => exact ⟨k + 1, by omega, by go_num, hnew⟩
        case measure => simp [intOf]; omega
      · by_cases hz0 : z < 0
        · go_wp2_with fail
          go_ret
          exact ⟨rfl, HB.out⟩
        · have hz3 : (i : Int) ≤ z := by omega
          clear hr
          go_wp2_with fail
          go_ret
          exact ⟨rfl, HB.out⟩
    · obtain rfl : k = xc.length := by omega
      have hall : InR i xc := by have := hin.out; rwa [List.take_length] at this
      by_cases hw : wfN xk xt xc.length = true
      · have hne : xw ≠ wid (gs l) xt xc := fun h => HBAD.out ⟨hall, hw, h⟩
        have HK1 := Lib.hid (fun W (hB : Below w.heap.size w W) => (width_any l (some ⟨b, o, none⟩) cap xt xc xa xcap W hcl (hall.mono (by omega)) (HN.out.to hB) (HI.out.to hB)).mono fun _ _ h => And.intro h.1 h.2.symm)
        have e : (xw == wid (gs l) xt xc) = false := by simp; omega
        clear hall hin hne
        generalize wid (gs l) xt xc = v at *
        go_wp2_with fail
        go_quiet (first | (go_at_call 40; exact Calls.quiet_of_same (HK2.out _)) | (go_at_call 41; exact Calls.quiet_of_same (HK1.out _ (below_drewN' HB.out _))))
        go_wp2_with fail
        go_ret
        exact ⟨rfl, below_drewN' HB.out _⟩
      · have hwf : wfN xk xt xc.length = false := Bool.eq_false_iff.2 hw
        have HK3 := Lib.hid (fun W => (wfN_any xk xt xc.length W).mono (R' := fun e w' => e = .returned (.bool false) ∧ w' = W) fun _ _ h => And.intro (by rw [h.1, hwf]) h.2.symm)
        clear hall hin hw hwf HK2
        go_wp2_with fail
        go_quiet ((go_at_call 40; exact Calls.quiet_of_same (HK3.out _)))
        go_wp2_with fail
        go_ret
        exact ⟨rfl, below_drewN' HB.out _⟩
end Go.Proofs.YtbgahkicinkgfaaGreat
