/-
  contentOf: what distinguishes a node, as the key of the map.
-/
import Derived.Test.YtbgahkicinkgfaaGreatGtWidth
import Derived.Laws.IdiomStrings
namespace Go.Proofs.YtbgahkicinkgfaaGreat
open Go.RowKit

/-- Each index in two bytes. -/
def enc (c : List Int) : List UInt8 := c.flatMap fun z => [UInt8.ofNat (z.toNat / 256), UInt8.ofNat (z.toNat % 256)]
def encB (c : List Int) : ByteArray := ⟨(enc c).toArray⟩
def bCells (l : List UInt8) : List Value := l.map fun u => .int .u8 u.toNat

theorem enc_len (c : List Int) : (enc c).length = 2 * c.length := by
  induction c with
  | nil => rfl
  | cons x r ih => simp only [enc, List.flatMap_cons, List.length_append, List.length_cons] at ih ⊢; rw [ih]; simp; omega

theorem enc_take {c : List Int} {k j : Nat} (h : c[k]? = some (j : Int)) : bCells (enc (c.take (k + 1))) = bCells (enc (c.take k)) ++ [.int .u8 (UInt8.ofNat (j / 256)).toNat, .int .u8 (UInt8.ofNat (j % 256)).toNat] := by
  rw [List.take_add_one, h]
  simp [enc, bCells]

theorem enc_inj : ∀ {c d : List Int}, InR 60000 c → InR 60000 d → enc c = enc d → c = d
  | [], [], _, _, _ => rfl
  | [], y :: s, _, _, h => by simp [enc] at h
  | x :: r, [], _, _, h => by simp [enc] at h
  | x :: r, y :: s, hc, hd, h => by
    have hx := hc x (by simp)
    have hy := hd y (by simp)
    simp only [enc, List.flatMap_cons, List.cons_append, List.nil_append, List.cons.injEq] at h
    obtain ⟨h1, h2, h3⟩ := h
    have g1 := congrArg UInt8.toNat h1
    have g2 := congrArg UInt8.toNat h2
    simp at g1 g2
    have e : x = y := by omega
    rw [e, enc_inj (fun z hz => hc z (by simp [hz])) (fun z hz => hd z (by simp [hz])) h3]

theorem bCells_at {l : List UInt8} {i : Nat} (h : i < l.length) : (bCells l)[i]? = some (.int .u8 (l[i].toNat : Int)) := by
  simp [bCells, List.getElem?_eq_getElem h]

set_option maxRecDepth 100000 in
set_option maxHeartbeats 1000000 in
theorem content_any (k : Int) (t : ByteArray) (c : List Int) (b : Option Addr) (cc : Nat) (w : World) (hcl : c.length * 8 ≤ 140737488351232) (hr : InR 60000 c) (hi : Ints w (· < w.heap.size) b c) :
    Calls Tryz.prog 39 #[.int .i64 k, .string t, .slice b c.length cc] w fun e w' => e = .returned (.agg #[.int .i64 k, .string t, .string (encB c)]) ∧ Below w.heap.size w w' := by
  have H2 := Lib.hid hi
  have HR := Lib.hid hr
  clear hi hr
  obtain ⟨i0, hi, hz0, hz1, hz2⟩ := info_parts info_byte
  have HL := Lib.hid hcl
  have hc0 : (c.length : Int) ≤ 17592186043904 := by omega
  have hcn : c.length ≤ 17592186043904 := by omega
  clear hcl
  go_enter Tryz.func39, Tryz.ntmps39
  go_wp2_with (first | (refine wpList_make_own _ rfl _ _ 93 rfl (w.heap.size + 1) 5 i0 (.int .u8 0) 1 Tryz.underlying93 hi hz0 hz1 .i64 .i64 _ (2 * c.length) rfl rfl (by push_cast; rfl) (by rw [hz2]; omega) (by unfold maxLen; omega) (by simp) ?_; intro w1 hown1 hgrow1))
  have hb1 : Below w.heap.size w w1 := ((Below.refl _ _).alloc (Nat.le_refl _) _).grown hgrow1 (by simp) (fun j hj => by cases hj)
  have HO : Hid (w1.ownsRow (w.heap.size + 1) 5 1 (.slice (some ⟨w.heap.size + 1, 0, none⟩) 0 (2 * c.length)) 0 []) := by
    have h := hown1
    simp at h
    exact Lib.hid h
  have HC6 : Hid (w1.heap[w.heap.size]? = some (.cells #[.int .i64 0, .string ⟨#[]⟩, .string ⟨#[]⟩] 81 (0, 0))) := by
    show _ = _
    rw [hgrow1.block w.heap.size (by simp) (by simp)]
    exact heap_alloc_new w _
  have hz1' : w.heap.size + 1 ≤ w1.heap.size := (Array.getElem?_eq_some_iff.1 HC6.out).1
  clear hown1 hgrow1
  go_loopw [7, 16] (fun v i wr => ∃ q : Nat, q ≤ c.length ∧ i = .int .i64 q ∧ v = .slice (some ⟨w.heap.size + 1, 0, none⟩) (2 * q) (2 * c.length) ∧
      Hid (wr.ownsRow (w.heap.size + 1) 5 1 (.slice (some ⟨w.heap.size + 1, 0, none⟩) (2 * q) (2 * c.length)) (2 * q) (bCells (enc (c.take q)))) ∧ Below (w.heap.size + 1) w1 wr)
    (fun _ i _ => c.length - (intOf i).toNat)
  case atStart => exact ⟨0, Nat.zero_le _, rfl, rfl, HO, Below.refl _ _⟩
  case round =>
    obtain ⟨q, hq, rfl, rfl, ho, hb⟩ := hrel
    have hzw := hb.size
    have hbw : Hid (Below w.heap.size w wr) := hb1.trans (hb.mono (by omega))
    by_cases hlt : q < c.length
    · have hx : c[q]? = some c[q] := List.getElem?_eq_getElem hlt
      obtain ⟨z, hZ⟩ : ∃ x, x = c[q] := ⟨_, rfl⟩
      rw [← hZ] at hx
      clear hZ
      obtain ⟨j, rfl, hj⟩ := inR_at HR.out hx
      have HE := Lib.hid (enc_take hx)
      obtain ⟨bb, oo, rfl, _, h0⟩ := (H2.out.to hbw.out) q _ hx
      have hk0 : (0 : Int) ≤ (q : Int) := by omega
      have hk1 : (q : Int) < (c.length : Int) := by omega
      clear hx
      obtain ⟨p, hp⟩ : ∃ p, p = (UInt8.ofNat (j / 256)).toNat := ⟨_, rfl⟩
      obtain ⟨r, hr⟩ : ∃ r, r = (UInt8.ofNat (j % 256)).toNat := ⟨_, rfl⟩
      have hp2 : p = j / 256 := by rw [hp]; simp; omega
      have hr2 : r = j % 256 := by rw [hr]; simp
      rw [← hp, ← hr] at HE
      clear hp hr
      have hsh : Op.shift .shr .i64 (j : Int) .u64 8 = pure (.int .i64 (p : Int)) := by
        rw [shift_shr .i64 .u64 (j : Int) 8 (by omega) (by decide)]
        congr 2
        show (j : Int) / 2 ^ 8 = p
        omega
      have hc1 : IntKind.u8.wrap (p : Int) = (p : Int) := by simp [IntKind.wrap, IntKind.bits, IntKind.signed]; omega
      have hc2 : IntKind.u8.wrap (j : Int) = (r : Int) := by simp [IntKind.wrap, IntKind.bits, IntKind.signed]; omega
      clear hp2 hr2 hj
      go_wp2_with (at_builtin; refine wpList_append_fits _ rfl _ _ 93 rfl (w.heap.size + 1) 5 i0 1 Tryz.underlying93 hi hz1 (w.heap.size + 1) (2 * q) (2 * c.length) _ rfl (ho.out.alloc _) ⟨wr.heap.size, 0, none⟩ 2 2 [.int .u8 p, .int .u8 r] rfl rfl (World.news_of_block (cs := #[.int .u8 p, .int .u8 r]) (t := 5) (fr := (0, 0)) (heap_alloc_new wr _)) (by simp [Value.oneCell']) (by omega) ?_; intro w2 hown2 hgrow2)
      have hown3 : Hid (w2.ownsRow (w.heap.size + 1) 5 1 (.slice (some ⟨w.heap.size + 1, 0, none⟩) (2 * (q + 1)) (2 * c.length)) (2 * (q + 1)) (bCells (enc (c.take (q + 1))))) := by
        show World.ownsRow _ _ _ _ _ _ _
        rw [HE.out]
        exact hown2
      have hb2 : Below (w.heap.size + 1) w1 w2 := (hb.alloc (by omega) _).grown hgrow2 (by simp; omega) (fun j hj => by cases hj; exact Nat.le_refl _)
      clear hown2 hgrow2
      go_wp2_with fail
      go_roundw
      case rel => exact ⟨q + 1, by omega, by go_num, rfl, hown3, hb2⟩
      case measure => simp [intOf]; omega
    · obtain rfl : q = c.length := by omega
      have hconv : (convert 93 9 (.slice (some ⟨w.heap.size + 1, 0, none⟩) (2 * c.length) (2 * c.length))).run Tryz.prog wr = .ok (.string (encB c)) wr := by
        have h := ho.out
        rw [List.take_length] at h
        have hc := h.cells (g := w.heap.size + 1) rfl
        have := run_convert_bytes_back (P := Tryz.prog) wr 93 9 5 ⟨w.heap.size + 1, 0, none⟩ (2 * c.length) (enc c) Tryz.underlying93 Tryz.underlying5 Tryz.underlying9 (fun j hj => hc j _ (bCells_at hj))
        rw [enc_len] at this
        exact this
      have hG : wr.heap[w.heap.size]? = some (.cells #[.int .i64 0, .string ⟨#[]⟩, .string ⟨#[]⟩] 81 (0, 0)) := keeps_below hb (by omega) HC6.out
      obtain ⟨f0, f1, f2, f3, f4, f5⟩ := three_facts hG
      have hS := Lib.hid (fun u0 u1 u2 => three_facts (set_three (u0 := u0) (u1 := u1) (u2 := u2) hG))
      have hB3 : Hid (∀ u0 u1 u2, Below w.heap.size w (((wr.setCell ⟨w.heap.size, 0, none⟩ u0).setCell ⟨w.heap.size, 1, none⟩ u1).setCell ⟨w.heap.size, 2, none⟩ u2)) := fun u0 u1 u2 =>
        ((hbw.out.setCell (p := ⟨w.heap.size, 0, none⟩) (Nat.le_refl _) u0).setCell (p := ⟨w.heap.size, 1, none⟩) (Nat.le_refl _) u1).setCell (p := ⟨w.heap.size, 2, none⟩) (Nat.le_refl _) u2
      clear hG ho
      go_wp2_with fail
      obtain ⟨z0, z1, z2, _, _, _⟩ := hS.out (.int .i64 k) (.string t) (.string (encB c))
      refine bodyPost_ret (by simp [results, Tryz.results39, go_sem, z0, z1, z2]; try rfl) rfl ?_
      exact ⟨rfl, hB3.out _ _ _⟩
end Go.Proofs.YtbgahkicinkgfaaGreat
