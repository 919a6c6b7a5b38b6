/-
  writeSource and Source: the source of a tree, by their contracts.
-/
import Derived.Test.YtbomilleckgalaaGreatRpLen2
import Derived.Test.YtbomilleckgalaaGreatTeBuf
import Derived.Carry
namespace Go.Proofs.YtbomilleckgalaaGreat.Ps
open Go.RowKit

theorem mem_get {m : List (Addr × Int)} {p : Addr × Int} (h : p ∈ m) : ∃ v, get m p.1 = some v := by
  induction m with
  | nil => simp at h
  | cons q r ih =>
    rw [get_cons]
    split
    · exact ⟨_, rfl⟩
    · rcases List.mem_cons.1 h with rfl | h
      · rename_i e; exact absurd rfl e
      · exact ih h
theorem PM.low {w w' : World} {b B : Nat} {m : List (Addr × Int)} (h : PM w b m) (hb : b < B) (hk : ∀ q v, get m q = some v → q.block < B) (hB : Below B w w') : PM w' b m := by
  obtain ⟨es, clock, h0, h1, h2⟩ := h
  refine ⟨es, clock, (hB.block b hb).trans h0, h1, fun p hp => ?_⟩
  obtain ⟨v, hv⟩ := mem_get hp
  exact (h2 p hp).of_block (hB.block _ (hk _ _ hv))

set_option maxRecDepth 100000 in
set_option maxHeartbeats 4000000 in
theorem wsrc_any (w0 : World) (mb bb B : Nat) (m : List (Addr × Int)) (hB0 : w0.heap.size ≤ B) (hmb : mb < B) (hkeys : ∀ q v, get m q = some v → q.block < B) : ∀ (n : Nat) (x : Tree) (p : Addr) (acc : List UInt8) (w : World), TreeAt w0 n p x → Full w0 m p x → (∀ j, Pl w0 j → w.heap[j]? = w0.heap[j]?) → PM w mb m →
    B ≤ w.heap.size → Hid (Lib.IsBuilder 76 5 B bb (Lib.byteCells acc) w) → acc.length + len x ≤ 4000000 →
    Calls Tryz.prog 38 #[.pointer (some ⟨bb, 0, none⟩), .pointer (some p), .map (some mb)] w fun e w' => e = .returned (.tuple #[]) ∧ Hid (Lib.IsBuilder 76 5 B bb (Lib.byteCells (acc ++ srcT x)) w') ∧ Below B w w' := by
  intro n
  induction n using Nat.strongRecOn with
  | ind n ih =>
  intro x p acc w ht hf hs hm hBw hbd hl
  have HS := Lib.hid hs
  have HM := Lib.hid hm
  have HT0 := Lib.hid ht
  have htw := ht.kept hs
  have HTW := Lib.hid htw
  have HMore : Hid (∀ W, Below B w W → (∀ j, Pl w0 j → W.heap[j]? = w0.heap[j]?) ∧ PM W mb m) := fun W hW => ⟨fun j hj => (hW.block j (by have := hj.lt; omega)).trans (HS.out j hj), HM.out.low hmb hkeys hW⟩
  obtain ⟨hok, b, o, sa, cap, rfl, hpl, _, _, h2, hkids⟩ := htw
  have hlen : x.c.length ≤ maxLen := hok.2.2
  unfold maxLen at hlen
  have hlook := hm.look1 (a := ⟨b, o, none⟩) hpl
  rw [hf.get] at hlook
  simp only [Option.getD_some] at hlook
  cases hf with
  | mk ht2 hl2 hg hkk =>
  have HKK := Lib.hid hkk
  clear hkk ht2 hg hs hm
  by_cases h0 : len x = 0
  · have hsrc : Hid (srcT x = []) := List.eq_nil_of_length_eq_zero h0
    rw [h0] at hlook
    have hlook' : (Instr.lookup 70 (.map (some mb)) (.pointer (some ⟨b, o, none⟩)) false).run Tryz.prog w = .ok (.int .i64 0) w := hlook
    clear hlook hl hl2 h0 hkids ht h2
    go_enter Tryz.func38, Tryz.ntmps38
    go_wp2_with fail
    first | go_end0 | refine bodyPost_ret (results_none rfl _ _ _) rfl ?_
    exact ⟨rfl, by rw [hsrc.out, List.append_nil]; exact hbd, Below.refl _ _⟩
  · have hpos : (0 : Int) < (len x : Int) := by omega
    have hll := hl
    rw [len_eq] at hll
    have HC0 : Hid (w0.cell? ⟨b, o + 2, none⟩ = some (.slice sa x.c.length cap)) := by
      obtain ⟨_, b', o', sa', cap', e, hp0, _, _, hc, _⟩ := ht
      cases e
      exact (World.cell?_of_block (HS.out b hp0)).symm.trans h2
    have HK0 : Hid (Kids w0 (Pl w0) n sa x.c) := by
      obtain ⟨_, b', o', sa', cap', e, hp0, _, _, hc, hk0⟩ := ht
      cases e
      have := Option.some.inj (hc.symm.trans HC0.out)
      rw [(Value.slice.inj this).1] at hk0
      exact hk0
    have HSRC : Hid (srcT x = (if x.k < 100 then (⟨#[]⟩ : ByteArray) else x.t).data.toList ++ srcs x.c) := by
      show _ = _
      rw [srcT_eq]
      split <;> rfl
    have hplB : b < B := by
      obtain ⟨_, b', o', sa', cap', e, hp0, _⟩ := ht
      cases e
      have := hp0.lt
      omega
    clear ht hkids hl hl2 h0
    go_enter Tryz.func38, Tryz.ntmps38
    go_wp2_with fail
    refine (text_any _ x n w HTW.out).mono ?_
    rintro e w2 ⟨rfl, rfl⟩
    obtain ⟨t0, hT0⟩ : ∃ t0 : ByteArray, t0 = (if x.k < 100 then ⟨#[]⟩ else x.t) := ⟨_, rfl⟩
    have hsz : t0.size = (if x.k < 100 then 0 else x.t.size) := by rw [hT0]; split <;> rfl
    rw [← hT0] at HSRC ⊢
    rw [← hsz] at hll
    clear hT0 hsz
    generalize hcc : x.c = c at *
    go_wp2_with fail
    refine (Te.write_bytes B bb acc t0 w2 hbd (by omega) hBw).mono ?_
    rintro e w3 ⟨rfl, hbd3, hb3, _⟩
    have hB3 : B ≤ w3.heap.size := Nat.le_trans hBw hb3.size
    have h23 : w3.cell? ⟨b, o + 2, none⟩ = some (.slice sa c.length cap) := (hb3.cell (p := ⟨b, o + 2, none⟩) hplB).trans h2
    clear hlook h2
    go_wp2_with fail
    go_loopw [20] (fun i wr => ∃ k : Nat, k ≤ c.length ∧ i = .int .i64 k ∧ Hid (Lib.IsBuilder 76 5 B bb (Lib.byteCells (acc ++ t0.data.toList ++ srcs (c.take k))) wr) ∧ Below B w2 wr)
      (fun i _ => c.length - (intOf i).toNat)
    case atStart => exact ⟨0, Nat.zero_le _, rfl, by simpa [srcs] using hbd3, hb3⟩
    case round =>
      obtain ⟨k, hk, rfl, hbk, hbw⟩ := hrel
      have h2r : wr.cell? ⟨b, o + 2, none⟩ = some (.slice sa c.length cap) := by
        have h2 : w2.cell? ⟨b, o + 2, none⟩ = some (.slice sa c.length cap) := (hb3.cell (p := ⟨b, o + 2, none⟩) hplB).symm.trans h23
        exact (hbw.cell (p := ⟨b, o + 2, none⟩) hplB).trans h2
      have HW := Lib.hid (HMore.out wr hbw)
      have hBr : B ≤ wr.heap.size := Nat.le_trans hBw hbw.size
      by_cases hlt : k < c.length
      · have hx : c[k]? = some c[k] := List.getElem?_eq_getElem hlt
        obtain ⟨y, hY⟩ : ∃ y, y = c[k] := ⟨_, rfl⟩
        rw [← hY] at hx
        clear hY
        obtain ⟨_, _, b', o', _, _, _, rfl, _⟩ := Kids.at HK0.out hx
        obtain ⟨m', hm', ht'⟩ := Kids.tree HK0.out hx
        have HT' := Lib.hid ht'
        have HF' := Lib.hid (HKK.out k y b' o' cap hx HC0.out)
        have hst := srcs_take hx
        have hle := srcs_take_le c (k + 1)
        have HST : Hid (srcs (c.take (k + 1)) = srcs (c.take k) ++ srcT y) := by show _ = _; rw [List.take_add_one, hx, srcs_append]; simp [srcs]
        have hroom : (acc ++ t0.data.toList ++ srcs (c.take k)).length + len y ≤ 4000000 := by
          have : t0.data.toList.length = t0.size := by simp
          simp only [List.length_append, this]
          omega
        clear hx ht' hst hle
        have hk0 : (0 : Int) ≤ (k : Int) := by omega
        have hk1 : (k : Int) < (c.length : Int) := by omega
        go_wp2_with (go_at_call 38; refine (ih m' hm' y _ (acc ++ t0.data.toList ++ srcs (c.take k)) wr HT'.out HF'.out HW.out.1 HW.out.2 hBr hbk hroom).mono ?_; rintro e w4 ⟨rfl, hb4, hbl4⟩)
        case roundEnd =>
          refine ⟨⟨k + 1, by omega, by go_num, ?_, hbw.trans hbl4⟩, by simp [intOf]; omega⟩
          rw [HST.out]
          rw [List.append_assoc] at hb4
          exact hb4
      · have hkl : k = c.length := by omega
        have hfin : Hid (acc ++ t0.data.toList ++ srcs (c.take k) = acc ++ srcT x) := by
          show _ = _
          rw [hkl, List.take_length, HSRC.out, List.append_assoc]
        rw [hfin.out] at hbk
        go_wp2_with fail
        first | go_end0 | refine bodyPost_ret (results_none rfl _ _ _) rfl ?_
        exact ⟨rfl, hbk, hbw⟩

set_option maxRecDepth 100000 in
set_option maxHeartbeats 4000000 in
theorem source_any (x : Tree) (sa : Option Addr) (cap n : Nat) (w : World) (hok : x.ok) (hk : Kids w (Pl w) n sa x.c) (hl : len x ≤ 1000000) :
    Calls Tryz.prog 20 #[tv x sa cap] w fun e w' => e = .returned (.string (Lx.bs (srcT x))) ∧ Below w.heap.size w w' := by
  obtain ⟨w2, hw2⟩ : ∃ w2, w2 = (w.alloc (.cells #[.int .i64 x.k, .string x.t, .slice sa x.c.length cap] 40)).alloc (.map #[] 0) := ⟨_, rfl⟩
  have HB2 : Hid (Below w.heap.size w w2) := by rw [hw2]; exact ((Below.refl _ _).alloc (Nat.le_refl _) _).alloc (by simp) _
  have hsz2 : w2.heap.size = w.heap.size + 2 := by rw [hw2]; simp
  have hm2 : PM w2 (w.heap.size + 1) [] := by rw [hw2]; have := PM.made (w.alloc (.cells #[.int .i64 x.k, .string x.t, .slice sa x.c.length cap] 40)); simpa using this
  have hbox : w2.heap[w.heap.size]? = some (.cells #[.int .i64 x.k, .string x.t, .slice sa x.c.length cap] 40 (0, 0)) := by rw [hw2]; exact alloc_keeps _ (heap_alloc_new w _)
  obtain ⟨c0, c1, c2, _⟩ := three_facts hbox
  have ht2 : TreeAt w2 n ⟨w.heap.size, 0, none⟩ x := by
    refine ⟨hok, w.heap.size, 0, sa, cap, rfl, ⟨_, _, hbox⟩, c0, c1, c2, ?_⟩
    exact (hk.kept (kept_of_below HB2.out fun j hj => hj.lt)).up (fun j hj => hj.below HB2.out) (Nat.le_refl _)
  have HT2 := Lib.hid ht2
  have HL := Lib.hid (len_any w2 (w.heap.size + 1) n x ⟨w.heap.size, 0, none⟩ [] w2 ht2 (fun _ _ => rfl) hm2 (fun p n x v _ _ h => by cases h) (by omega))
  clear hk ht2 hm2 hok hbox c0 c1 c2
  have hmm := @run_makeMap Tryz.prog
  show Calls Tryz.prog 20 #[.agg #[.int .i64 x.k, .string x.t, .slice sa x.c.length cap]] w _
  go_enter Tryz.func20, Tryz.ntmps20
  go_wp2_with fail
  rw [← hw2]
  refine HL.out.mono ?_
  rintro e w3 ⟨rfl, m', hp3, hg3, hf3, hb3⟩
  have hs3 := hb3.size
  have HB3 : Hid (Below w.heap.size w w3) := ⟨hb3.os.trans HB2.out.os, hb3.tape.trans HB2.out.tape, hb3.output.trans HB2.out.output, Nat.le_trans HB2.out.size hs3, fun j hj => by
    rw [hb3.block j (by omega) (fun e => by have := Option.some.inj e; omega)]; exact HB2.out.block j hj⟩
  obtain ⟨N, hN⟩ : ∃ N, N = len x := ⟨_, rfl⟩
  rw [← hN]
  rw [← hN] at hl
  obtain ⟨v, hv⟩ : ∃ v : Int, v = (N : Int) := ⟨_, rfl⟩
  rw [← hv]
  have hne : ¬ (v = 2147483647) := by omega
  have HN := Lib.hid hN
  clear hN
  have HKEYS : Hid (∀ q v, get m' q = some v → q.block < w3.heap.size) := fun q v hq => by
    rcases hg3.2 q v hq with h1 | ⟨y, h1⟩
    · cases h1
    · obtain ⟨n', _, b', o', _, _, e, hp, _⟩ := h1.at
      rw [e]
      have := hp.lt
      show b' < _
      omega
  have HF3 := Lib.hid hf3
  have HP3 := Lib.hid hp3
  have HS3 : Hid (∀ j, Pl w2 j → w3.heap[j]? = w2.heap[j]?) := fun j hj => hb3.block j hj.lt (fun e => by
    have hj' : Pl w3 j ∨ True := Or.inr trivial
    obtain ⟨es, clock, hmap, _⟩ := hp3
    have := Option.some.inj e
    subst this
    obtain ⟨c, t, hc⟩ := hj
    rw [hw2] at hc
    have hnew := heap_alloc_new (w.alloc (.cells #[.int .i64 x.k, .string x.t, .slice sa x.c.length cap] 40)) (.map #[] 0)
    rw [show (w.alloc (.cells #[.int .i64 x.k, .string x.t, .slice sa x.c.length cap] 40)).heap.size = w.heap.size + 1 from by simp] at hnew
    rw [hnew] at hc
    cases hc)
  clear hg3 hf3 hp3 hb3 HL hmm hw2
  have HV := Lib.hid hv
  clear hv
  go_wp2_with fail
  rw [HV.out]
  have hg4 := heap_alloc_new w3 (.cells #[.pointer none, .slice none 0 0] 76)
  have hn4 : N ≤ 281474976710656 := by omega
  have HGR := Tryz.Builder_Grow_fresh w3.heap.size w3.heap.size N _ (Nat.le_refl _) hg4 (by simp) hn4
  refine HGR.mono ?_
  rintro e w5 ⟨rfl, hba, hb5⟩
  have hb35 : Hid (Below w3.heap.size w3 w5) := ((Below.refl _ _).alloc (Nat.le_refl _) _).trans hb5
  have HBD : Hid (Lib.IsBuilder 76 5 w3.heap.size w3.heap.size (Lib.byteCells []) w5) := Or.inr hba
  have hs5 := hb35.out.size
  have HP5 : Hid (PM w5 (w.heap.size + 1) m') := HP3.out.low (by omega) HKEYS.out hb35.out
  have HS5 : Hid (∀ j, Pl w2 j → w5.heap[j]? = w2.heap[j]?) := fun j hj => (hb35.out.block j (by have := hj.lt; omega)).trans (HS3.out j hj)
  clear hg4 hba hb5
  go_wp2_with fail
  refine (wsrc_any w2 (w.heap.size + 1) w3.heap.size w3.heap.size m' hs3 (by omega) HKEYS.out n x ⟨w.heap.size, 0, none⟩ [] w5 HT2.out HF3.out HS5.out HP5.out hs5 HBD (by have := HN.out; simp; omega)).mono ?_
  rintro e w6 ⟨rfl, hb6, hbl6⟩
  rw [List.nil_append] at hb6
  have hs6 := hbl6.size
  go_wp2_with fail
  refine (Tryz.Builder_String_any w3.heap.size w3.heap.size (srcT x) w6 hb6.out (by omega)).mono ?_
  rintro e w7 ⟨rfl, hb7⟩
  go_wp2_with fail
  go_ret
  refine ⟨rfl, (HB3.out.trans ((hb35.out.trans hbl6).mono (by omega))).trans (hb7.mono (by omega))⟩
end Go.Proofs.YtbomilleckgalaaGreat.Ps
