/-
  lengthOf: how long the source of a tree is, with a map of what is known; its contract.
-/
import Derived.Test.YtbomilleckgalaaGreatRpLen
namespace Go.Proofs.YtbomilleckgalaaGreat.Ps
open Go.RowKit

/-- What lengthOf leaves. -/
def LenPost (w0 : World) (mb : Nat) (m : List (Addr × Int)) (p : Addr) (x : Tree) (w : World) (e : Ending) (w' : World) : Prop :=
  e = .returned (.int .i64 (len x : Int)) ∧ ∃ m', PM w' mb m' ∧ Grew w0 m m' ∧ Full w0 m' p x ∧ w.grownBy w' (some mb)

theorem same_grown {w0 w w' : World} {mb : Nat} {m : List (Addr × Int)} (hs : ∀ j, Pl w0 j → w.heap[j]? = w0.heap[j]?) (hm : PM w mb m) (hg : w.grownBy w' (some mb)) : ∀ j, Pl w0 j → w'.heap[j]? = w0.heap[j]? := fun j hj => by
  have h1 : Pl w j := hj.of_block (hs j hj)
  rw [hg.block j h1.lt (fun e => hm.ne h1 (Option.some.inj e)), hs j hj]

set_option maxRecDepth 100000 in
set_option maxHeartbeats 4000000 in
theorem len_any (w0 : World) (mb : Nat) : ∀ (n : Nat) (x : Tree) (p : Addr) (m : List (Addr × Int)) (w : World), TreeAt w0 n p x → (∀ j, Pl w0 j → w.heap[j]? = w0.heap[j]?) → PM w mb m → Know w0 x.height m → len x ≤ 2000000 →
    Calls Tryz.prog 36 #[.pointer (some p), .map (some mb)] w (LenPost w0 mb m p x w) := by
  intro n
  induction n using Nat.strongRecOn with
  | ind n ih =>
  intro x p m w ht hs hm hk hl
  have HT0 := Lib.hid ht
  have HS := Lib.hid hs
  have HM := Lib.hid hm
  have HK := Lib.hid hk
  have HL := Lib.hid hl
  have htw := ht.kept hs
  have HTW := Lib.hid htw
  obtain ⟨hok, b, o, sa, cap, rfl, hpl, _, _, h2, hkids⟩ := htw
  have HPL := Lib.hid hpl
  cases hg : Ps.get m ⟨b, o, none⟩ with
  | some v =>
    have hf := hk _ _ _ _ ht (Nat.le_refl _) hg
    have hv : v = (len x : Int) := by have := hf.get; rw [hg] at this; exact Option.some.inj this
    have hlook := hm.look (a := ⟨b, o, none⟩) hpl
    rw [hg] at hlook
    simp only [Option.getD_some, Option.isSome_some] at hlook
    have HF := Lib.hid hf
    rw [hv] at hlook
    clear hs hm hk hf hkids hv hg ht hpl h2
    go_enter Tryz.func36, Tryz.ntmps36
    go_wp2_with fail
    go_ret
    exact ⟨rfl, m, HM.out, Grew.refl _ _, HF.out, ⟨rfl, rfl, rfl, Nat.le_refl _, fun _ _ _ => rfl⟩⟩
  | none =>
    have hlook := hm.look (a := ⟨b, o, none⟩) hpl
    rw [hg] at hlook
    simp only [Option.getD_none, Option.isSome_none] at hlook
    obtain ⟨w1, hst, hm1, htn⟩ := hm.store (a := ⟨b, o, none⟩) hpl 2147483647
    have hgr1 := htn.grown
    have HM1 := Lib.hid hm1
    have HG1 := Lib.hid hgr1
    have HB := Lib.hid (Know.begun ht hk hg)
    have HN := Lib.hid hg
    have HS1 : Hid (∀ j, Pl w0 j → w1.heap[j]? = w0.heap[j]?) := same_grown hs hm hgr1
    have HT1 := Lib.hid (ht.kept HS1.out)
    have h21 : w1.cell? ⟨b, o + 2, none⟩ = some (.slice sa x.c.length cap) := (World.cell?_of_block (hgr1.block b hpl.lt (fun e => hm.ne hpl (Option.some.inj e)))).trans h2
    have HC0 : Hid (w0.cell? ⟨b, o + 2, none⟩ = some (.slice sa x.c.length cap)) := by
      obtain ⟨_, b', o', sa', cap', e, hp0, _, _, hc, _⟩ := ht
      cases e
      exact (World.cell?_of_block (HS.out b hp0)).symm.trans h2
    have hlx := HL.out
    rw [len_eq] at hlx
    have HLE : Hid (len x = (if x.k < 100 then 0 else x.t.size) + (srcs x.c).length) := len_eq x
    have HK0 : Hid (Kids w0 (Pl w0) n sa x.c) := by
      obtain ⟨_, b', o', sa', cap', e, hp0, _, _, hc, hk0⟩ := ht
      cases e
      have := Option.some.inj (hc.symm.trans HC0.out)
      rw [(Value.slice.inj this).1] at hk0
      exact hk0
    have HP0 : Hid (Pl w0 b) := by
      obtain ⟨_, b', o', sa', cap', e, hp0, _⟩ := ht
      cases e
      exact hp0
    have hlen : x.c.length ≤ maxLen := hok.2.2
    unfold maxLen at hlen
    clear hs hm hk hg htn hgr1 hm1 ht h2
    go_enter Tryz.func36, Tryz.ntmps36
    go_wp2_with fail
    refine (text_any _ x n w1 HT1.out).mono ?_
    rintro e w2 ⟨rfl, rfl⟩
    obtain ⟨t0, hT0⟩ : ∃ t0 : ByteArray, t0 = (if x.k < 100 then ⟨#[]⟩ else x.t) := ⟨_, rfl⟩
    have hsz : t0.size = (if x.k < 100 then 0 else x.t.size) := by rw [hT0]; split <;> rfl
    rw [← hT0]
    rw [← hsz] at hlx HLE
    clear hT0 hsz
    have hmin : min (2147483647 : Int) (t0.size : Int) = t0.size := by omega
    generalize hcc : x.c = c at *
    go_wp2_with fail
    go_loopw [7, 28] (fun s i wr => ∃ (k : Nat) (mk : List (Addr × Int)), k ≤ c.length ∧ i = .int .i64 k ∧ s = .int .i64 ((t0.size : Int) + ((srcs (c.take k)).length : Nat)) ∧ Hid (PM wr mb mk) ∧ Hid (Grew w0 (put ⟨b, o, none⟩ 2147483647 m) mk) ∧ Hid (w2.grownBy wr (some mb)) ∧
        Hid (∀ i y b' o', i < k → c[i]? = some y → sa = some ⟨b', o', none⟩ → Full w0 mk ⟨b', o' + i * 3, none⟩ y))
      (fun _ i _ => c.length - (intOf i).toNat)
    case atStart => exact ⟨0, _, Nat.zero_le _, rfl, by simp [srcs], HM1, Grew.refl _ _, ⟨rfl, rfl, rfl, Nat.le_refl _, fun _ _ _ => rfl⟩, fun i y b' o' hi => absurd hi (by omega)⟩
    case round =>
      obtain ⟨k, mk, hk, rfl, rfl, hPM, hGR, hGB, hFU⟩ := hrel
      have h2r : wr.cell? ⟨b, o + 2, none⟩ = some (.slice sa c.length cap) := by
        have hp2 : Pl w2 b := HP0.out.of_block (HS1.out b HP0.out)
        exact (World.cell?_of_block (hGB.out.block b hp2.lt (fun e => HM1.out.ne hp2 (Option.some.inj e)))).trans h21
      have HSR : Hid (∀ j, Pl w0 j → wr.heap[j]? = w0.heap[j]?) := same_grown HS1.out HM1.out hGB.out
      by_cases hlt : k < c.length
      · have hx : c[k]? = some c[k] := List.getElem?_eq_getElem hlt
        obtain ⟨y, hY⟩ : ∃ y, y = c[k] := ⟨_, rfl⟩
        rw [← hY] at hx
        clear hY
        obtain ⟨_, _, b', o', _, _, _, rfl, _⟩ := Kids.at HK0.out hx
        obtain ⟨m', hm', ht'⟩ := Kids.tree HK0.out hx
        have HT' := Lib.hid ht'
        have hly := len_le hx
        have hst1 := Lib.hid (srcs_take hx)
        have hle := srcs_take_le c (k + 1)
        have HX := Lib.hid hx
        have hh := height_le_of hx
        have hhx := height_eq x
        rw [hcc] at hhx
        have HKN : Hid (Know w0 y.height mk) := (HB.out.grew hGR.out).less (by omega)
        have hst1' := hst1.out
        clear hx ht' hh hhx
        have hk0 : (0 : Int) ≤ (k : Int) := by omega
        have hk1 : (k : Int) < (c.length : Int) := by omega
        go_wp2_with (go_at_call 36; refine (ih m' hm' y _ mk wr HT'.out HSR.out hPM.out HKN.out (by omega)).mono ?_; rintro e w3 ⟨rfl, m3, hp3, hg3, hf3, hb3⟩)
        case roundEnd =>
          refine ⟨⟨k + 1, m3, by omega, by go_num, ?_, hp3, hGR.out.trans hg3, hGB.out.trans hb3, fun i y' b'' o'' hi hy e => ?_⟩, by simp [intOf]; omega⟩
          · rw [hst1']
            simp
            omega
          · by_cases hik : i < k
            · exact (hFU.out i y' b'' o'' hik hy e).more fun q v hq _ => hg3.1 q v hq
            · have : i = k := by omega
              subst this
              rw [HX.out] at hy
              cases hy
              cases e
              exact hf3
      · have hkl : k = c.length := by omega
        have hval : (t0.size : Int) + ((srcs (c.take k)).length : Nat) = (len x : Int) := by
          rw [hkl, List.take_length, HLE.out]; omega
        rw [hval]
        have hpr : Pl wr b := HP0.out.of_block (HSR.out b HP0.out)
        obtain ⟨w4, hst4, hm4, htn4⟩ := hPM.out.store (a := ⟨b, o, none⟩) hpr (len x : Int)
        have hgr4 := Lib.hid htn4.grown
        have HM4 := Lib.hid hm4
        clear htn4 hm4
        go_wp2_with fail
        go_ret
        have hp : Ps.get mk ⟨b, o, none⟩ = some 2147483647 := hGR.out.1 _ _ (by rw [get_put, if_pos rfl])
        have hfull : Full w0 (put ⟨b, o, none⟩ (len x : Int) mk) ⟨b, o, none⟩ x := by
          refine .mk HT0.out HL.out (by rw [get_put, if_pos rfl]) (fun i y b' o' cap' h1 h2 => ?_)
          rw [hcc] at h1 h2
          rw [HC0.out] at h2
          have e := (Value.slice.inj (Option.some.inj h2)).1
          exact (hFU.out i y b' o' (by have := (List.getElem?_eq_some_iff.1 h1).1; omega) h1 e).put hp _
        exact ⟨rfl, _, HM4.out, Grew.done HN.out hGR.out hfull, hfull, (HG1.out.trans hGB.out).trans hgr4.out⟩
end Go.Proofs.YtbomilleckgalaaGreat.Ps
