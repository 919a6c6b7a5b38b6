/-
  The example: the last of three constants is edited.
-/
import Derived.Test.YtbomilleckgalaaGreatRpUpdate2
import Derived.KernelRfl
namespace Go.Proofs.YtbomilleckgalaaGreat.Ps
open Go.RowKit

def exSrc : ByteArray := ⟨#[99, 111, 110, 115, 116, 32, 97, 58, 32, 105, 110, 116, 32, 61, 32, 49, 59, 10, 99, 111, 110, 115, 116, 32, 98, 58, 32, 105, 110, 116, 32, 61, 32, 50, 59, 10, 99, 111, 110, 115, 116, 32, 99, 58, 32, 105, 110, 116, 32, 61, 32, 51, 59, 10]⟩
def exSrc2 : ByteArray := ⟨#[99, 111, 110, 115, 116, 32, 97, 58, 32, 105, 110, 116, 32, 61, 32, 49, 59, 10, 99, 111, 110, 115, 116, 32, 98, 58, 32, 105, 110, 116, 32, 61, 32, 50, 59, 10, 99, 111, 110, 115, 116, 32, 99, 58, 32, 105, 110, 116, 32, 61, 32, 52, 59, 10]⟩
set_option maxRecDepth 100000 in
theorem ex_kept : (kept (Lx.L exSrc) 51).1 = 2 := by decide +kernel
set_option maxRecDepth 100000 in
theorem ex_next : Te.next (Lx.L exSrc) ⟨(51 : Nat), (52 : Nat), ⟨#[52]⟩⟩ = Lx.L exSrc2 := by decide +kernel
theorem ex_size : exSrc.size = 54 := by decide +kernel
theorem ex_size2 : exSrc2.size = 54 := by decide +kernel

theorem fileT_c (l : List UInt8) : (fileT l).c = parseC l := rfl

set_option maxRecDepth 100000 in
set_option maxHeartbeats 4000000 in
theorem example_any (w : World) : Calls Tryz.prog 13 #[] w fun e w' => e = .returned (.bool true) ∧ Below w.heap.size w w' := by
  have K1 := Lib.hid (fun W => parse_file exSrc W (by rw [ex_size]; decide))
  have K2 := Lib.hid (fun W => parse_file exSrc2 W (by rw [ex_size2]; decide))
  have KU := Lib.hid (fun a c n W (hy : (fileT (Lx.L exSrc)).ok) (hk : Kids W (· < W.heap.size) n a (fileT (Lx.L exSrc)).c) => update_any exSrc ⟨#[52]⟩ 51 52 (fileT (Lx.L exSrc)) a c n W (by decide) (by rw [ex_size]; decide) (by rw [ex_size]; decide) (by rw [ex_size]; decide) hy hk)
  rw [ex_next] at KU
  unfold UpPost at KU
  rw [ex_kept] at KU
  unfold FilePost at K1 K2
  obtain ⟨l1, hl1⟩ : ∃ l1, l1 = Lx.L exSrc := ⟨_, rfl⟩
  obtain ⟨l2, hl2⟩ : ∃ l2, l2 = Lx.L exSrc2 := ⟨_, rfl⟩
  rw [← hl1] at K1 KU
  rw [← hl2] at K2 KU
  clear hl1 hl2
  obtain ⟨F, hF⟩ : ∃ F, F = fileT l1 := ⟨_, rfl⟩
  have HFC : Hid (F.c = parseC l1) := by show _ = _; rw [hF, fileT_c]
  obtain ⟨G, hG⟩ : ∃ G, G = fileT l2 := ⟨_, rfl⟩
  have HGC : Hid (G.c = parseC l2) := by show _ = _; rw [hG, fileT_c]
  rw [← hF, ← HFC.out] at K1
  rw [← hG, ← HGC.out] at K2
  rw [← hF, ← hG, ← HGC.out] at KU
  clear hF hG HFC HGC
  have KU' : Hid (∀ a c n W, F.ok → Kids W (· < W.heap.size) n a F.c → Calls Tryz.prog 17 #[.string exSrc, tv F a c, .agg #[.int .i64 51, .int .i64 52, .string ⟨#[52]⟩]] W fun e w' => Below W.heap.size W w' ∧ ∃ m ra rc, e = .returned (.tuple #[tv G ra rc, .int .i64 2, .int .i64 0]) ∧ Kids w' (· < w'.heap.size) m ra G.c ∧ G.ok) := fun a c n W h1 h2 => by
    refine (KU.out a c n W h1 h2).mono ?_
    rintro e w' ⟨hb, h | h⟩
    · obtain ⟨m, ra, rc, he, hk, hok⟩ := h.2
      exact ⟨hb, m, ra, rc, he, hk.up (fun _ hj => hj.1) (Nat.le_refl _), hok⟩
    · exact absurd rfl h.1
  clear KU
  have K1' : Hid (∀ W, Calls Tryz.prog 15 #[.string ⟨#[99, 111, 110, 115, 116, 32, 97, 58, 32, 105, 110, 116, 32, 61, 32, 49, 59, 10, 99, 111, 110, 115, 116, 32, 98, 58, 32, 105, 110, 116, 32, 61, 32, 50, 59, 10, 99, 111, 110, 115, 116, 32, 99, 58, 32, 105, 110, 116, 32, 61, 32, 51, 59, 10]⟩] W _) := K1
  have K2' : Hid (∀ W, Calls Tryz.prog 15 #[.string ⟨#[99, 111, 110, 115, 116, 32, 97, 58, 32, 105, 110, 116, 32, 61, 32, 49, 59, 10, 99, 111, 110, 115, 116, 32, 98, 58, 32, 105, 110, 116, 32, 61, 32, 50, 59, 10, 99, 111, 110, 115, 116, 32, 99, 58, 32, 105, 110, 116, 32, 61, 32, 52, 59, 10]⟩] W _) := K2
  clear K1 K2
  go_enter Tryz.func13, Tryz.ntmps13
  go_wp2_with fail
  refine (K1'.out w).mono ?_
  rintro e w1 ⟨hb, m1, ra, rc, rfl, hk, hok, _, _⟩
  have hz := hb.size
  have HB1 : Hid (Below w.heap.size w (w1.alloc (.cells #[.int .i64 F.k, .string F.t, .slice ra F.c.length rc] 40))) := (hb.alloc hz _)
  have HK1 : Hid (Kids (w1.alloc (.cells #[.int .i64 F.k, .string F.t, .slice ra F.c.length rc] 40)) (· < (w1.alloc (.cells #[.int .i64 F.k, .string F.t, .slice ra F.c.length rc] 40)).heap.size) m1 ra F.c) := Kids.to (hk.up (fun j hj => hj.1.lt) (Nat.le_refl _)) ((Below.refl _ _).alloc (Nat.le_refl _) _)
  have HO1 := Lib.hid hok
  clear hb hk hok
  go_wp2_with fail
  change Calls _ _ _ (w1.alloc (.cells #[.int .i64 F.k, .string F.t, .slice ra F.c.length rc] 40)) _
  generalize (w1.alloc (.cells #[.int .i64 F.k, .string F.t, .slice ra F.c.length rc] 40)) = w2 at *
  refine (KU'.out ra rc m1 w2 HO1.out HK1.out).mono ?_
  rintro e w3 ⟨hb, m3, rb, rd, rfl, hk, hok⟩
  have hz2 := HB1.out.size
  have HB3 : Hid (Below w.heap.size w (w3.alloc (.cells #[.int .i64 G.k, .string G.t, .slice rb G.c.length rd] 40))) := (HB1.out.trans (hb.mono hz2)).alloc (by have := hb.size; omega) _
  have HK3 : Hid (Kids (w3.alloc (.cells #[.int .i64 G.k, .string G.t, .slice rb G.c.length rd] 40)) (· < (w3.alloc (.cells #[.int .i64 G.k, .string G.t, .slice rb G.c.length rd] 40)).heap.size) m3 rb G.c) := Kids.to hk ((Below.refl _ _).alloc (Nat.le_refl _) _)
  have HO3 := Lib.hid hok
  have HE3 : Hid ((w3.alloc (.cells #[.int .i64 G.k, .string G.t, .slice rb G.c.length rd] 40)).heap[w3.heap.size]? = some (.cells #[.int .i64 G.k, .string G.t, .slice rb G.c.length rd] 40 (0, 0))) := heap_alloc_new w3 _
  clear hb hk hok HK1 HO1 KU'
  go_wp2_with fail
  change Calls _ _ _ (w3.alloc (.cells #[.int .i64 G.k, .string G.t, .slice rb G.c.length rd] 40)) _
  generalize (w3.alloc (.cells #[.int .i64 G.k, .string G.t, .slice rb G.c.length rd] 40)) = w4 at *
  refine (K2'.out w4).mono ?_
  rintro e w5 ⟨hb, m5, rf, rg, rfl, hk, hok, _, _⟩
  have hz4 := HB3.out.size
  have hb5 : Below w5.heap.size w5 (w5.alloc (.cells #[.int .i64 G.k, .string G.t, .slice rf G.c.length rg] 40)) := (Below.refl _ _).alloc (Nat.le_refl _) _
  have HB5 : Hid (Below w.heap.size w (w5.alloc (.cells #[.int .i64 G.k, .string G.t, .slice rf G.c.length rg] 40))) := (HB3.out.trans (hb.mono hz4)).alloc (by have := hb.size; omega) _
  have HK5 : Hid (Kids (w5.alloc (.cells #[.int .i64 G.k, .string G.t, .slice rf G.c.length rg] 40)) (· < (w5.alloc (.cells #[.int .i64 G.k, .string G.t, .slice rf G.c.length rg] 40)).heap.size) m5 rf G.c) := Kids.to (hk.up (fun j hj => hj.1.lt) (Nat.le_refl _)) hb5
  have HL5 : Hid (Kids (w5.alloc (.cells #[.int .i64 G.k, .string G.t, .slice rf G.c.length rg] 40)) (· < (w5.alloc (.cells #[.int .i64 G.k, .string G.t, .slice rf G.c.length rg] 40)).heap.size) m3 rb G.c) := (HK3.out.to hb).to hb5
  obtain ⟨c0, c1, c2, _⟩ := three_facts (held_to (held_to HE3.out hb) hb5)
  have HQ := Lib.hid (tree_eq m3 G G rb rd m5 rf rg _ HO3.out hok HL5.out HK5.out)
  clear hb hb5 hk hok HK3 HO3 HE3 K2' HK5 HL5
  go_wp2_with fail
  refine HQ.out.mono ?_
  rintro e w6 ⟨hb6, ⟨_, rfl⟩ | ⟨hne, _⟩⟩
  · have HB6 : Hid (Below w.heap.size w w6) := HB5.out.trans (hb6.mono HB5.out.size)
    go_wp2_with fail
    go_ret
    exact ⟨rfl, HB6.out⟩
  · exact absurd rfl hne
end Go.Proofs.YtbomilleckgalaaGreat.Ps
