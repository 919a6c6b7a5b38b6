/-
  textedit.merge by its contract.
-/
import Derived.Test.YtbkiliiopondaaaEffect
import Derived.Test.YtbkiliiopondaaaInsertR
import Derived.Test.YtbkiliiopondaaaVisit
import Derived.StillTailTactics
import Derived.Test.YtbkiliiopondaaaCompose
namespace Go.Proofs.Ytbkiliiopondaaa
open Go.RowKit

/-- The merger's state. -/
structure MS where
  fl : List Tb
  fr : List Tb
  ll : Int
  rl : Int

def MS.insL (t : ByteArray) (st : MS) : MS := ⟨st.fl ++ traceFrom st.ll t.data.toList, st.fr ++ insT t, st.ll + t.size, st.rl⟩
def MS.insR (t : ByteArray) (st : MS) : MS := ⟨st.fl ++ insT t, st.fr ++ traceFrom st.rl t.data.toList, st.ll, st.rl + t.size⟩
def MS.vis (c : UInt8) (ld rd : Bool) (st : MS) : MS :=
  if (ld || rd) = true then ⟨st.fl, st.fr, if ld then st.ll else st.ll + 1, if rd then st.rl else st.rl + 1⟩ else ⟨st.fl ++ [⟨c, st.ll⟩], st.fr ++ [⟨c, st.rl⟩], st.ll + 1, st.rl + 1⟩

def MS.visAt (src : List UInt8) (L R : List Ed) (k : Nat) (st : MS) : MS :=
  match src[k]? with
  | some c => MS.vis c (delF L k) (delF R k) st
  | none => st

/-- The state when the offsets before k have been visited. -/
def mrg (src : List UInt8) (L R : List Ed) : Nat → MS
  | 0 => ⟨[], [], 0, 0⟩
  | k + 1 => MS.visAt src L R k (MS.insR (insF R k) (MS.insL (insF L k) (mrg src L R k)))

/-- A state's size. -/
def MS.Bd (st : MS) (n : Nat) : Prop := st.fl.length ≤ n ∧ st.fr.length ≤ n ∧ 0 ≤ st.ll ∧ st.ll ≤ n ∧ 0 ≤ st.rl ∧ st.rl ≤ n

theorem MS.Bd.insL {st : MS} {n : Nat} (h : st.Bd n) (t : ByteArray) : (st.insL t).Bd (n + t.size) := by
  obtain ⟨a, b, c, d, e, f⟩ := h
  have hs : t.data.toList.length = t.size := by rw [Array.length_toList]; rfl
  refine ⟨?_, ?_, ?_, ?_, ?_, ?_⟩
  · simp only [MS.insL, List.length_append, trace_length, hs]; omega
  · simp only [MS.insL, List.length_append, insT_length]; omega
  · simp only [MS.insL]; omega
  · simp only [MS.insL]; omega
  · simp only [MS.insL]; omega
  · simp only [MS.insL]; omega

theorem MS.Bd.insR {st : MS} {n : Nat} (h : st.Bd n) (t : ByteArray) : (st.insR t).Bd (n + t.size) := by
  obtain ⟨a, b, c, d, e, f⟩ := h
  have hs : t.data.toList.length = t.size := by rw [Array.length_toList]; rfl
  refine ⟨?_, ?_, ?_, ?_, ?_, ?_⟩
  · simp only [MS.insR, List.length_append, insT_length]; omega
  · simp only [MS.insR, List.length_append, trace_length, hs]; omega
  · simp only [MS.insR]; omega
  · simp only [MS.insR]; omega
  · simp only [MS.insR]; omega
  · simp only [MS.insR]; omega

theorem MS.Bd.vis {st : MS} {n : Nat} (h : st.Bd n) (c : UInt8) (ld rd : Bool) : (st.vis c ld rd).Bd (n + 1) := by
  obtain ⟨a, b, c, d, e, f⟩ := h
  cases ld <;> cases rd <;> simp [MS.vis, MS.Bd] <;> omega

theorem MS.Bd.mono {st : MS} {n m : Nat} (h : st.Bd n) (hm : n ≤ m) : st.Bd m := by
  obtain ⟨a, b, c, d, e, f⟩ := h
  exact ⟨by omega, by omega, c, by omega, e, by omega⟩

theorem MS.Bd.visAt {st : MS} {n : Nat} (h : st.Bd n) (src : List UInt8) (L R : List Ed) (k : Nat) : (st.visAt src L R k).Bd (n + 1) := by
  unfold MS.visAt
  split
  · exact h.vis _ _ _
  · exact h.mono (by omega)

theorem insF_le (l : List Ed) (j : Nat) : (insF l j).size ≤ tsum l := by
  suffices h : ∀ (l : List Ed) (f : Nat → ByteArray) (j : Nat), (l.foldl (fun f x j => if j = x.s.toNat then x.t else f j) f j).size ≤ (f j).size + tsum l by
    have := h l (fun _ => ⟨#[]⟩) j
    have e : (⟨#[]⟩ : ByteArray).size = 0 := rfl
    simp only [e, Nat.zero_add] at this
    exact this
  intro l
  induction l with
  | nil => intro f j; simp [tsum]
  | cons x r ih =>
    intro f j
    have := ih (fun j => if j = x.s.toNat then x.t else f j) j
    simp only [List.foldl_cons, tsum]
    refine Nat.le_trans this ?_
    split <;> omega

theorem mrg_bd (src : List UInt8) (L R : List Ed) (M : Nat) (hL : tsum L ≤ M) (hR : tsum R ≤ M) (k : Nat) : (mrg src L R k).Bd (k * (2 * M + 1)) := by
  induction k with
  | zero => simp [mrg, MS.Bd]
  | succ k ih =>
    have h1 := insF_le L k
    have h2 := insF_le R k
    refine (((ih.insL (insF L k)).insR (insF R k)).visAt src L R k).mono ?_
    have e : (k + 1) * (2 * M + 1) = k * (2 * M + 1) + (2 * M + 1) := Nat.succ_mul _ _
    rw [e]
    generalize k * (2 * M + 1) = Z
    omega

/-- What the merger and the two effects are, in one world. -/
def Three (w : World) (B bm e1 e2 i1 d1 i2 d2 n : Nat) (L R : List Ed) (st : MS) : Prop :=
  Mg w B bm st.fl st.fr st.ll st.rl ∧ EffAt w B i1 d1 e1 n (insF L) (delF L) ∧ EffAt w B i2 d2 e2 n (insF R) (delF R)

theorem EffAt.others {w w' : World} {B bi bd be n bm : Nat} {fi : Nat → ByteArray} {fd : Nat → Bool} (h : EffAt w B bi bd be n fi fd) (hk : Lib.OthersKept 71 (some bm) w w') (hm : ∃ cs, w.heap[bm]? = some (.cells cs 61 (0, 0))) : EffAt w' B bi bd be n fi fd := by
  obtain ⟨cs, hm⟩ := hm
  obtain ⟨⟨⟨c1, h1, g1⟩, ⟨c2, h2, g2⟩, g3⟩, h3, g4⟩ := h
  have k1 := hk bi _ h1 (by intro e; simp only [Option.some.injEq] at e; subst e; rw [h1] at hm; simp at hm) (by simp)
  have k2 := hk bd _ h2 (by intro e; simp only [Option.some.injEq] at e; subst e; rw [h2] at hm; simp at hm) (by simp)
  have k3 := hk be _ h3 (by intro e; simp only [Option.some.injEq] at e; subst e; rw [h3] at hm; simp at hm) (by simp)
  exact ⟨⟨⟨c1, k1, g1⟩, ⟨c2, k2, g2⟩, g3⟩, k3, g4⟩

theorem Three.go {w w' : World} {B bm e1 e2 i1 d1 i2 d2 n : Nat} {L R : List Ed} {st st' : MS} (h : Three w B bm e1 e2 i1 d1 i2 d2 n L R st) (hm : Mg w' B bm st'.fl st'.fr st'.ll st'.rl) (hk : Lib.OthersKept 71 (some bm) w w') : Three w' B bm e1 e2 i1 d1 i2 d2 n L R st' := by
  obtain ⟨v1, v2, hb, _⟩ := h.1
  exact ⟨hm, h.2.1.others hk ⟨_, hb⟩, h.2.2.others hk ⟨_, hb⟩⟩

theorem Rows2.below {w w' : World} {B bi bd n : Nat} {fi : Nat → ByteArray} {fd : Nat → Bool} (h : Rows2 w B bi bd n fi fd) (hb : Below w.heap.size w w') : Rows2 w' B bi bd n fi fd :=
  ⟨h.1.of_block (hb.block _ h.1.lt), h.2.1.of_block (hb.block _ h.2.1.lt), h.2.2⟩

theorem Rows2.base {w : World} {B B' bi bd n : Nat} {fi : Nat → ByteArray} {fd : Nat → Bool} (h : Rows2 w B bi bd n fi fd) (hb : B' ≤ B) : Rows2 w B' bi bd n fi fd :=
  ⟨h.1, h.2.1, by have := h.2.2.1; omega, by have := h.2.2.2; omega⟩

def zero61 : Obj := .cells #[.slice none 0 0, .slice none 0 0, .int .i64 0, .int .i64 0] 61 (0, 0)

theorem two_new (w : World) (o o' : Obj) : ((w.alloc o).alloc o').heap[w.heap.size]? = some o ∧ ((w.alloc o).alloc o').heap[w.heap.size + 1]? = some o' := by
  have e : ((w.alloc o).alloc o').heap = (w.heap.push o).push o' := rfl
  rw [e]
  refine ⟨?_, ?_⟩
  · rw [Array.getElem?_push, if_neg (by simp), Array.getElem?_push, if_pos rfl]
  · rw [Array.getElem?_push, if_pos (by simp)]

theorem mg_zero {w : World} {B bm : Nat} (h : w.heap[bm]? = some zero61) (hB : B ≤ bm) : Mg w B bm [] [] 0 0 := ⟨_, _, h, World.ownsRow_nil _ _ _ _, World.ownsRow_nil _ _ _ _, .inl rfl, hB⟩

theorem visit_any (B bm : Nat) (st : MS) (c : UInt8) (ld rd : Bool) (w : World) (h : Hid (Mg w B bm st.fl st.fr st.ll st.rl)) (h1 : st.fl.length ≤ 1000000000) (h2 : st.fr.length ≤ 1000000000) (hll0 : 0 ≤ st.ll) (hll : st.ll ≤ 1000000000) (hrl0 : 0 ≤ st.rl) (hrl : st.rl ≤ 1000000000) (hBw : B ≤ w.heap.size) :
    Calls Try.prog 44 #[.pointer (some ⟨bm, 0, none⟩), .int .u8 c.toNat, .bool ld, .bool rd] w fun e w' => e = .returned (.tuple #[]) ∧ Hid (Mg w' B bm (st.vis c ld rd).fl (st.vis c ld rd).fr (st.vis c ld rd).ll (st.vis c ld rd).rl) ∧ Below B w w' ∧ Hid (Lib.OthersKept 71 (some bm) w w') := by
  by_cases hd : (ld || rd) = true
  · rw [MS.vis, if_pos hd]
    exact visit_drop B bm st.fl st.fr st.ll st.rl c ld rd hd w h hll0 hll hrl0 hrl
  · rw [MS.vis, if_neg hd]
    have h3 : ld = false ∧ rd = false := by simpa using hd
    obtain ⟨rfl, rfl⟩ := h3
    exact visit_keep B bm st.fl st.fr st.ll st.rl c w h h1 h2 hll0 hll hrl0 hrl hBw

set_option maxHeartbeats 1000000 in
set_option maxRecDepth 100000 in
theorem merge_any (s : ByteArray) (a1 : Option Addr) (c1 : Nat) (L : List Ed) (a2 : Option Addr) (c2 : Nat) (R : List Ed) (w : World) (hn : s.size ≤ 2000) (hL5 : L.length ≤ 50) (hR5 : R.length ≤ 50) (hiL : Inside s.size L) (hiR : Inside s.size R) (htL : tsum L ≤ 200000) (htR : tsum R ≤ 200000) (h1 : Eds w w.heap.size a1 L) (h2 : Eds w w.heap.size a2 R) :
    Calls Try.prog 32 #[.string s, .slice a1 L.length c1, .slice a2 R.length c2] w fun e w' => ∃ v1 v2, e = .returned (.agg #[v1, v2, .int .i64 (mrg s.data.toList L R (s.size + 1)).ll, .int .i64 (mrg s.data.toList L R (s.size + 1)).rl]) ∧
      Hid (OwnsT 71 w' w.heap.size v1 (mrg s.data.toList L R (s.size + 1)).fl) ∧ Hid (OwnsT 71 w' w.heap.size v2 (mrg s.data.toList L R (s.size + 1)).fr) ∧ Below w.heap.size w w' := by
  have HBD := Lib.hid (mrg_bd s.data.toList L R 200000 htL htR)
  go_enter Try.func32, Try.ntmps32
  go_wp2_with fail
  have hw0 := two_new w zero61 zero61
  have hb0 : Below w.heap.size w ((w.alloc zero61).alloc zero61) := ((Below.refl _ _).alloc (Nat.le_refl _) _).alloc (by simp) _
  rw [show ((w.alloc (.cells #[.slice none 0 0, .slice none 0 0, .int .i64 0, .int .i64 0] 61)).alloc (.cells #[.slice none 0 0, .slice none 0 0, .int .i64 0, .int .i64 0] 61)) = (w.alloc zero61).alloc zero61 from rfl]
  have hs0 : w.heap.size + 1 < ((w.alloc zero61).alloc zero61).heap.size := by simp
  generalize (w.alloc zero61).alloc zero61 = w0 at *
  obtain ⟨hz1, hz2⟩ := hw0
  have HZ1 := Lib.hid hz1
  have HZ2 := Lib.hid hz2
  clear hz1 hz2
  refine (effect_any s.size a1 c1 L w0 hn hL5 hiL ((h1.below hb0).up hb0.size)).mono ?_
  rintro e w1 ⟨i1, d1, rfl, hr1, hb1⟩
  have hb01 := hb0.trans (hb1.mono hb0.size)
  have hsz1 := hb1.size
  go_wp2_with fail
  refine (effect_any s.size a2 c2 R w1 hn hR5 hiR ((h2.below hb01).up hb01.size)).mono ?_
  rintro e w2 ⟨i2, d2, rfl, hr2, hb2⟩
  have hb02 := hb01.trans (hb2.mono hb01.size)
  have hsz2 := hb2.size
  have HR1 := Lib.hid (hr1.out.below hb2)
  have hz1 : Hid (w2.heap[w.heap.size]? = some zero61) := ((hb2.block _ (by omega)).trans (hb1.block _ (by omega))).trans HZ1.out
  have hz2 : Hid (w2.heap[w.heap.size + 1]? = some zero61) := ((hb2.block _ (by omega)).trans (hb1.block _ (by omega))).trans HZ2.out
  clear hr1 HZ1 HZ2 hb0 hb1 hb01 hb2
  have hw3 := two_new w2 (.cells #[.slice (some ⟨i1, 0, none⟩) (s.size + 1) (s.size + 1), .slice (some ⟨d1, 0, none⟩) s.size s.size] 76) (.cells #[.slice (some ⟨i2, 0, none⟩) (s.size + 1) (s.size + 1), .slice (some ⟨d2, 0, none⟩) s.size s.size] 76)
  have hbw3 : Below w2.heap.size w2 ((w2.alloc (.cells #[.slice (some ⟨i1, 0, none⟩) (s.size + 1) (s.size + 1), .slice (some ⟨d1, 0, none⟩) s.size s.size] 76)).alloc (.cells #[.slice (some ⟨i2, 0, none⟩) (s.size + 1) (s.size + 1), .slice (some ⟨d2, 0, none⟩) s.size s.size] 76)) := ((Below.refl _ _).alloc (Nat.le_refl _) _).alloc (by simp) _
  have HW3 := Lib.hid hw3
  have HBW3 := Lib.hid hbw3
  clear hw3 hbw3
  go_wp2_with fail
  generalize (w2.alloc (.cells #[.slice (some ⟨i1, 0, none⟩) (s.size + 1) (s.size + 1), .slice (some ⟨d1, 0, none⟩) s.size s.size] 76)).alloc (.cells #[.slice (some ⟨i2, 0, none⟩) (s.size + 1) (s.size + 1), .slice (some ⟨d2, 0, none⟩) s.size s.size] 76) = w3 at *
  have hb3 := hb02.trans (HBW3.out.mono (by omega))
  have hT : Hid (Three w3 w.heap.size (w.heap.size + 1) w2.heap.size (w2.heap.size + 1) i1 d1 i2 d2 s.size L R ⟨[], [], 0, 0⟩) :=
    ⟨mg_zero ((HBW3.out.block _ (by omega)).trans hz2.out) (by omega), ⟨(HR1.out.below HBW3.out).base (by omega), HW3.out.1, by omega⟩, ⟨(hr2.out.below HBW3.out).base (by omega), HW3.out.2, by omega⟩⟩
  have hz3 : Hid (w3.heap[w.heap.size]? = some zero61) := (HBW3.out.block _ (by omega)).trans hz1.out
  clear HW3 HBW3 HR1 hr2 hz1 hz2 hb02 h1 h2 hiL hiR
  generalize w2.heap.size = e1 at *
  generalize e1 + 1 = e2 at *
  clear hsz1 hsz2 hs0
  go_loopw [10] (fun i wr => ∃ k : Nat, k ≤ s.size + 1 ∧ i = .int .i64 k ∧ Hid (Three wr w.heap.size (w.heap.size + 1) e1 e2 i1 d1 i2 d2 s.size L R (mrg s.data.toList L R k)) ∧ Below w.heap.size w wr ∧ Hid (wr.heap[w.heap.size]? = some zero61))
    (fun i _ => s.size + 1 - (intOf i).toNat)
  case atStart => exact ⟨0, by omega, rfl, hT, hb3, hz3⟩
  case round =>
    clear hT hb3 hz3
    obtain ⟨k, hk, rfl, hT, hb, hz⟩ := hrel
    have hzw := hb.size
    by_cases hlt : k ≤ s.size
    · obtain ⟨c0, _⟩ := hT.out.2.1.cells
      have ci := hT.out.2.1.1.1.cell (i := k) (by omega)
      have hk0 : (0 : Int) ≤ (k : Int) := by omega
      have hk1 : (k : Int) < (s.size : Int) + 1 := by omega
      have hbd := HBD.out k
      have hkM : k * (2 * 200000 + 1) ≤ 810000000 := by
        have := Nat.mul_le_mul_right (2 * 200000 + 1) (show k ≤ 2000 by omega)
        omega
      have hi1 := Nat.le_trans (insF_le L k) htL
      have hi2 := Nat.le_trans (insF_le R k) htR
      obtain ⟨b1, b2, b3, b4, b5, b6⟩ := hbd.mono hkM
      have hbdL := (hbd.mono hkM).insL (insF L k)
      have hbdR := hbdL.insR (insF R k)
      obtain ⟨p1, p2, p3, p4, p5, p6⟩ := hbdL
      obtain ⟨q1, q2, q3, q4, q5, q6⟩ := hbdR
      have hmk : Hid (mrg s.data.toList L R (k + 1) = MS.visAt s.data.toList L R k (MS.insR (insF R k) (MS.insL (insF L k) (mrg s.data.toList L R k)))) := rfl
      clear hbd hkM HBD
      generalize mrg s.data.toList L R k = st at *
      go_wp2_with fail
      refine (left_any w.heap.size (w.heap.size + 1) st.fl st.fr st.ll st.rl (insF L k) wr hT.out.1 (by omega) (by omega) (by omega) (by omega) (by omega)).mono ?_
      rintro e w4 ⟨rfl, hM4, hb4, hk4⟩
      have hT4 : Hid (Three w4 w.heap.size (w.heap.size + 1) e1 e2 i1 d1 i2 d2 s.size L R (st.insL (insF L k))) := hT.out.go hM4.out hk4.out
      have hz4 : Hid (w4.heap[w.heap.size]? = some zero61) := hk4.out _ _ hz.out (by simp) (by intro c fz h; simp [zero61] at h)
      have hb04 := hb.trans hb4
      clear hT hM4 hk4 hz hb4 hb c0 ci b1 b2 b3 b4 b5 b6
      generalize st.insL (insF L k) = st4 at *
      obtain ⟨c0, _⟩ := hT4.out.2.2.cells
      have ci := hT4.out.2.2.1.1.cell (i := k) (by omega)
      have hzw4 := hb04.size
      go_wp2_with fail
      refine (right_any w.heap.size (w.heap.size + 1) st4.fl st4.fr st4.ll st4.rl (insF R k) w4 hT4.out.1 (by omega) (by omega) (by omega) (by omega) (by omega)).mono ?_
      rintro e w5 ⟨rfl, hM5, hb5, hk5⟩
      have hT5 : Hid (Three w5 w.heap.size (w.heap.size + 1) e1 e2 i1 d1 i2 d2 s.size L R (st4.insR (insF R k))) := hT4.out.go hM5.out hk5.out
      have hz5 : Hid (w5.heap[w.heap.size]? = some zero61) := hk5.out _ _ hz4.out (by simp) (by intro c fz h; simp [zero61] at h)
      have hb05 := hb04.trans hb5
      clear hT4 hM5 hk5 hz4 hb5 hb04 c0 ci p1 p2 p3 p4 p5 p6
      generalize st4.insR (insF R k) = st5 at *
      have hzw5 := hb05.size
      by_cases hlt2 : k < s.size
      · obtain ⟨c0, c1'⟩ := hT5.out.2.1.cells
        obtain ⟨g0, g1⟩ := hT5.out.2.2.cells
        have ci := hT5.out.2.1.1.2.1.cell (i := k) hlt2
        have gi := hT5.out.2.2.1.2.1.cell (i := k) hlt2
        have hk2 : (k : Int) < (s.size : Int) := by omega
        have hstr : s.data.toList[k]? = some s[k] := str_at s k hlt2
        have hm2 : Hid (mrg s.data.toList L R (k + 1) = MS.vis s[k] (delF L k) (delF R k) st5) := by
          show _ = _
          rw [hmk.out, MS.visAt, hstr]
        clear hmk hstr
        go_wp2_with fail
        go_still_tail 13, (by kernel_rfl)
        change wpList _ _ _ _ _ w5.drew
        have hT6 : Hid (Three w5.drew w.heap.size (w.heap.size + 1) e1 e2 i1 d1 i2 d2 s.size L R st5) := hT5
        have hz6 : Hid (w5.drew.heap[w.heap.size]? = some zero61) := hz5
        have hb06 := hb05.drew
        have hzw6 := hb06.size
        clear hT5 hz5 hb05 hzw5 c0 c1' g0 g1 ci gi
        generalize w5.drew = w6 at *
        generalize delF L k = ld at *
        generalize delF R k = rd at *
        go_wp2_with fail
        refine (visit_any w.heap.size (w.heap.size + 1) st5 s[k] ld rd w6 hT6.out.1 (by omega) (by omega) (by omega) (by omega) (by omega) (by omega) (by omega)).mono ?_
        rintro e w7 ⟨rfl, hM7, hb7, hk7⟩
        have hT7 : Hid (Three w7 w.heap.size (w.heap.size + 1) e1 e2 i1 d1 i2 d2 s.size L R (mrg s.data.toList L R (k + 1))) := by
          rw [hm2.out]
          exact hT6.out.go hM7.out hk7.out
        have hz7 : Hid (w7.heap[w.heap.size]? = some zero61) := hk7.out _ _ hz6.out (by simp) (by intro c fz h; simp [zero61] at h)
        have hb07 := hb06.trans hb7
        clear hT6 hM7 hk7 hz6 hb7 hb06 hm2
        go_wp2_with fail
        go_roundw
        case rel => exact ⟨k + 1, by omega, by go_num, hT7, hb07, hz7⟩
        case measure => simp [intOf]; omega
      · have hm2 : Hid (Three w5 w.heap.size (w.heap.size + 1) e1 e2 i1 d1 i2 d2 s.size L R (mrg s.data.toList L R (k + 1))) := by
          rw [hmk.out, MS.visAt, List.getElem?_eq_none (by rw [Array.length_toList]; show s.size ≤ k; omega)]
          exact hT5
        clear hmk hT5
        go_wp2_with fail
        go_roundw
        case rel => exact ⟨k + 1, by omega, by go_num, hm2, hb05, hz5⟩
        case measure => simp [intOf]; omega
    · obtain rfl : k = s.size + 1 := by omega
      clear HBD
      obtain ⟨st, hst⟩ : ∃ st, st = mrg s.data.toList L R (s.size + 1) := ⟨_, rfl⟩
      rw [← hst] at hT
      have HST := Lib.hid hst
      clear hst
      obtain ⟨v1, v2, hbk, ho1, ho2, _, _⟩ := hT.out.1
      obtain ⟨x1, y1, rfl⟩ := owns_form ho1
      obtain ⟨x2, y2, rfl⟩ := owns_form ho2
      obtain ⟨c0, c1', c2', c3', _, _, _, _⟩ := mg_cells hbk
      obtain ⟨r0, r1, r2, r3, g0, g1, g2, g3⟩ := mg_cells (show wr.heap[w.heap.size]? = some (.cells #[.slice none 0 0, .slice none 0 0, .int .i64 0, .int .i64 0] 61 (0, 0)) from hz.out)
      have n1 := mg_ne ho1 hz.out
      have n2 := mg_ne ho2 hz.out
      have HO1 := Lib.hid ho1
      have HO2 := Lib.hid ho2
      have N1 := Lib.hid n1
      have N2 := Lib.hid n2
      clear ho1 ho2 hbk hT hz n1 n2
      go_wp2_with fail
      refine bodyPost_ret (v := .agg #[.slice x1 st.fl.length y1, .slice x2 st.fr.length y2, .int .i64 st.ll, .int .i64 st.rl]) (by simp [results, Try.results32, go_sem, r0, r1, r2, r3]) rfl ⟨_, _, by rw [← HST.out], by rw [← HST.out]; exact own_setCell (own_setCell (own_setCell (own_setCell HO1.out N1.out) N1.out) N1.out) N1.out, by rw [← HST.out]; exact own_setCell (own_setCell (own_setCell (own_setCell HO2.out N2.out) N2.out) N2.out) N2.out, (((hb.setCell (Nat.le_refl _) _).setCell (Nat.le_refl _) _).setCell (Nat.le_refl _) _).setCell (Nat.le_refl _) _⟩
end Go.Proofs.Ytbkiliiopondaaa
