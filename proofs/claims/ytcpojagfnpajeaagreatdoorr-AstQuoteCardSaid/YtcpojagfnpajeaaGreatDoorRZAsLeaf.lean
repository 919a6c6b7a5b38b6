/-
  (*strings.Builder).WriteByte and ast.unquote, by their contracts.
  ast.intValue, report, isSignificant, keywordValue, isNamed, by their contracts.
  checkToken, the closure cover and setFields, by their contracts.
  The closure cover and setFields, by their contracts.
-/
import Derived.Test.YtcpojagfnpajeaaGreatDoorRZAsBase
import Derived.Test.YtcpojagfnpajeaaGreatDoorRZTeAll
import Derived.Lib.FrozenHead2
import Derived.Test.YtcpojagfnpajeaaGreatDoorRZShelf
import Derived.StillTailTactics
import Derived.Deep.DeepCutAuto
namespace Go.Proofs.YtcpojagfnpajeaaGreatDoorR.Ps
open Go.RowKit

set_option maxHeartbeats 2000000 in
set_option maxRecDepth 100000 in
theorem writeb_any (B b : Nat) (acc : List UInt8) (c : UInt8) (z : Int) (hz : (c.toNat : Int) = z) (w : World) (h : Hid (Lib.IsBuilder 99 5 B b (Lib.byteCells acc) w)) (hlen : acc.length + 1 ≤ 140737488355328) (hBw : B ≤ w.heap.size) :
    Calls Tryz.prog 231 #[.pointer (some ⟨b, 0, none⟩), .int .u8 z] w fun e w' => e = .returned .nilIface ∧ Hid (Lib.IsBuilder 99 5 B b (Lib.byteCells (acc ++ [c])) w') ∧ Below B w w' ∧ Lib.OthersKept 5 (some b) w w' := by
  obtain ⟨i0, hi, hz0, hz1, hz2⟩ := info_parts info_byte
  have HB := h
  have K := Lib.hid (fun W (H : Hid (Lib.IsBuilder 99 5 B b (Lib.byteCells acc) W)) => Te.check_any B b (Lib.byteCells acc) W H.out)
  have hL : (Lib.byteCells acc).length = acc.length := by simp [Lib.byteCells]
  have hS : Lib.byteCells (acc ++ [c]) = Lib.byteCells acc ++ [.int .u8 (c.toNat : Int)] := by simp [Lib.byteCells]
  rw [hS]
  rw [← hL] at hlen
  generalize Lib.byteCells acc = bs at *
  rw [hz]
  clear hS hL hz
  go_enter Tryz.func231, Tryz.ntmps231
  go_wp2_with fail
  refine (K.out _ HB).mono ?_
  rintro e w1 ⟨rfl, h1, hb1, hk1⟩
  obtain ⟨hB, v, hbk, hown, hne⟩ := h1
  have c0 : w1.cell? ⟨b, 0, none⟩ = some (.pointer (some ⟨b, 0, none⟩)) := by rw [Lib.cell_of_heap hbk]; rfl
  have c1 : w1.cell? ⟨b, 1, none⟩ = some v := by rw [Lib.cell_of_heap hbk]; rfl
  go_wp2_with (at_builtin; refine wpList_append_own _ rfl _ _ 97 rfl B 5 i0 (.int .u8 0) 1 1 Tryz.underlying97 hi hz0 hz1 hz2 rfl (by decide) _ _ _ rfl (hown.alloc _) ⟨w1.heap.size, 0, none⟩ 1 1 [.int .u8 z] rfl rfl ?c1 ?c2 ?c3 ?c4 ?c5 ?_)
  case c1 =>
    intro j u hj
    match j, hj with
    | 0, hj => simp at hj; subst hj; simp [Addr.add]
  case c2 => intro u hu; simp at hu; subst hu; rfl
  case c3 => unfold maxLen; omega
  case c4 => omega
  case c5 => have := hb1.size; simp; omega
  intro v' w2 hown' hgrow _
  have hlt : b < w1.heap.size := by
    rcases Nat.lt_or_ge b w1.heap.size with h' | h'
    · exact h'
    · simp [Array.getElem?_eq_none h'] at hbk
  have hb2 : w2.heap[b]? = some (.cells #[.pointer (some ⟨b, 0, none⟩), v] 99 (0, 0)) := by
    rw [hgrow.block b (by simp; omega) (fun e => hne e.symm), Lib.alloc_old w1 _ b hlt]
    exact hbk
  have d0 : w2.cell? ⟨b, 0, none⟩ = some (.pointer (some ⟨b, 0, none⟩)) := by rw [Lib.cell_of_heap hb2]; rfl
  have d1 : w2.cell? ⟨b, 1, none⟩ = some v := by rw [Lib.cell_of_heap hb2]; rfl
  have f1 : w2.frozen? ⟨b, 1, none⟩ = false := Lib.frozen_of_heap hb2 1
  obtain ⟨ao, n', cap, rfl⟩ : ∃ ao n' cap, v' = .slice ao n' cap := by
    rcases hown'.2 with ⟨hv, _⟩ | ⟨g, cap, cur, hv, _⟩
    · exact ⟨_, _, _, hv⟩
    · exact ⟨_, _, _, hv⟩
  go_wp2
  go_ret
  refine ⟨rfl, Lib.hid (.inr ?_), ?_, ?_⟩
  · exact Lib.BuilderAt.put (T := 99) (e := 5) hB hb2 (bs' := bs ++ [.int .u8 z]) (by simpa using hown') (by decide)
  · exact (((hb1.alloc (by have := hb1.size; omega) _)).grown hgrow (by have := hb1.size; simp; omega) (fun k hk => (hown.lt k hk).1)).setCell (p := ⟨b, 1, none⟩) hB _
  · refine ((hk1.alloc _).grown hgrow ?_).setCell _ rfl _
    intro g hg
    rcases hown.2 with ⟨rfl, _⟩ | ⟨g', cap, cur, rfl, _, hgg, _⟩
    · simp [Value.ownBlock] at hg
    · simp [Value.ownBlock] at hg
      subst hg
      exact ⟨cur, _, (Lib.alloc_old w1 _ _ (Array.getElem?_eq_some_iff.1 hgg).1).trans hgg⟩

theorem unqL_one (i : Nat) (l : List UInt8) (h : l.length ≤ 1) : unqL i l = ([], []) := by
  match l, h with
  | [], _ => rfl
  | [_], _ => rfl
theorem unqL_plain {i : Nat} {c : UInt8} {r : List UInt8} (hr : r ≠ []) (hc : (c == 92) = false) : unqL i (c :: r) = (c :: (unqL (i + 1) r).1, (unqL (i + 1) r).2) := by
  cases r with
  | nil => exact absurd rfl hr
  | cons d q => simp only [unqL, hc]; rfl
theorem unqL_esc {i : Nat} {c d : UInt8} {r : List UInt8} (hc : (c == 92) = true) :
    unqL i (c :: d :: r) = if d == 110 then (10 :: (unqL (i + 2) r).1, (unqL (i + 2) r).2) else if d == 34 || d == 92 then (d :: (unqL (i + 2) r).1, (unqL (i + 2) r).2) else (d :: (unqL (i + 2) r).1, i :: (unqL (i + 2) r).2) := by
  simp only [unqL, hc, if_true]

/-- What is done of a literal l when the loop stands at k. -/
def UnqAt (l : List UInt8) (k : Nat) (acc : List UInt8) (us : List Nat) : Prop := unq l = (acc ++ (unqL k (l.drop k)).1, us ++ (unqL k (l.drop k)).2)

theorem UnqAt.start (l : List UInt8) : UnqAt l 1 [] [] := by unfold UnqAt unq; simp
theorem UnqAt.done {l : List UInt8} {k : Nat} {acc : List UInt8} {us : List Nat} (h : UnqAt l k acc us) (hk : l.length ≤ k + 1) : unq l = (acc, us) := by
  unfold UnqAt at h
  rw [h, unqL_one _ _ (by rw [List.length_drop]; omega)]
  simp
theorem drop_two {l : List UInt8} {k : Nat} (h : k + 1 < l.length) : l.drop k = l[k] :: l[k + 1] :: l.drop (k + 2) := by
  rw [List.drop_eq_getElem_cons (by omega), List.drop_eq_getElem_cons (by omega)]
theorem UnqAt.plain {l : List UInt8} {k : Nat} {acc : List UInt8} {us : List Nat} (h : UnqAt l k acc us) (hk : k + 1 < l.length) {c : UInt8} (hc : l[k]? = some c) (hne : (c == 92) = false) : UnqAt l (k + 1) (acc ++ [c]) us := by
  unfold UnqAt at *
  have e : l[k] = c := by rw [List.getElem?_eq_getElem (by omega)] at hc; exact Option.some.inj hc
  rw [h, List.drop_eq_getElem_cons (by omega), e, unqL_plain (by intro q; have := congrArg List.length q; simp at this; omega) hne]
  simp
theorem UnqAt.esc {l : List UInt8} {k : Nat} {acc : List UInt8} {us : List Nat} (h : UnqAt l k acc us) (hk : k + 1 < l.length) {c d : UInt8} (hc : l[k]? = some c) (hd : l[k + 1]? = some d) (hne : (c == 92) = true) :
    ((d == 110) = true → UnqAt l (k + 2) (acc ++ [10]) us) ∧ ((d == 110) = false → (d == 34 || d == 92) = true → UnqAt l (k + 2) (acc ++ [d]) us) ∧ ((d == 110) = false → (d == 34 || d == 92) = false → UnqAt l (k + 2) (acc ++ [d]) (us ++ [k])) := by
  unfold UnqAt at *
  have e : l[k] = c := by rw [List.getElem?_eq_getElem (by omega)] at hc; exact Option.some.inj hc
  have e' : l[k + 1] = d := by rw [List.getElem?_eq_getElem (by omega)] at hd; exact Option.some.inj hd
  rw [h, drop_two hk, e, e', unqL_esc hne]
  refine ⟨fun q => ?_, fun q q' => ?_, fun q q' => ?_⟩
  · simp [q]
  · simp only [q, q']; simp
  · simp only [q, q']; simp

/-- A literal slice. -/
theorem src_lit (w : World) (cs : List Value) (t : TypeId) (n size cap : Nat) (h : cs.length = n * size) (h1 : ∀ u, u ∈ cs → u.oneCell' = true) : SrcIs (w.alloc (.cells cs.toArray t)) (.slice (some ⟨w.heap.size, 0, none⟩) n cap) n size cs := by
  refine ⟨h, h1, Or.inr ⟨⟨w.heap.size, 0, none⟩, cap, rfl, fun j u hu => ?_⟩⟩
  have hadd : (⟨w.heap.size, 0, none⟩ : Addr).add j = ⟨w.heap.size, 0 + j, none⟩ := by unfold Addr.add; split <;> simp_all
  rw [hadd, Lib.cell_of_heap (heap_alloc_new w _), Nat.zero_add]
  simpa using hu

def usI (us : List Nat) : List Int := us.map fun (u : Nat) => (u : Int)
theorem usI_snoc (us : List Nat) (k : Nat) : usI (us ++ [k]) = usI us ++ [(k : Int)] := by simp [usI]
theorem usI_length (us : List Nat) : (usI us).length = us.length := by simp [usI]
theorem eq_byte {c d : UInt8} {z : Int} (hd : (d.toNat : Int) = z) (h : (c.toNat : Int) = z) : (c == d) = true := by
  have : c = d := UInt8.toNat_inj.1 (by omega)
  simp [this]
theorem ne_byte {c d : UInt8} {z : Int} (hd : (d.toNat : Int) = z) (h : ¬ (c.toNat : Int) = z) : (c == d) = false := by
  cases hc : c == d with
  | false => rfl
  | true =>
    have : c = d := by simpa using hc
    subst this
    exact absurd hd h

/-- A builder stands while a row that is not its own grows. -/
theorem builder_grown {T e : TypeId} {B b : Nat} {bs : List Value} {w w' : World} {row : Option Nat} (h : Lib.IsBuilder T e B b bs w) (hg : w.grownBy w' row) (hr : ∀ g, row = some g → g ≠ b ∧ ∃ c t, w.heap[g]? = some (.cells c t (0, 0)) ∧ t ≠ e) : Lib.IsBuilder T e B b bs w' := by
  have key : ∀ v, Lib.BuilderAt T e B b v bs w → Lib.BuilderAt T e B b v bs w' := by
    intro v h
    have hlt := h.lt
    obtain ⟨hB, u, hb, hown, hne⟩ := h
    refine ⟨hB, u, (hg.block b hlt (fun q => (hr b q.symm).1 rfl)).trans hb, hown.kept hg ?_, hne⟩
    cases hu : u.ownBlock with
    | none => exact Or.inl rfl
    | some g =>
      right
      intro q
      obtain ⟨_, c, t, hc, ht⟩ := hr g q.symm
      rcases hown.2 with ⟨rfl, _⟩ | ⟨g', cap, cur, rfl, _, hgg, _⟩
      · cases hu
      · cases hu
        rw [hgg] at hc
        exact ht (Obj.cells.inj (Option.some.inj hc)).2.1.symm
  exact h.imp (key _) (key _)

theorem ownsI_others {w w' : World} {B b : Nat} {v : Value} {zs : List Int} (h : OwnsI w B v zs) (hk : Lib.OthersKept 5 (some b) w w') (hne : v.ownBlock ≠ some b) : OwnsI w' B v zs := by
  rcases h.2 with ⟨rfl, h0⟩ | ⟨g, cap, cur, rfl, h1, h2, h3⟩
  · exact ⟨h.1, Or.inl ⟨rfl, h0⟩⟩
  · exact ⟨h.1, Or.inr ⟨g, cap, cur, rfl, h1, hk g _ h2 hne (fun c fz e => by cases e), h3⟩⟩
theorem ownsI_row {w : World} {B : Nat} {v : Value} {zs : List Int} (h : OwnsI w B v zs) : ∀ g, v.ownBlock = some g → ∃ c t, w.heap[g]? = some (.cells c t (0, 0)) ∧ t ≠ 5 := by
  intro g hg
  rcases h.2 with ⟨rfl, h0⟩ | ⟨g', cap, cur, rfl, h1, h2, h3⟩
  · cases hg
  · cases hg; exact ⟨_, _, h2, by decide⟩

set_option maxHeartbeats 600000 in
set_option maxRecDepth 100000 in
theorem unquote_any (s : ByteArray) (w : World) (hs : s.size ≤ 2000) :
    Calls Tryz.prog 169 #[.string s] w fun e w' => ∃ v, e = .returned (.tuple #[.string (Lx.bs (unq (Lx.L s)).1), v]) ∧ Hid (OwnsI w' w.heap.size v (usI (unq (Lx.L s)).2)) ∧ Below w.heap.size w w' := by
  obtain ⟨i0, hi, hz0, hz1, hz2⟩ := info_parts info_int
  have HLEN : Hid ((Lx.L s).length = s.size) := Lx.L_len s
  have HST := Lib.hid (UnqAt.start (Lx.L s))
  go_enter Tryz.func169, Tryz.ntmps169
  go_wp2_with fail
  have HBD : Hid (Lib.IsBuilder 99 5 w.heap.size w.heap.size (Lib.byteCells []) (w.alloc (.cells #[.pointer none, .slice none 0 0] 99))) := Lib.fresh_isBuilder _ _ w
  go_loopw [3, 5] (fun v i wr => ∃ (k : Nat) (acc : List UInt8) (us : List Nat), 1 ≤ k ∧ k ≤ 2001 ∧ i = .int .i64 k ∧ acc.length ≤ k ∧ us.length ≤ k ∧ Hid (UnqAt (Lx.L s) k acc us) ∧ Hid (OwnsI wr w.heap.size v (usI us)) ∧ Hid (Lib.IsBuilder 99 5 w.heap.size w.heap.size (Lib.byteCells acc) wr) ∧ Hid (v.ownBlock ≠ some w.heap.size) ∧ Below w.heap.size w wr)
    (fun _ i _ => 2005 - (intOf i).toNat)
  case atStart => exact ⟨1, [], [], by omega, by omega, rfl, by simp, by simp, HST, Lib.hid (show OwnsI _ _ _ [] from OwnsI.nil _ _), HBD, Lib.hid (by simp [Value.ownBlock]), (Below.refl _ _).alloc (Nat.le_refl _) _⟩
  case round =>
    obtain ⟨k, acc, us, hk1, hk2, rfl, ha, hu, hat, hown, hbd, hne, hb⟩ := hrel
    have hBr : w.heap.size ≤ wr.heap.size := hb.size
    have hlb : Hid (w.heap.size < wr.heap.size) := (hbd.out.elim Lib.BuilderAt.lt Lib.BuilderAt.lt)
    by_cases hlt : k + 1 < s.size
    · obtain ⟨c, hc⟩ : ∃ c, s[k]'(by omega) = c := ⟨_, rfl⟩
      have hatc := Lib.hid (Lx.at_L s k (by omega))
      rw [hc] at hatc
      have hl1 : (k : Int) < (s.size : Int) - 1 := by omega
      have hl2 : k < s.size := by omega
      by_cases h92 : (c.toNat : Int) = 92
      · obtain ⟨m, hm⟩ : ∃ m, m = k + 1 := ⟨_, rfl⟩
        have hwm : IntKind.i64.wrap ((k : Int) + 1) = (m : Int) := by rw [hm]; simp [IntKind.wrap, IntKind.bits, IntKind.signed]; omega
        have hwk : IntKind.i64.wrap ((m : Int) - 1) = (k : Int) := by rw [hm]; simp [IntKind.wrap, IntKind.bits, IntKind.signed]; omega
        have hmlt : m < s.size := by omega
        obtain ⟨d, hd⟩ : ∃ d, s[m]'hmlt = d := ⟨_, rfl⟩
        have hatd := Lib.hid (Lx.at_L s m hmlt)
        rw [hd] at hatd
        have HQ := Lib.hid (hat.out.esc (by rw [HLEN.out]; exact hlt) hatc.out (by rw [← hm]; exact hatd.out) (eq_byte (d := 92) rfl h92))
        have hm1 : (m : Int) < 9223372036854775807 := by omega
        have HKM : Hid (k + 2 = m + 1) := by show _ = _; omega
        clear hat hatc hatd hm
        by_cases h110 : (d.toNat : Int) = 110
        · have hn := Lib.hid (HQ.out.1 (eq_byte (d := 110) rfl h110))
          have K := Lib.hid (writeb_any w.heap.size w.heap.size acc 10 10 rfl wr hbd (by omega) hBr)
          clear HQ
          go_wp2_with fail
          refine K.out.mono ?_
          rintro e w1 ⟨rfl, hbd1, hb1, hk1'⟩
          have hown1 := Lib.hid (ownsI_others hown.out hk1' hne.out)
          clear hown hk1'
          go_wp2_with fail
          go_round
          case rel => exact ⟨k + 2, acc ++ [10], us, by omega, by omega, (by rw [HKM.out]; go_num), by simp; omega, by omega, hn, hown1, hbd1, hne, hb.trans hb1⟩
          case measure => have := HKM.out; simp [intOf]; omega
        · have g110 : ((d.toNat : Int) == 110) = false := by simpa using h110
          have n110 := ne_byte (d := 110) rfl h110
          by_cases h34 : (d.toNat : Int) = 34
          · have hn := Lib.hid (HQ.out.2.1 n110 (by rw [eq_byte (d := 34) rfl h34]; rfl))
            have K := Lib.hid (writeb_any w.heap.size w.heap.size acc d 34 h34 wr hbd (by omega) hBr)
            clear HQ h110 g110
            go_wp2_with fail
            refine K.out.mono ?_
            rintro e w1 ⟨rfl, hbd1, hb1, hk1'⟩
            have hown1 := Lib.hid (ownsI_others hown.out hk1' hne.out)
            clear hown hk1'
            go_wp2_with fail
            go_round
            case rel => exact ⟨k + 2, acc ++ [d], us, by omega, by omega, (by rw [HKM.out]; go_num), by simp; omega, by omega, hn, hown1, hbd1, hne, hb.trans hb1⟩
            case measure => have := HKM.out; simp [intOf]; omega
          · have g34 : ((d.toNat : Int) == 34) = false := by simpa using h34
            by_cases h92' : (d.toNat : Int) = 92
            · have hn := Lib.hid (HQ.out.2.1 n110 (by rw [eq_byte (d := 92) rfl h92']; simp))
              have K := Lib.hid (writeb_any w.heap.size w.heap.size acc d 92 h92' wr hbd (by omega) hBr)
              clear HQ h110 h34 g110 g34
              go_wp2_with fail
              refine K.out.mono ?_
              rintro e w1 ⟨rfl, hbd1, hb1, hk1'⟩
              have hown1 := Lib.hid (ownsI_others hown.out hk1' hne.out)
              clear hown hk1'
              go_wp2_with fail
              go_round
              case rel => exact ⟨k + 2, acc ++ [d], us, by omega, by omega, (by rw [HKM.out]; go_num), by simp; omega, by omega, hn, hown1, hbd1, hne, hb.trans hb1⟩
              case measure => have := HKM.out; simp [intOf]; omega
            · have g92' : ((d.toNat : Int) == 92) = false := by simpa using h92'
              have hn := Lib.hid (HQ.out.2.2 n110 (by rw [ne_byte (d := 34) rfl h34, ne_byte (d := 92) rfl h92']; rfl))
              have K := Lib.hid (fun W h1 h2 => writeb_any w.heap.size w.heap.size acc d _ rfl W h1 (by omega) h2)
              clear HQ h110 h34 h92'
              have hun := usI_length us
              go_wp2_with (at_builtin; refine wpList_append_src rfl _ _ 83 rfl w.heap.size 3 i0 (.int .i64 0) 1 8 Tryz.underlying83 hi hz0 hz1 hz2 rfl (by decide) _ _ _ rfl (hown.out.alloc _) _ 1 [.int .i64 k] rfl (src_lit wr [.int .i64 k] 3 1 1 1 rfl (fun u hu => by simp at hu; subst hu; rfl)) ?c3 ?c4 ?c5 ?_)
              case c3 => unfold maxLen; omega
              case c4 => omega
              case c5 => simp; omega
              intro v' w1 hown1 hgr hrow
              have hr0 := ownsI_row (v := u3) (hown.out.alloc (.cells #[.int .i64 k] 3))
              have HB1 := Lib.hid (builder_grown (Te.builder_alloc hbd.out _) hgr (fun g hg => ⟨fun e => hne.out (by rw [hg, e]), hr0 g hg⟩))
              have hb1 : Below w.heap.size w w1 := (hb.alloc hBr _).grown hgr (by simp; omega) (fun j hj => (World.ownsRow.lt hown.out j hj).1)
              have hne1 : Hid (v'.ownBlock ≠ some w.heap.size) := by
                show _ ≠ _
                rcases hrow with e | e
                · rw [e]; exact hne.out
                · rw [e]; have := hlb.out; simp; omega
              have HOWN1 : Hid (OwnsI w1 w.heap.size v' (usI (us ++ [k]))) := by
                show World.ownsRow _ _ _ _ _ _ _
                rw [usI_snoc, iCells_append, List.length_append, usI_length]
                exact hown1
              obtain ⟨ao, n', cap, rfl⟩ : ∃ ao n' cap, v' = .slice ao n' cap := by
                rcases hown1.2 with ⟨hv, _⟩ | ⟨g, cap, cur, hv, _⟩
                · exact ⟨_, _, _, hv⟩
                · exact ⟨_, _, _, hv⟩
              have K1 := Lib.hid (K.out w1 HB1 hb1.size)
              clear hown1 hgr hrow hr0 K hown hbd HB1
              go_wp2_with fail
              refine K1.out.mono ?_
              rintro e w2 ⟨rfl, hbd2, hb2, hk2'⟩
              have hown2 := Lib.hid (ownsI_others HOWN1.out hk2' hne1.out)
              clear HOWN1 hk2'
              go_wp2_with fail
              go_round
              case rel => exact ⟨k + 2, acc ++ [d], us ++ [k], by omega, by omega, (by rw [HKM.out]; go_num), by simp; omega, by simp; omega, hn, hown2, hbd2, hne1, hb1.trans hb2⟩
              case measure => have := HKM.out; simp [intOf]; omega
      · have g92 : ((c.toNat : Int) == 92) = false := by simpa using h92
        have hn := Lib.hid (hat.out.plain (by rw [HLEN.out]; exact hlt) hatc.out (ne_byte (d := 92) rfl h92))
        have K := Lib.hid (writeb_any w.heap.size w.heap.size acc c _ rfl wr hbd (by omega) hBr)
        clear hat hatc h92
        go_wp2_with fail
        refine K.out.mono ?_
        rintro e w1 ⟨rfl, hbd1, hb1, hk1'⟩
        have hown1 := Lib.hid (ownsI_others hown.out hk1' hne.out)
        clear hown hk1'
        go_wp2_with fail
        go_round
        case rel => exact ⟨k + 1, acc ++ [c], us, by omega, by omega, by go_num, by simp; omega, by omega, hn, hown1, hbd1, hne, hb.trans hb1⟩
        case measure => simp [intOf]; omega
    · have hfin := Lib.hid (hat.out.done (by rw [HLEN.out]; omega))
      have hl1 : ¬ (k : Int) < (s.size : Int) - 1 := by omega
      clear hat
      go_wp2_with fail
      refine (Tryz.Builder_String_any_k w.heap.size w.heap.size acc wr (Lib.IsBuilderF.of hbd.out) hBr).mono ?_
      rintro e w1 ⟨rfl, _, hb1, hk1'⟩
      have hown1 := Lib.hid (ownsI_others hown.out hk1' hne.out)
      clear hown hk1'
      go_wp2_with fail
      go_ret2
      exact ⟨u3, (by rw [hfin.out]; rfl), (by rw [hfin.out]; exact hown1), hb.trans hb1⟩
end Go.Proofs.YtcpojagfnpajeaaGreatDoorR.Ps

namespace Go.Proofs.YtcpojagfnpajeaaGreatDoorR.Ps
open Go.RowKit

/-- The two variables of strconv hold errors. -/
def Vars (w : World) : Prop := (∃ ev, w.cell? ⟨1, 0, none⟩ = some ev ∧ (ev = .nilIface ∨ ∃ te pe, ev = .iface te pe)) ∧ ∃ ev, w.cell? ⟨2, 0, none⟩ = some ev ∧ (ev = .nilIface ∨ ∃ te pe, ev = .iface te pe)
theorem Vars.lt {w : World} (h : Vars w) : 2 < w.heap.size := by
  obtain ⟨_, ev, h, _⟩ := h
  exact Lib.lt_of_cell h
theorem Vars.of_cells {w w' : World} (h : Vars w) (h1 : w'.heap[1]? = w.heap[1]?) (h2 : w'.heap[2]? = w.heap[2]?) : Vars w' := by
  obtain ⟨⟨a, p1, p2⟩, c, p3, p4⟩ := h
  exact ⟨⟨a, (World.cell?_of_block h1).trans p1, p2⟩, c, (World.cell?_of_block h2).trans p3, p4⟩
theorem Vars.below {w w' : World} (h : Vars w) (hb : Below w.heap.size w w') : Vars w' :=
  h.of_cells (hb.block _ (by have := h.lt; omega)) (hb.block _ (by have := h.lt; omega))

/-- Atoi of what is no numeral. -/
theorem atoi_bad (s : ByteArray) (hlim : s.size ≤ 281474976710656) (h1 : ∀ v, Lib.atoiAll (Lx.L s) ≠ .ok v) (h2 : Lib.atoiAll (Lx.L s) ≠ .range) (ev : Value) (w : World) (hv : w.cell? ⟨1, 0, none⟩ = some ev) (hev : ev = .nilIface ∨ ∃ te pe, ev = .iface te pe) :
    Calls Tryz.prog 230 #[.string s] w fun e w' => ∃ te pe, e = .returned (.tuple #[.int .i64 0, .iface te pe]) ∧ Below w.heap.size w w' := by
  rcases h : Lib.atoiAll (Lx.L s) with v | _ | _
  · exact absurd h (h1 v)
  · refine Calls.mono (Any.strconv_Atoi_syntax Tryz.laysC172 s hlim h ev w hv hev) ?_
    rintro e w' ⟨N, rfl, _, _, hb⟩
    exact ⟨_, _, rfl, hb⟩
  · exact absurd h h2

set_option maxHeartbeats 1000000 in
theorem int_any (s : ByteArray) (w : World) (hs : s.size ≤ 2000) (hv : Vars w) :
    Calls Tryz.prog 168 #[.string s] w fun e w' => e = .returned (.tuple #[.int .i64 (intV (Lx.L s)).1, .bool (intV (Lx.L s)).2]) ∧ Below w.heap.size w w' := by
  rcases h : Lib.atoiAll (Lx.L s) with v | _ | _
  ·
    have K := Lib.hid (Tryz.strconv_Atoi_ok s (by omega) v h w)
    have hv : intV (Lx.L s) = if 2147483647 < v then (2147483647, false) else (v, true) := by unfold intV; rw [h]
    rw [hv]
    clear h hv
    have hW : ∀ w1, (w1 = w ∨ ∃ t, w1 = Lib.bytesWorld w 5 t) → Below w.heap.size w w1 := by
      rintro w1 (rfl | ⟨t, rfl⟩)
      · exact Below.refl _ _
      · exact Lib.bytesWorld_below _ _ _
    by_cases hlt : 2147483647 < v
    · simp only [if_pos hlt]
      go_enter Tryz.func168, Tryz.ntmps168
      go_wp2_with (go_at_call 230; refine K.out.mono ?_; rintro e w1 ⟨rfl, hw⟩)
      go_ret2
      exact ⟨rfl, hW _ hw⟩
    · simp only [if_neg hlt]
      go_enter Tryz.func168, Tryz.ntmps168
      go_wp2_with (go_at_call 230; refine K.out.mono ?_; rintro e w1 ⟨rfl, hw⟩)
      go_ret2
      exact ⟨rfl, hW _ hw⟩
  ·
    obtain ⟨⟨ev, h1, h2⟩, _⟩ := hv
    have K := Lib.hid (atoi_bad s (by omega) (by intro v e; rw [h] at e; cases e) (by rw [h]; intro e; cases e) ev w h1 h2)
    have hv : intV (Lx.L s) = (2147483647, false) := by unfold intV; rw [h]
    rw [hv]
    clear h hv h1 h2
    go_enter Tryz.func168, Tryz.ntmps168
    go_wp2_with (go_at_call 230; refine K.out.mono ?_; rintro e w1 ⟨te, pe, rfl, hw⟩)
    go_ret2
    exact ⟨rfl, hw⟩
  ·
    obtain ⟨_, ev, h1, h2⟩ := hv
    have K := Lib.hid (Tryz.strconv_Atoi_range s (by omega) h ev w h1 h2)
    have hv : intV (Lx.L s) = (2147483647, false) := by unfold intV; rw [h]
    rw [hv]
    clear h hv h1 h2
    generalize Lib.atoiSat s.data.toList = z at K
    go_enter Tryz.func168, Tryz.ntmps168
    go_wp2_with (go_at_call 230; refine K.out.mono ?_; rintro e w1 ⟨N, rfl, _, _, hw⟩)
    go_ret2
    exact ⟨rfl, hw⟩

/-- What a call leaves alone that reports to the builder at b, whose diagnostics lie in v's block (then in v''s). -/
structure Rep (b : Nat) (v v' : Value) (w w' : World) : Prop where
  fr : Fr (fun j => j < w.heap.size ∧ j ≠ b ∧ v.ownBlock ≠ some j) w w'
  row : ∀ g, v'.ownBlock = some g → v.ownBlock = some g ∨ w.heap.size ≤ g
theorem Rep.refl (b : Nat) (v : Value) (w : World) : Rep b v v w w := ⟨Fr.refl _ _, fun _ h => Or.inl h⟩
theorem Rep.trans {b : Nat} {v1 v2 v3 : Value} {a c d : World} (h : Rep b v1 v2 a c) (h' : Rep b v2 v3 c d) : Rep b v1 v3 a d := by
  refine ⟨h.fr.trans (h'.fr.sub ?_), fun g hg => ?_⟩
  · rintro j ⟨h1, h2, h3⟩
    refine ⟨Nat.lt_of_lt_of_le h1 h.fr.size, h2, fun e => ?_⟩
    rcases h.row j e with e | e
    · exact h3 e
    · omega
  · rcases h'.row g hg with e | e
    · exact h.row g e
    · exact Or.inr (Nat.le_trans h.fr.size e)
theorem Rep.of_below {b : Nat} (v : Value) {w w' : World} (h : Below w.heap.size w w') : Rep b v v w w' := ⟨Fr.of_below h fun _ hj => hj.1, fun _ h => Or.inl h⟩
theorem BldIn.below {w w' : World} {b n0 o : Nat} {src : List UInt8} {v : Value} {d : List Dg} (h : BldIn w b n0 src o v d) (hb : Below w.heap.size w w') : BldIn w' b n0 src o v d :=
  ⟨(hb.block _ (Array.getElem?_eq_some_iff.1 h.hb).1).trans h.hb, owns_below h.own hb, h.ne, h.nb⟩
theorem BldIn.lt {w : World} {b n0 o : Nat} {src : List UInt8} {v : Value} {d : List Dg} (h : BldIn w b n0 src o v d) : b < w.heap.size := (Array.getElem?_eq_some_iff.1 h.hb).1

set_option maxHeartbeats 2000000 in
set_option maxRecDepth 100000 in
theorem report_any (b n0 o : Nat) (src : List UInt8) (v : Value) (d : List Dg) (c s e : Int) (w : World) (h : BldIn w b n0 src o v d) (hn : n0 ≤ w.heap.size) (hd : d.length ≤ 1000000) :
    Calls Tryz.prog 108 #[.pointer (some ⟨b, 0, none⟩), .int .i64 c, .int .i64 s, .int .i64 e] w fun e' w' => e' = .returned (.tuple #[]) ∧ ∃ v', BldIn w' b n0 src o v' (d ++ [⟨c, s, e⟩]) ∧ Rep b v v' w w' := by
  obtain ⟨i0, hi, hz0, hz1, hz2⟩ := info_parts info_dg
  obtain ⟨hb, hown, hne, hnb⟩ := h
  obtain ⟨c0, c1, c2, f0, f1, f2⟩ := three_facts hb
  have hlt : b < w.heap.size := (Array.getElem?_eq_some_iff.1 hb).1
  have HNE := Lib.hid hne
  go_enter Tryz.func108, Tryz.ntmps108
  go_wp2_with (at_builtin; refine wpList_append_src rfl _ _ 37 rfl n0 73 i0 _ 5 48 Tryz.underlying37 hi hz0 hz1 hz2 rfl (by decide) _ _ _ rfl (hown.alloc _) _ 1 (dgCells ⟨c, s, e⟩) rfl (src_lit w (dgCells ⟨c, s, e⟩) 73 1 5 1 rfl (fun u hu => dcl_one [⟨c, s, e⟩] u (by simpa [dcl] using hu))) ?c3 ?c4 ?c5 ?_)
  case c3 => unfold maxLen; omega
  case c4 => omega
  case c5 => simp; omega
  intro v' w1 hown1 hgr hrow
  have hb1 : w1.heap[b]? = some (.cells #[.string (Lx.bs src), .int .i64 o, v] 104 (0, 0)) := by
    rw [hgr.block b (by simp; omega) (fun e => HNE.out e.symm), Lib.alloc_old w _ b hlt]
    exact hb
  obtain ⟨d0, d1, d2, g0, g1, g2⟩ := three_facts hb1
  have hb2 := set_three2 (u := v') hb1
  have hl1 : w.heap.size + 1 ≤ w1.heap.size := by have := hgr.size; simpa using this
  have hne1 : v'.ownBlock ≠ some b := by
    rcases hrow with e | e
    · rw [e]; exact hne
    · rw [e]; simp; omega
  have HOWN : Hid (OwnsD (w1.setCell ⟨b, 2, none⟩ v') n0 v' (d ++ [⟨c, s, e⟩])) := by
    show World.ownsRow _ _ _ _ _ _ _
    rw [dcl_append, List.length_append]
    exact owns_set (by simpa [dcl] using hown1) _ _ hne1
  have HR : Hid (Rep b v v' w (w1.setCell ⟨b, 2, none⟩ v')) := by
    refine ⟨⟨hgr.os, hgr.tape, hgr.output, by simp; omega, ?_⟩, fun g hg => ?_⟩
    · rintro j ⟨h1, h2, h3⟩
      rw [heap_setCell_other w1 ⟨b, 2, none⟩ j v' (fun e => h2 e), hgr.block j (by simp; omega) (fun e => h3 e.symm), Lib.alloc_old w _ j h1]
    · rcases hrow with e | e
      · exact Or.inl (e ▸ hg)
      · rw [e] at hg; simp at hg; exact Or.inr (by omega)
  obtain ⟨ao, n', cap, rfl⟩ : ∃ ao n' cap, v' = .slice ao n' cap := by
    rcases hown1.2 with ⟨hv, _⟩ | ⟨g, cap, cur, hv, _⟩
    · exact ⟨_, _, _, hv⟩
    · exact ⟨_, _, _, hv⟩
  clear hown1 hgr hrow hown
  go_wp2_with fail
  first | go_end0 | refine bodyPost_ret (results_none rfl _ _ _) rfl ?_
  exact ⟨rfl, _, ⟨hb2, HOWN.out, hne1, hnb⟩, HR.out⟩

theorem toL (t : List UInt8) : (Lx.bs t).toList = t := by rw [ByteArray.toList_eq]; simp [Lx.bs]
theorem toL_eq {t u : List UInt8} (h : t = u) : ((Lx.bs t).toList == u) = true := by rw [toL, h]; simp
theorem toL_ne {t u : List UInt8} (h : ¬ t = u) : ((Lx.bs t).toList == u) = false := by rw [toL]; simpa using h
theorem toL_nil {t : List UInt8} (h : t = []) : (Lx.bs t).toList.isEmpty = true := by rw [toL, h]; rfl
theorem toL_some {t : List UInt8} (h : ¬ t = []) : (Lx.bs t).toList.isEmpty = false := by rw [toL]; simpa using h
set_option maxHeartbeats 1000000 in
theorem sig_any (k : Int) (t : List UInt8) (c : Value) (w : World) :
    Calls Tryz.prog 106 #[.agg #[.int .i64 k, .string (Lx.bs t), c]] w fun e w' => e = .returned (.bool (sigT k t)) ∧ Below w.heap.size w w' := by
  have hB : ∀ k u, Below w.heap.size w (w.alloc (.cells #[.int .i64 k, .string u, c] 25)) := fun k u => (Below.refl _ _).alloc (Nat.le_refl _) _
  have HT : Hid (sigT k t = (k != 101 && k != 102 && !(Lx.bs t).toList.isEmpty)) := by
    show _ = _
    unfold sigT
    by_cases ht : t = []
    · rw [toL_nil ht, ht]; rfl
    · rw [toL_some ht]; simp [ht]
  generalize sigT k t = r at *
  generalize Lx.bs t = u at *
  by_cases h1 : k = 101
  · go_enter Tryz.func106, Tryz.ntmps106
    go_wp2_with fail
    go_ret
    exact ⟨by rw [HT.out, h1]; rfl, hB _ _⟩
  · by_cases h2 : k = 102
    · go_enter Tryz.func106, Tryz.ntmps106
      go_wp2_with fail
      go_ret
      exact ⟨by rw [HT.out, h2]; rfl, hB _ _⟩
    · have b1 : (k != 101) = true := by simpa using h1
      have b2 : (k != 102) = true := by simpa using h2
      have HT2 : Hid (r = !u.toList.isEmpty) := by show _ = _; rw [HT.out, b1, b2]; simp
      clear HT b1 b2
      go_enter Tryz.func106, Tryz.ntmps106
      go_wp2_with fail
      go_ret
      exact ⟨by rw [HT2.out]; simp [h1, h2], hB _ _⟩

set_option maxHeartbeats 1000000 in
theorem keyv_any (t : List UInt8) (w : World) :
    Calls Tryz.prog 171 #[.string (Lx.bs t)] w fun e w' => e = .returned (.int .i64 (keyV2 t : Nat)) ∧ w' = w := by
  by_cases h1 : t = [112, 117, 98]
  · have e1 := toL_eq h1
    have HK : Hid (keyV2 t = 1) := by show _ = _; rw [h1]; rfl
    rw [HK.out]
    clear h1 HK
    go_enter Tryz.func171, Tryz.ntmps171
    go_wp2_with fail
    go_ret
    exact ⟨rfl, rfl⟩
  · have e1 := toL_ne h1
    by_cases h2 : t = [109, 117, 116]
    · have e2 := toL_eq h2
      have HK : Hid (keyV2 t = 1) := by show _ = _; rw [h2]; rfl
      rw [HK.out]
      clear h1 h2 HK
      go_enter Tryz.func171, Tryz.ntmps171
      go_wp2_with fail
      go_ret
      exact ⟨rfl, rfl⟩
    · have e2 := toL_ne h2
      by_cases h3 : t = [116, 114, 117, 101]
      · have e3 := toL_eq h3
        have HK : Hid (keyV2 t = 1) := by show _ = _; rw [h3]; rfl
        rw [HK.out]
        clear h1 h2 h3 HK
        go_enter Tryz.func171, Tryz.ntmps171
        go_wp2_with fail
        go_ret
        exact ⟨rfl, rfl⟩
      · have e3 := toL_ne h3
        have HK : Hid (keyV2 t = 0) := by show _ = _; unfold keyV2; simp [h1, h2, h3]
        rw [HK.out]
        clear h1 h2 h3 HK
        go_enter Tryz.func171, Tryz.ntmps171
        go_wp2_with fail
        go_ret
        exact ⟨rfl, rfl⟩

theorem named_no {k : Int} (h : named k = false) : k ≠ 2 ∧ k ≠ 3 ∧ k ≠ 4 ∧ k ≠ 5 ∧ k ≠ 6 ∧ k ≠ 8 ∧ k ≠ 9 ∧ k ≠ 11 ∧ k ≠ 13 ∧ k ≠ 14 ∧ k ≠ 15 ∧ k ≠ 16 ∧ k ≠ 18 ∧ k ≠ 31 ∧ k ≠ 32 ∧ k ≠ 34 ∧ k ≠ 44 := by
  unfold named at h
  simp at h
  omega
theorem named_yes {k : Int} (h : named k = true) : k = 2 ∨ k = 3 ∨ k = 4 ∨ k = 5 ∨ k = 6 ∨ k = 8 ∨ k = 9 ∨ k = 11 ∨ k = 13 ∨ k = 14 ∨ k = 15 ∨ k = 16 ∨ k = 18 ∨ k = 31 ∨ k = 32 ∨ k = 34 ∨ k = 44 := by
  unfold named at h
  simp at h
  omega
set_option maxHeartbeats 2000000 in
theorem named_any (k : Int) (w : World) :
    Calls Tryz.prog 170 #[.int .i64 k] w fun e w' => e = .returned (.bool (named k)) ∧ w' = w := by
  cases h : named k with
  | false =>
    obtain ⟨h0, h1, h2, h3, h4, h5, h6, h7, h8, h9, h10, h11, h12, h13, h14, h15, h16⟩ := named_no h
    clear h
    go_enter Tryz.func170, Tryz.ntmps170
    go_wp2_with fail
    go_ret
    exact ⟨rfl, rfl⟩
  | true =>
    rcases named_yes h with rfl | rfl | rfl | rfl | rfl | rfl | rfl | rfl | rfl | rfl | rfl | rfl | rfl | rfl | rfl | rfl | rfl
    all_goals
      clear h
      go_enter Tryz.func170, Tryz.ntmps170
      go_wp2_with fail
      go_ret
      exact ⟨rfl, rfl⟩
end Go.Proofs.YtcpojagfnpajeaaGreatDoorR.Ps

namespace Go.Proofs.YtcpojagfnpajeaaGreatDoorR.Ps
open Go.RowKit

theorem unqL_lt : ∀ (n i : Nat) (l : List UInt8), l.length ≤ n → (∀ u ∈ (unqL i l).2, u ≤ i + l.length) ∧ (unqL i l).2.length ≤ l.length ∧ (unqL i l).1.length ≤ l.length
  | _, i, [], _ => ⟨fun u hu => by simp [unqL] at hu, by simp [unqL], by simp [unqL]⟩
  | _, i, [_], _ => ⟨fun u hu => by simp [unqL] at hu, by simp [unqL], by simp [unqL]⟩
  | 0, _, _ :: _ :: _, h => by simp at h
  | n + 1, i, c :: d :: r, h => by
    simp only [List.length_cons] at h
    have h1 := unqL_lt n (i + 2) r (by omega)
    have h2 := unqL_lt n (i + 1) (d :: r) (by simp only [List.length_cons]; omega)
    simp only [List.length_cons] at h2
    unfold unqL
    split
    · dsimp only
      split
      · exact ⟨fun u hu => by have := h1.1 u hu; simp only [List.length_cons]; omega, by simp only [List.length_cons]; omega, by simp only [List.length_cons]; omega⟩
      · split
        · exact ⟨fun u hu => by have := h1.1 u hu; simp only [List.length_cons]; omega, by simp only [List.length_cons]; omega, by simp only [List.length_cons]; omega⟩
        · refine ⟨fun u hu => ?_, by simp only [List.length_cons]; omega, by simp only [List.length_cons]; omega⟩
          simp only [List.mem_cons] at hu
          simp only [List.length_cons]
          rcases hu with rfl | hu
          · omega
          · have := h1.1 u hu; omega
    · exact ⟨fun u hu => by have := h2.1 u hu; simp only [List.length_cons]; omega, by simp only [List.length_cons]; omega, by simp only [List.length_cons]; omega⟩
theorem unq_lt (l : List UInt8) : (∀ u ∈ (unq l).2, u ≤ 1 + l.length) ∧ (unq l).2.length ≤ l.length ∧ (unq l).1.length ≤ l.length := by
  have h := unqL_lt (l.drop 1).length 1 (l.drop 1) (Nat.le_refl _)
  have hl : (l.drop 1).length ≤ l.length := by simp
  exact ⟨fun u hu => by have := h.1 u hu; omega, Nat.le_trans h.2.1 hl, Nat.le_trans h.2.2 hl⟩

abbrev sBox (k : Int) (u : ByteArray) (c : Value) : Obj := .cells #[.int .i64 k, .string u, c] 25

theorem take_map {α : Type} {l : List Nat} {i : Nat} {u : Nat} (f : Nat → α) (h : l[i]? = some u) : (l.take (i + 1)).map f = (l.take i).map f ++ [f u] := by
  rw [List.take_add_one, h]; simp

set_option maxHeartbeats 2000000 in
set_option maxRecDepth 100000 in
theorem check_108n (b n0 o off : Nat) (src : List UInt8) (v : Value) (d : List Dg) (t : List UInt8) (c : Value) (w : World) (h : BldIn w b n0 src off v d) (hn : n0 ≤ w.heap.size) (hd : d.length ≤ 900000) (ht : t.length ≤ 2000) (ho : o ≤ 100000) (hv : Vars w) (h0 : t = []) :
    Calls Tryz.prog 105 #[.pointer (some ⟨b, 0, none⟩), .agg #[.int .i64 108, .string (Lx.bs t), c], .int .i64 o] w fun e w' => e = .returned (.tuple #[]) ∧ ∃ v', BldIn w' b n0 src off v' (d ++ tokD 108 t o) ∧ Rep b v v' w w' := by
  have hsz : (Lx.bs t).size = t.length := Lx.bs_size t
  have HLT : Hid (Lx.L (Lx.bs t) = t) := Lx.L_bs t
  have e0 := toL_nil h0
  have HD : Hid (tokD 108 t o = [⟨1, o, (o : Int) + t.length⟩]) := by show _ = _; rw [h0]; rfl
  rw [HD.out]
  clear h0 HD
  generalize Lx.bs t = u at *

  have hb0 : Below w.heap.size w (w.alloc (sBox 108 u c)) := (Below.refl _ _).alloc (Nat.le_refl _) _
  obtain ⟨W, hW⟩ : ∃ W, W = w.alloc (sBox 108 u c) := ⟨_, rfl⟩
  rw [← hW] at hb0
  have hbox : W.heap[w.heap.size]? = some (sBox 108 u c) := by rw [hW]; exact heap_alloc_new w _
  obtain ⟨x0, x1, x2, _, _, _⟩ := three_facts hbox
  have hWl : w.heap.size < W.heap.size := (Array.getElem?_eq_some_iff.1 hbox).1
  have HV := Lib.hid (hv.below hb0)
  have HBL := Lib.hid (h.below hb0)
  have HRP := Lib.hid (Rep.of_below (b := b) v hb0)
  have K := Lib.hid (fun cc ss ee => report_any b n0 off src v d cc ss ee W HBL.out (by omega) (by omega))
  have hlt := Lib.hid h.lt
  have hvl := Lib.hid (fun g (hg : v.ownBlock = some g) => (World.ownsRow.lt h.own g hg).2)
  clear hb0 hv h
  go_enter Tryz.func105, Tryz.ntmps105
  go_wp2_with fail
  rw [show World.alloc w (sBox 108 u c) = W from hW.symm]
  refine (K.out _ _ _).mono ?_
  rintro e w1 ⟨rfl, v', hb1, hr1⟩
  go_wp2_with fail
  first | go_end0 | refine bodyPost_ret (results_none rfl _ _ _) rfl ?_
  exact ⟨rfl, v', hb1, HRP.out.trans hr1⟩

set_option maxHeartbeats 2000000 in
set_option maxRecDepth 100000 in
theorem check_108s (b n0 o off : Nat) (src : List UInt8) (v : Value) (d : List Dg) (t : List UInt8) (c : Value) (w : World) (h : BldIn w b n0 src off v d) (hn : n0 ≤ w.heap.size) (hd : d.length ≤ 900000) (ht : t.length ≤ 2000) (ho : o ≤ 100000) (hv : Vars w) (h0 : ¬ t = []) :
    Calls Tryz.prog 105 #[.pointer (some ⟨b, 0, none⟩), .agg #[.int .i64 108, .string (Lx.bs t), c], .int .i64 o] w fun e w' => e = .returned (.tuple #[]) ∧ ∃ v', BldIn w' b n0 src off v' (d ++ tokD 108 t o) ∧ Rep b v v' w w' := by
  have hsz : (Lx.bs t).size = t.length := Lx.bs_size t
  have HLT : Hid (Lx.L (Lx.bs t) = t) := Lx.L_bs t
  have e0 := toL_some h0
  have HD : Hid (tokD 108 t o = [⟨3, o, (o : Int) + t.length⟩]) := by show _ = _; unfold tokD; simp [h0]
  rw [HD.out]
  clear h0 HD
  generalize Lx.bs t = u at *

  have hb0 : Below w.heap.size w (w.alloc (sBox 108 u c)) := (Below.refl _ _).alloc (Nat.le_refl _) _
  obtain ⟨W, hW⟩ : ∃ W, W = w.alloc (sBox 108 u c) := ⟨_, rfl⟩
  rw [← hW] at hb0
  have hbox : W.heap[w.heap.size]? = some (sBox 108 u c) := by rw [hW]; exact heap_alloc_new w _
  obtain ⟨x0, x1, x2, _, _, _⟩ := three_facts hbox
  have hWl : w.heap.size < W.heap.size := (Array.getElem?_eq_some_iff.1 hbox).1
  have HV := Lib.hid (hv.below hb0)
  have HBL := Lib.hid (h.below hb0)
  have HRP := Lib.hid (Rep.of_below (b := b) v hb0)
  have K := Lib.hid (fun cc ss ee => report_any b n0 off src v d cc ss ee W HBL.out (by omega) (by omega))
  have hlt := Lib.hid h.lt
  have hvl := Lib.hid (fun g (hg : v.ownBlock = some g) => (World.ownsRow.lt h.own g hg).2)
  clear hb0 hv h
  go_enter Tryz.func105, Tryz.ntmps105
  go_wp2_with fail
  rw [show World.alloc w (sBox 108 u c) = W from hW.symm]
  refine (K.out _ _ _).mono ?_
  rintro e w1 ⟨rfl, v', hb1, hr1⟩
  go_wp2_with fail
  first | go_end0 | refine bodyPost_ret (results_none rfl _ _ _) rfl ?_
  exact ⟨rfl, v', hb1, HRP.out.trans hr1⟩

set_option maxHeartbeats 2000000 in
set_option maxRecDepth 100000 in
theorem check_103l (b n0 o off : Nat) (src : List UInt8) (v : Value) (d : List Dg) (t : List UInt8) (c : Value) (w : World) (h : BldIn w b n0 src off v d) (hn : n0 ≤ w.heap.size) (hd : d.length ≤ 900000) (ht : t.length ≤ 2000) (ho : o ≤ 100000) (hv : Vars w) (h0 : 30 < t.length) :
    Calls Tryz.prog 105 #[.pointer (some ⟨b, 0, none⟩), .agg #[.int .i64 103, .string (Lx.bs t), c], .int .i64 o] w fun e w' => e = .returned (.tuple #[]) ∧ ∃ v', BldIn w' b n0 src off v' (d ++ tokD 103 t o) ∧ Rep b v v' w w' := by
  have hsz : (Lx.bs t).size = t.length := Lx.bs_size t
  have HLT : Hid (Lx.L (Lx.bs t) = t) := Lx.L_bs t
  have HD : Hid (tokD 103 t o = [⟨5, o, (o : Int) + t.length⟩]) := by show _ = _; unfold tokD; simp [h0]
  rw [HD.out]
  clear HD
  generalize Lx.bs t = u at *

  have hb0 : Below w.heap.size w (w.alloc (sBox 103 u c)) := (Below.refl _ _).alloc (Nat.le_refl _) _
  obtain ⟨W, hW⟩ : ∃ W, W = w.alloc (sBox 103 u c) := ⟨_, rfl⟩
  rw [← hW] at hb0
  have hbox : W.heap[w.heap.size]? = some (sBox 103 u c) := by rw [hW]; exact heap_alloc_new w _
  obtain ⟨x0, x1, x2, _, _, _⟩ := three_facts hbox
  have hWl : w.heap.size < W.heap.size := (Array.getElem?_eq_some_iff.1 hbox).1
  have HV := Lib.hid (hv.below hb0)
  have HBL := Lib.hid (h.below hb0)
  have HRP := Lib.hid (Rep.of_below (b := b) v hb0)
  have K := Lib.hid (fun cc ss ee => report_any b n0 off src v d cc ss ee W HBL.out (by omega) (by omega))
  have hlt := Lib.hid h.lt
  have hvl := Lib.hid (fun g (hg : v.ownBlock = some g) => (World.ownsRow.lt h.own g hg).2)
  clear hb0 hv h
  go_enter Tryz.func105, Tryz.ntmps105
  go_wp2_with fail
  rw [show World.alloc w (sBox 103 u c) = W from hW.symm]
  refine (K.out _ _ _).mono ?_
  rintro e w1 ⟨rfl, v', hb1, hr1⟩
  go_wp2_with fail
  first | go_end0 | refine bodyPost_ret (results_none rfl _ _ _) rfl ?_
  exact ⟨rfl, v', hb1, HRP.out.trans hr1⟩

set_option maxHeartbeats 2000000 in
set_option maxRecDepth 100000 in
theorem check_103s (b n0 o off : Nat) (src : List UInt8) (v : Value) (d : List Dg) (t : List UInt8) (c : Value) (w : World) (h : BldIn w b n0 src off v d) (hn : n0 ≤ w.heap.size) (hd : d.length ≤ 900000) (ht : t.length ≤ 2000) (ho : o ≤ 100000) (hv : Vars w) (h0 : ¬ 30 < t.length) :
    Calls Tryz.prog 105 #[.pointer (some ⟨b, 0, none⟩), .agg #[.int .i64 103, .string (Lx.bs t), c], .int .i64 o] w fun e w' => e = .returned (.tuple #[]) ∧ ∃ v', BldIn w' b n0 src off v' (d ++ tokD 103 t o) ∧ Rep b v v' w w' := by
  have hsz : (Lx.bs t).size = t.length := Lx.bs_size t
  have HLT : Hid (Lx.L (Lx.bs t) = t) := Lx.L_bs t
  have HD : Hid (tokD 103 t o = []) := by show _ = _; unfold tokD; simp [h0]
  rw [HD.out]
  clear HD
  generalize Lx.bs t = u at *

  have hb0 : Below w.heap.size w (w.alloc (sBox 103 u c)) := (Below.refl _ _).alloc (Nat.le_refl _) _
  obtain ⟨W, hW⟩ : ∃ W, W = w.alloc (sBox 103 u c) := ⟨_, rfl⟩
  rw [← hW] at hb0
  have hbox : W.heap[w.heap.size]? = some (sBox 103 u c) := by rw [hW]; exact heap_alloc_new w _
  obtain ⟨x0, x1, x2, _, _, _⟩ := three_facts hbox
  have hWl : w.heap.size < W.heap.size := (Array.getElem?_eq_some_iff.1 hbox).1
  have HV := Lib.hid (hv.below hb0)
  have HBL := Lib.hid (h.below hb0)
  have HRP := Lib.hid (Rep.of_below (b := b) v hb0)
  have K := Lib.hid (fun cc ss ee => report_any b n0 off src v d cc ss ee W HBL.out (by omega) (by omega))
  have hlt := Lib.hid h.lt
  have hvl := Lib.hid (fun g (hg : v.ownBlock = some g) => (World.ownsRow.lt h.own g hg).2)
  clear hb0 hv h
  clear K
  go_enter Tryz.func105, Tryz.ntmps105
  go_wp2_with fail
  rw [show World.alloc w (sBox 103 u c) = W from hW.symm]
  first | go_end0 | refine bodyPost_ret (results_none rfl _ _ _) rfl ?_
  exact ⟨rfl, v, by rw [List.append_nil]; exact HBL.out, HRP.out⟩

set_option maxHeartbeats 2000000 in
set_option maxRecDepth 100000 in
theorem check_105y (b n0 o off : Nat) (src : List UInt8) (v : Value) (d : List Dg) (t : List UInt8) (c : Value) (w : World) (h : BldIn w b n0 src off v d) (hn : n0 ≤ w.heap.size) (hd : d.length ≤ 900000) (ht : t.length ≤ 2000) (ho : o ≤ 100000) (hv : Vars w) (h0 : (intV t).2 = true) :
    Calls Tryz.prog 105 #[.pointer (some ⟨b, 0, none⟩), .agg #[.int .i64 105, .string (Lx.bs t), c], .int .i64 o] w fun e w' => e = .returned (.tuple #[]) ∧ ∃ v', BldIn w' b n0 src off v' (d ++ tokD 105 t o) ∧ Rep b v v' w w' := by
  have hsz : (Lx.bs t).size = t.length := Lx.bs_size t
  have HLT : Hid (Lx.L (Lx.bs t) = t) := Lx.L_bs t
  have HINT := Lib.hid (fun W V => int_any (Lx.bs t) W (by omega) V)
  rw [HLT.out] at HINT
  rw [h0] at HINT
  have HD : Hid (tokD 105 t o = []) := by show _ = _; unfold tokD; simp [h0]
  rw [HD.out]
  clear HD h0
  generalize (intV t).1 = z at HINT
  generalize Lx.bs t = u at *

  have hb0 : Below w.heap.size w (w.alloc (sBox 105 u c)) := (Below.refl _ _).alloc (Nat.le_refl _) _
  obtain ⟨W, hW⟩ : ∃ W, W = w.alloc (sBox 105 u c) := ⟨_, rfl⟩
  rw [← hW] at hb0
  have hbox : W.heap[w.heap.size]? = some (sBox 105 u c) := by rw [hW]; exact heap_alloc_new w _
  obtain ⟨x0, x1, x2, _, _, _⟩ := three_facts hbox
  have hWl : w.heap.size < W.heap.size := (Array.getElem?_eq_some_iff.1 hbox).1
  have HV := Lib.hid (hv.below hb0)
  have HBL := Lib.hid (h.below hb0)
  have HRP := Lib.hid (Rep.of_below (b := b) v hb0)
  have K := Lib.hid (fun cc ss ee => report_any b n0 off src v d cc ss ee W HBL.out (by omega) (by omega))
  have hlt := Lib.hid h.lt
  have hvl := Lib.hid (fun g (hg : v.ownBlock = some g) => (World.ownsRow.lt h.own g hg).2)
  clear hb0 hv h
  clear K
  go_enter Tryz.func105, Tryz.ntmps105
  go_wp2_with fail
  rw [show World.alloc w (sBox 105 u c) = W from hW.symm]
  refine (HINT.out _ HV.out).mono ?_
  rintro e w1 ⟨rfl, hb1⟩
  go_wp2_with fail
  first | go_end0 | refine bodyPost_ret (results_none rfl _ _ _) rfl ?_
  exact ⟨rfl, v, by rw [List.append_nil]; exact HBL.out.below hb1, HRP.out.trans (Rep.of_below v hb1)⟩

set_option maxHeartbeats 2000000 in
set_option maxRecDepth 100000 in
theorem check_105n (b n0 o off : Nat) (src : List UInt8) (v : Value) (d : List Dg) (t : List UInt8) (c : Value) (w : World) (h : BldIn w b n0 src off v d) (hn : n0 ≤ w.heap.size) (hd : d.length ≤ 900000) (ht : t.length ≤ 2000) (ho : o ≤ 100000) (hv : Vars w) (h0 : (intV t).2 = false) :
    Calls Tryz.prog 105 #[.pointer (some ⟨b, 0, none⟩), .agg #[.int .i64 105, .string (Lx.bs t), c], .int .i64 o] w fun e w' => e = .returned (.tuple #[]) ∧ ∃ v', BldIn w' b n0 src off v' (d ++ tokD 105 t o) ∧ Rep b v v' w w' := by
  have hsz : (Lx.bs t).size = t.length := Lx.bs_size t
  have HLT : Hid (Lx.L (Lx.bs t) = t) := Lx.L_bs t
  have HINT := Lib.hid (fun W V => int_any (Lx.bs t) W (by omega) V)
  rw [HLT.out] at HINT
  rw [h0] at HINT
  have HD : Hid (tokD 105 t o = [⟨4, o, (o : Int) + t.length⟩]) := by show _ = _; unfold tokD; simp [h0]
  rw [HD.out]
  clear HD h0
  generalize (intV t).1 = z at HINT
  generalize Lx.bs t = u at *

  have hb0 : Below w.heap.size w (w.alloc (sBox 105 u c)) := (Below.refl _ _).alloc (Nat.le_refl _) _
  obtain ⟨W, hW⟩ : ∃ W, W = w.alloc (sBox 105 u c) := ⟨_, rfl⟩
  rw [← hW] at hb0
  have hbox : W.heap[w.heap.size]? = some (sBox 105 u c) := by rw [hW]; exact heap_alloc_new w _
  obtain ⟨x0, x1, x2, _, _, _⟩ := three_facts hbox
  have hWl : w.heap.size < W.heap.size := (Array.getElem?_eq_some_iff.1 hbox).1
  have HV := Lib.hid (hv.below hb0)
  have HBL := Lib.hid (h.below hb0)
  have HRP := Lib.hid (Rep.of_below (b := b) v hb0)
  have K := Lib.hid (fun cc ss ee => report_any b n0 off src v d cc ss ee W HBL.out (by omega) (by omega))
  have hlt := Lib.hid h.lt
  have hvl := Lib.hid (fun g (hg : v.ownBlock = some g) => (World.ownsRow.lt h.own g hg).2)
  clear hb0 hv h
  clear K
  go_enter Tryz.func105, Tryz.ntmps105
  go_wp2_with fail
  rw [show World.alloc w (sBox 105 u c) = W from hW.symm]
  refine (HINT.out _ HV.out).mono ?_
  rintro e w1 ⟨rfl, hb1⟩
  have K := Lib.hid (fun cc ss ee => report_any b n0 off src v d cc ss ee w1 (HBL.out.below hb1) (by have := hb1.size; omega) (by omega))
  have HRP1 := Lib.hid (HRP.out.trans (Rep.of_below (b := b) v hb1))
  clear HRP HBL hb1
  go_wp2_with fail
  refine (K.out _ _ _).mono ?_
  rintro e w2 ⟨rfl, v', hb1, hr1⟩
  go_wp2_with fail
  first | go_end0 | refine bodyPost_ret (results_none rfl _ _ _) rfl ?_
  exact ⟨rfl, v', hb1, HRP1.out.trans hr1⟩

set_option maxHeartbeats 2000000 in
set_option maxRecDepth 100000 in
theorem check_other (b n0 o off : Nat) (src : List UInt8) (v : Value) (d : List Dg) (k : Int) (t : List UInt8) (c : Value) (w : World) (h : BldIn w b n0 src off v d) (hn : n0 ≤ w.heap.size) (hd : d.length ≤ 900000) (ht : t.length ≤ 2000) (ho : o ≤ 100000) (hv : Vars w) (h1 : k ≠ 108) (h2 : k ≠ 105) (h3 : k ≠ 103) (h4 : k ≠ 106) :
    Calls Tryz.prog 105 #[.pointer (some ⟨b, 0, none⟩), .agg #[.int .i64 k, .string (Lx.bs t), c], .int .i64 o] w fun e w' => e = .returned (.tuple #[]) ∧ ∃ v', BldIn w' b n0 src off v' (d ++ tokD k t o) ∧ Rep b v v' w w' := by
  have hsz : (Lx.bs t).size = t.length := Lx.bs_size t
  have HLT : Hid (Lx.L (Lx.bs t) = t) := Lx.L_bs t
  have HD : Hid (tokD k t o = []) := by show _ = _; unfold tokD; simp [h1, h2, h3, h4]
  rw [HD.out]
  clear HD
  generalize Lx.bs t = u at *

  have hb0 : Below w.heap.size w (w.alloc (sBox k u c)) := (Below.refl _ _).alloc (Nat.le_refl _) _
  obtain ⟨W, hW⟩ : ∃ W, W = w.alloc (sBox k u c) := ⟨_, rfl⟩
  rw [← hW] at hb0
  have hbox : W.heap[w.heap.size]? = some (sBox k u c) := by rw [hW]; exact heap_alloc_new w _
  obtain ⟨x0, x1, x2, _, _, _⟩ := three_facts hbox
  have hWl : w.heap.size < W.heap.size := (Array.getElem?_eq_some_iff.1 hbox).1
  have HV := Lib.hid (hv.below hb0)
  have HBL := Lib.hid (h.below hb0)
  have HRP := Lib.hid (Rep.of_below (b := b) v hb0)
  have K := Lib.hid (fun cc ss ee => report_any b n0 off src v d cc ss ee W HBL.out (by omega) (by omega))
  have hlt := Lib.hid h.lt
  have hvl := Lib.hid (fun g (hg : v.ownBlock = some g) => (World.ownsRow.lt h.own g hg).2)
  clear hb0 hv h
  clear K
  go_enter Tryz.func105, Tryz.ntmps105
  go_wp2_with fail
  rw [show World.alloc w (sBox k u c) = W from hW.symm]
  first | go_end0 | refine bodyPost_ret (results_none rfl _ _ _) rfl ?_
  exact ⟨rfl, v, by rw [List.append_nil]; exact HBL.out, HRP.out⟩

set_option maxHeartbeats 2000000 in
set_option maxRecDepth 100000 in
theorem check_106 (b n0 o off : Nat) (src : List UInt8) (v : Value) (d : List Dg) (t : List UInt8) (c : Value) (w : World) (h : BldIn w b n0 src off v d) (hn : n0 ≤ w.heap.size) (hd : d.length ≤ 900000) (ht : t.length ≤ 2000) (ho : o ≤ 100000) (hv : Vars w) :
    Calls Tryz.prog 105 #[.pointer (some ⟨b, 0, none⟩), .agg #[.int .i64 106, .string (Lx.bs t), c], .int .i64 o] w fun e w' => e = .returned (.tuple #[]) ∧ ∃ v', BldIn w' b n0 src off v' (d ++ tokD 106 t o) ∧ Rep b v v' w w' := by
  have hsz : (Lx.bs t).size = t.length := Lx.bs_size t
  have HLT : Hid (Lx.L (Lx.bs t) = t) := Lx.L_bs t
  have HUNQ := Lib.hid (fun W => unquote_any (Lx.bs t) W (by omega))
  rw [HLT.out] at HUNQ
  have hU := unq_lt t
  have HD : Hid (tokD 106 t o = (unq t).2.map fun (i : Nat) => (⟨6, (o : Int) + (i : Int), (o : Int) + (i : Int) + 2⟩ : Dg)) := by show _ = _; unfold tokD; simp
  rw [HD.out]
  clear HD
  generalize (unq t).2 = us at *
  generalize (unq t).1 = q at *
  obtain ⟨hu1, hu2, hu3⟩ := hU
  have HU1 := Lib.hid hu1
  clear hu1
  generalize Lx.bs t = u at *

  have hb0 : Below w.heap.size w (w.alloc (sBox 106 u c)) := (Below.refl _ _).alloc (Nat.le_refl _) _
  obtain ⟨W, hW⟩ : ∃ W, W = w.alloc (sBox 106 u c) := ⟨_, rfl⟩
  rw [← hW] at hb0
  have hbox : W.heap[w.heap.size]? = some (sBox 106 u c) := by rw [hW]; exact heap_alloc_new w _
  obtain ⟨x0, x1, x2, _, _, _⟩ := three_facts hbox
  have hWl : w.heap.size < W.heap.size := (Array.getElem?_eq_some_iff.1 hbox).1
  have HV := Lib.hid (hv.below hb0)
  have HBL := Lib.hid (h.below hb0)
  have HRP := Lib.hid (Rep.of_below (b := b) v hb0)
  have K := Lib.hid (fun cc ss ee => report_any b n0 off src v d cc ss ee W HBL.out (by omega) (by omega))
  have hlt := Lib.hid h.lt
  have hvl := Lib.hid (fun g (hg : v.ownBlock = some g) => (World.ownsRow.lt h.own g hg).2)
  clear hb0 hv h
  clear K
  go_enter Tryz.func105, Tryz.ntmps105
  go_wp2_with fail
  rw [show World.alloc w (sBox 106 u c) = W from hW.symm]
  refine (HUNQ.out _).mono ?_
  rintro e w1 ⟨vu, rfl, hown, hb1⟩
  obtain ⟨a, cap, rfl, hints, hnone⟩ := hown.out.ints
  rw [usI_length] at *
  have HI := Lib.hid hints
  have HBL1 := Lib.hid (HBL.out.below hb1)
  have HRP1 := Lib.hid (HRP.out.trans (Rep.of_below (b := b) v hb1))
  have hs1 : W.heap.size ≤ w1.heap.size := hb1.size
  have HOWN : Hid (∀ j, (Value.slice a us.length cap).ownBlock = some j → W.heap.size ≤ j ∧ j < w1.heap.size) := fun j hj => World.ownsRow.lt hown.out j hj
  clear hints hnone HBL HRP hown hb1
  go_wp2_with fail
  go_loopw [67] (fun i wr => ∃ k : Nat, k ≤ us.length ∧ i = .int .i64 k ∧ ∃ v', Hid (BldIn wr b n0 src off v' (d ++ (us.take k).map fun (i : Nat) => (⟨6, (o : Int) + (i : Int), (o : Int) + (i : Int) + 2⟩ : Dg))) ∧ Hid (Rep b v v' w1 wr))
    (fun i _ => us.length - (intOf i).toNat)
  case atStart => exact ⟨0, Nat.zero_le _, rfl, v, by rw [List.take_zero, List.map_nil, List.append_nil]; exact HBL1, Lib.hid (Rep.refl b v w1)⟩
  case round =>
    obtain ⟨k, hk, rfl, v', hbl, hrp⟩ := hrel
    have hsr : w1.heap.size ≤ wr.heap.size := hrp.out.fr.size
    by_cases hlt' : k < us.length
    · have hx : us[k]? = some us[k] := List.getElem?_eq_getElem hlt'
      obtain ⟨y, hY⟩ : ∃ y, y = us[k] := ⟨_, rfl⟩
      rw [← hY] at hx
      clear hY
      have hy := HU1.out y (List.mem_of_getElem? hx)
      obtain ⟨g, go, rfl, hg, hcell⟩ := HI.out k (y : Int) (by unfold usI; rw [List.getElem?_map, hx]; rfl)
      have hgo := HOWN.out g hg
      have hcr : wr.cell? ⟨g, go + k, none⟩ = some (.int .i64 (y : Nat)) := (World.cell?_of_block (hrp.out.fr.block g ⟨hgo.2, by have := hlt.out; omega, fun e => by have := hvl.out g e; omega⟩)).trans hcell
      have HST := Lib.hid (take_map (fun (i : Nat) => (⟨6, (o : Int) + (i : Int), (o : Int) + (i : Int) + 2⟩ : Dg)) hx)
      have K := Lib.hid (fun cc ss ee => report_any b n0 off src v' _ cc ss ee wr hbl.out (by omega) (by simp only [List.length_append, List.length_map, List.length_take]; omega))
      clear hx hcell hg hgo
      have hk0 : (0 : Int) ≤ (k : Int) := by omega
      have hk1 : (k : Int) < (us.length : Int) := by omega
      go_wp2_with fail
      refine (K.out _ _ _).mono ?_
      rintro e w2 ⟨rfl, v2, hb2, hr2⟩
      go_wp2_with fail
      go_round
      case rel => exact ⟨k + 1, by omega, by go_num, v2, (by rw [HST.out, ← List.append_assoc]; exact hb2), Lib.hid (hrp.out.trans hr2)⟩
      case measure => simp [intOf]; omega
    · have hkl : k = us.length := by omega
      have hfin := Lib.hid (show us.take k = us by rw [hkl, List.take_length])
      go_wp2_with fail
      first | go_end0 | refine bodyPost_ret (results_none rfl _ _ _) rfl ?_
      exact ⟨rfl, v', (by have := hbl.out; rw [hfin.out] at this; exact this), HRP1.out.trans hrp.out⟩

set_option maxHeartbeats 2000000 in
set_option maxRecDepth 100000 in
theorem check_any (b n0 o off : Nat) (src : List UInt8) (v : Value) (d : List Dg) (k : Int) (t : List UInt8) (c : Value) (w : World) (h : BldIn w b n0 src off v d) (hn : n0 ≤ w.heap.size) (hd : d.length ≤ 900000) (ht : t.length ≤ 2000) (ho : o ≤ 100000) (hv : Vars w) :
    Calls Tryz.prog 105 #[.pointer (some ⟨b, 0, none⟩), .agg #[.int .i64 k, .string (Lx.bs t), c], .int .i64 o] w fun e w' => e = .returned (.tuple #[]) ∧ ∃ v', BldIn w' b n0 src off v' (d ++ tokD k t o) ∧ Rep b v v' w w' := by
  by_cases h1 : k = 108
  · subst h1
    by_cases h0 : t = []
    · exact check_108n b n0 o off src v d t c w h hn hd ht ho hv h0
    · exact check_108s b n0 o off src v d t c w h hn hd ht ho hv h0
  · by_cases h2 : k = 105
    · subst h2
      cases h0 : (intV t).2 with
      | true => exact check_105y b n0 o off src v d t c w h hn hd ht ho hv h0
      | false => exact check_105n b n0 o off src v d t c w h hn hd ht ho hv h0
    · by_cases h3 : k = 103
      · subst h3
        by_cases h0 : 30 < t.length
        · exact check_103l b n0 o off src v d t c w h hn hd ht ho hv h0
        · exact check_103s b n0 o off src v d t c w h hn hd ht ho hv h0
      · by_cases h4 : k = 106
        · subst h4
          exact check_106 b n0 o off src v d t c w h hn hd ht ho hv
        · exact check_other b n0 o off src v d k t c w h hn hd ht ho hv h1 h2 h3 h4
end Go.Proofs.YtcpojagfnpajeaaGreatDoorR.Ps

namespace Go.Proofs.YtcpojagfnpajeaaGreatDoorR.Ps
open Go.RowKit

theorem set7 {w : World} {b : Nat} {v0 v1 v2 v3 v4 v5 v6 u : Value} {t : TypeId} (h : w.heap[b]? = some (.cells #[v0, v1, v2, v3, v4, v5, v6] t (0, 0))) :
    (w.setCell ⟨b, 1, none⟩ u).heap[b]? = some (.cells #[v0, u, v2, v3, v4, v5, v6] t (0, 0)) ∧ (w.setCell ⟨b, 2, none⟩ u).heap[b]? = some (.cells #[v0, v1, u, v3, v4, v5, v6] t (0, 0)) ∧
    (w.setCell ⟨b, 3, none⟩ u).heap[b]? = some (.cells #[v0, v1, v2, u, v4, v5, v6] t (0, 0)) ∧ (w.setCell ⟨b, 4, none⟩ u).heap[b]? = some (.cells #[v0, v1, v2, v3, u, v5, v6] t (0, 0)) ∧
    (w.setCell ⟨b, 5, none⟩ u).heap[b]? = some (.cells #[v0, v1, v2, v3, v4, u, v6] t (0, 0)) ∧ (w.setCell ⟨b, 6, none⟩ u).heap[b]? = some (.cells #[v0, v1, v2, v3, v4, v5, u] t (0, 0)) := by
  refine ⟨?_, ?_, ?_, ?_, ?_, ?_⟩ <;> simp [World.setCell, Array.getElem?_modify, h]
theorem cells7 {w : World} {b : Nat} {v0 v1 v2 v3 v4 v5 v6 : Value} {t : TypeId} (h : w.heap[b]? = some (.cells #[v0, v1, v2, v3, v4, v5, v6] t (0, 0))) :
    w.cell? ⟨b, 0, none⟩ = some v0 ∧ w.cell? ⟨b, 1, none⟩ = some v1 ∧ w.cell? ⟨b, 2, none⟩ = some v2 ∧ w.cell? ⟨b, 3, none⟩ = some v3 ∧ w.cell? ⟨b, 4, none⟩ = some v4 ∧ w.cell? ⟨b, 5, none⟩ = some v5 ∧ w.cell? ⟨b, 6, none⟩ = some v6 := by
  refine ⟨?_, ?_, ?_, ?_, ?_, ?_, ?_⟩ <;> (rw [Lib.cell_of_heap h]; rfl)

abbrev nBox (k : Int) (a : Acc) (cv : Value) : Obj := .cells #[.int .i64 k, .int .i64 a.v, .string (Lx.bs a.t), .int .i64 a.s, .int .i64 a.e, .int .i64 a.ns, cv] 36
/-- The node that is being built at g; whether it is empty at m. -/
structure NBox (w : World) (g m : Nat) (k : Int) (a : Acc) (cv : Value) : Prop where
  hg : w.heap[g]? = some (nBox k a cv)
  hm : w.heap[m]? = some (.cells #[.bool a.em] 4 (0, 0))
  ne : g ≠ m

set_option maxHeartbeats 1000000 in
theorem cover_any (g m : Nat) (k : Int) (a : Acc) (cv : Value) (s e : Int) (w : World) (h : NBox w g m k a cv) :
    Calls Tryz.prog 104 #[.int .i64 s, .int .i64 e, .pointer (some ⟨m, 0, none⟩), .pointer (some ⟨g, 0, none⟩)] w fun e' w' => e' = .returned (.tuple #[]) ∧ NBox w' g m k (cov s e a) cv ∧ Fr (fun j => j ≠ g ∧ j ≠ m) w w' ∧ w'.heap.size = w.heap.size := by
  obtain ⟨hg, hm, hne⟩ := h
  have HG := Lib.hid hg
  have HM := Lib.hid hm
  have HNE := Lib.hid hne
  obtain ⟨m0, m1⟩ := one_facts hm
  obtain ⟨_, _, _, c3, c4, _, _⟩ := cells7 hg
  have f3 := Lib.frozen_of_heap hg 3
  have f4 := Lib.frozen_of_heap hg 4
  clear hg hm hne
  unfold cov
  cases he : a.em with
  | true =>
    rw [he] at m0
    have f4' : ∀ u, (w.setCell ⟨g, 3, none⟩ u).frozen? ⟨m, 0, none⟩ = false := fun u => (one_facts ((heap_setCell_other w ⟨g, 3, none⟩ m u (fun e => HNE.out e.symm)).trans HM.out)).2
    have c3' : ∀ u, ((w.setCell ⟨g, 3, none⟩ u)).cell? ⟨m, 0, none⟩ = some (.bool true) := fun u => (World.cell?_of_block (heap_setCell_other w ⟨g, 3, none⟩ m u (fun e => HNE.out e.symm))).trans m0
    have c4' : ∀ u u', ((w.setCell ⟨g, 3, none⟩ u).setCell ⟨m, 0, none⟩ u').cell? ⟨g, 4, none⟩ = some (.int .i64 a.e) := fun u u' => (cells7 ((heap_setCell_other _ ⟨m, 0, none⟩ g u' HNE.out).trans (set7 HG.out).2.2.1)).2.2.2.2.1
    have f5' : ∀ u u', ((w.setCell ⟨g, 3, none⟩ u).setCell ⟨m, 0, none⟩ u').frozen? ⟨g, 4, none⟩ = false := fun u u' => Lib.frozen_of_heap ((heap_setCell_other _ ⟨m, 0, none⟩ g u' HNE.out).trans (set7 HG.out).2.2.1) 4
    go_enter Tryz.func104, Tryz.ntmps104
    go_wp2_with fail
    first | go_end0 | refine bodyPost_ret (results_none rfl _ _ _) rfl ?_
    refine ⟨rfl, ⟨?_, ?_, HNE.out⟩, ⟨rfl, rfl, rfl, by simp, ?_⟩, by simp⟩
    · exact (set7 ((heap_setCell_other _ ⟨m, 0, none⟩ g _ HNE.out).trans (set7 HG.out).2.2.1)).2.2.2.1
    · rw [heap_setCell_other _ ⟨g, 4, none⟩ m _ (fun e => HNE.out e.symm)]
      exact set_one0 ((heap_setCell_other w ⟨g, 3, none⟩ m _ (fun e => HNE.out e.symm)).trans HM.out)
    · rintro j ⟨h1, h2⟩
      rw [heap_setCell_other _ ⟨g, 4, none⟩ j _ h1, heap_setCell_other _ ⟨m, 0, none⟩ j _ h2, heap_setCell_other _ ⟨g, 3, none⟩ j _ h1]
  | false =>
    rw [he] at m0
    go_enter Tryz.func104, Tryz.ntmps104
    go_wp2_with fail
    first | go_end0 | refine bodyPost_ret (results_none rfl _ _ _) rfl ?_
    refine ⟨rfl, ⟨?_, ?_, HNE.out⟩, ⟨rfl, rfl, rfl, by simp, ?_⟩, by simp⟩
    · exact (set7 HG.out).2.2.2.1
    · rw [heap_setCell_other _ ⟨g, 4, none⟩ m _ (fun e => HNE.out e.symm), HM.out, he]
    · rintro j ⟨h1, h2⟩
      rw [heap_setCell_other _ ⟨g, 4, none⟩ j _ h1]

/-- setFields changes but the node. -/
def SetPost (g : Nat) (k : Int) (a : Acc) (cv : Value) (w w' : World) : Prop := w'.heap[g]? = some (nBox k a cv) ∧ Fr (fun j => j < w.heap.size ∧ j ≠ g) w w'
theorem below_box (w : World) (o : Obj) : Below w.heap.size w (w.alloc o) := (Below.refl _ _).alloc (Nat.le_refl _) _

set_option maxHeartbeats 1500000 in
set_option maxRecDepth 100000 in
theorem set_46 (g : Nat) (tk : Int) (t : List UInt8) (c : Value) (o : Nat) (a : Acc) (cv : Value) (w : World) (hg : w.heap[g]? = some (nBox 46 a cv)) :
    Calls Tryz.prog 107 #[.pointer (some ⟨g, 0, none⟩), .agg #[.int .i64 tk, .string (Lx.bs t), c], .int .i64 o] w fun e' w' => e' = .returned (.tuple #[]) ∧ SetPost g 46 (setF 46 tk t o a) cv w w' := by
  have hb := below_box w (sBox tk (Lx.bs t) c)
  have hl : g < w.heap.size := (Array.getElem?_eq_some_iff.1 hg).1
  have HG0 := Lib.hid hg
  have hgW : Hid ((w.alloc (sBox tk (Lx.bs t) c)).heap[g]? = some (nBox 46 a cv)) := (hb.block g hl).trans hg
  have HF0 : Hid (Fr (fun j => j < w.heap.size ∧ j ≠ g) w (w.alloc (sBox tk (Lx.bs t) c))) := Fr.of_below hb fun j hj => hj.1
  have HP : Hid (SetPost g 46 a cv w (w.alloc (sBox tk (Lx.bs t) c))) := ⟨hgW.out, HF0.out⟩
  obtain ⟨c0, c1, c2, c3, c4, c5, _⟩ := cells7 hg
  have f1 := Lib.frozen_of_heap hg 1
  have f2 := Lib.frozen_of_heap hg 2
  have f5 := Lib.frozen_of_heap hg 5
  have HS : Hid (setF 46 tk t o a = a) := by show _ = _; rfl
  clear hg hb
  go_enter Tryz.func107, Tryz.ntmps107
  go_wp2_with fail
  first | go_end0 | refine bodyPost_ret (results_none rfl _ _ _) rfl ?_
  exact ⟨rfl, by rw [HS.out]; exact HP.out⟩

set_option maxHeartbeats 1500000 in
set_option maxRecDepth 100000 in
theorem set_27 (g : Nat) (tk : Int) (t : List UInt8) (c : Value) (o : Nat) (a : Acc) (cv : Value) (w : World) (hg : w.heap[g]? = some (nBox 27 a cv)) (hv : Vars w) (ht : t.length ≤ 2000) :
    Calls Tryz.prog 107 #[.pointer (some ⟨g, 0, none⟩), .agg #[.int .i64 tk, .string (Lx.bs t), c], .int .i64 o] w fun e' w' => e' = .returned (.tuple #[]) ∧ SetPost g 27 (setF 27 tk t o a) cv w w' := by
  have hb := below_box w (sBox tk (Lx.bs t) c)
  have hl : g < w.heap.size := (Array.getElem?_eq_some_iff.1 hg).1
  have HG0 := Lib.hid hg
  have hgW : Hid ((w.alloc (sBox tk (Lx.bs t) c)).heap[g]? = some (nBox 27 a cv)) := (hb.block g hl).trans hg
  have HF0 : Hid (Fr (fun j => j < w.heap.size ∧ j ≠ g) w (w.alloc (sBox tk (Lx.bs t) c))) := Fr.of_below hb fun j hj => hj.1
  have HP : Hid (SetPost g 27 a cv w (w.alloc (sBox tk (Lx.bs t) c))) := ⟨hgW.out, HF0.out⟩
  obtain ⟨c0, c1, c2, c3, c4, c5, _⟩ := cells7 hg
  have f1 := Lib.frozen_of_heap hg 1
  have f2 := Lib.frozen_of_heap hg 2
  have f5 := Lib.frozen_of_heap hg 5
  have HS : Hid (setF 27 tk t o a = { a with v := (intV t).1 }) := by show _ = _; rfl
  have HV := Lib.hid (hv.below hb)
  have HINT := Lib.hid (fun W V => int_any (Lx.bs t) W (by rw [Lx.bs_size]; exact ht) V)
  rw [show Lx.L (Lx.bs t) = t from Lx.L_bs t] at HINT
  clear hv ht
  generalize intV t = z at *
  clear hg hb
  go_enter Tryz.func107, Tryz.ntmps107
  go_wp2_with fail
  refine (HINT.out _ HV.out).mono ?_
  rintro e w1 ⟨rfl, hb1⟩
  have hl1 : g < (w.alloc (sBox tk (Lx.bs t) c)).heap.size := by simp; omega
  have hg1 := Lib.hid ((hb1.block g hl1).trans hgW.out)
  obtain ⟨_, d1, _, _, _, _, _⟩ := cells7 hg1.out
  have g1 := Lib.frozen_of_heap hg1.out 1
  have HF1 : Hid (Fr (fun j => j < w.heap.size ∧ j ≠ g) w w1) := HF0.out.trans (Fr.of_below hb1 fun j hj => by simp; omega)
  clear hb1 c1
  go_wp2_with fail
  first | go_end0 | refine bodyPost_ret (results_none rfl _ _ _) rfl ?_
  refine ⟨rfl, ?_, HF1.out.trans ⟨rfl, rfl, rfl, by simp, fun j hj => heap_setCell_other _ ⟨g, 1, none⟩ j _ hj.2⟩⟩
  rw [HS.out]
  exact (set7 hg1.out).1

set_option maxHeartbeats 1500000 in
set_option maxRecDepth 100000 in
theorem set_29 (g : Nat) (tk : Int) (t : List UInt8) (c : Value) (o : Nat) (a : Acc) (cv : Value) (w : World) (hg : w.heap[g]? = some (nBox 29 a cv)) (ht : t.length ≤ 2000) :
    Calls Tryz.prog 107 #[.pointer (some ⟨g, 0, none⟩), .agg #[.int .i64 tk, .string (Lx.bs t), c], .int .i64 o] w fun e' w' => e' = .returned (.tuple #[]) ∧ SetPost g 29 (setF 29 tk t o a) cv w w' := by
  have hb := below_box w (sBox tk (Lx.bs t) c)
  have hl : g < w.heap.size := (Array.getElem?_eq_some_iff.1 hg).1
  have HG0 := Lib.hid hg
  have hgW : Hid ((w.alloc (sBox tk (Lx.bs t) c)).heap[g]? = some (nBox 29 a cv)) := (hb.block g hl).trans hg
  have HF0 : Hid (Fr (fun j => j < w.heap.size ∧ j ≠ g) w (w.alloc (sBox tk (Lx.bs t) c))) := Fr.of_below hb fun j hj => hj.1
  have HP : Hid (SetPost g 29 a cv w (w.alloc (sBox tk (Lx.bs t) c))) := ⟨hgW.out, HF0.out⟩
  obtain ⟨c0, c1, c2, c3, c4, c5, _⟩ := cells7 hg
  have f1 := Lib.frozen_of_heap hg 1
  have f2 := Lib.frozen_of_heap hg 2
  have f5 := Lib.frozen_of_heap hg 5
  have HS : Hid (setF 29 tk t o a = { a with t := (unq t).1 }) := by show _ = _; rfl
  have HUNQ := Lib.hid (fun W => unquote_any (Lx.bs t) W (by rw [Lx.bs_size]; exact ht))
  rw [show Lx.L (Lx.bs t) = t from Lx.L_bs t] at HUNQ
  clear ht
  generalize unq t = z at *
  clear hg hb
  go_enter Tryz.func107, Tryz.ntmps107
  go_wp2_with fail
  refine (HUNQ.out _).mono ?_
  rintro e w1 ⟨vu, rfl, _, hb1⟩
  have hl1 : g < (w.alloc (sBox tk (Lx.bs t) c)).heap.size := by simp; omega
  have hg1 := Lib.hid ((hb1.block g hl1).trans hgW.out)
  obtain ⟨_, _, d2, _, _, _, _⟩ := cells7 hg1.out
  have g2 := Lib.frozen_of_heap hg1.out 2
  have HF1 : Hid (Fr (fun j => j < w.heap.size ∧ j ≠ g) w w1) := HF0.out.trans (Fr.of_below hb1 fun j hj => by simp; omega)
  clear hb1 c2
  go_wp2_with fail
  first | go_end0 | refine bodyPost_ret (results_none rfl _ _ _) rfl ?_
  refine ⟨rfl, ?_, HF1.out.trans ⟨rfl, rfl, rfl, by simp, fun j hj => heap_setCell_other _ ⟨g, 2, none⟩ j _ hj.2⟩⟩
  rw [HS.out]
  exact (set7 hg1.out).2.1

set_option maxHeartbeats 1500000 in
set_option maxRecDepth 100000 in
theorem set_39 (g : Nat) (tk : Int) (t : List UInt8) (c : Value) (o : Nat) (a : Acc) (cv : Value) (w : World) (hg : w.heap[g]? = some (nBox 39 a cv)) :
    Calls Tryz.prog 107 #[.pointer (some ⟨g, 0, none⟩), .agg #[.int .i64 tk, .string (Lx.bs t), c], .int .i64 o] w fun e' w' => e' = .returned (.tuple #[]) ∧ SetPost g 39 (setF 39 tk t o a) cv w w' := by
  have hb := below_box w (sBox tk (Lx.bs t) c)
  have hl : g < w.heap.size := (Array.getElem?_eq_some_iff.1 hg).1
  have HG0 := Lib.hid hg
  have hgW : Hid ((w.alloc (sBox tk (Lx.bs t) c)).heap[g]? = some (nBox 39 a cv)) := (hb.block g hl).trans hg
  have HF0 : Hid (Fr (fun j => j < w.heap.size ∧ j ≠ g) w (w.alloc (sBox tk (Lx.bs t) c))) := Fr.of_below hb fun j hj => hj.1
  have HP : Hid (SetPost g 39 a cv w (w.alloc (sBox tk (Lx.bs t) c))) := ⟨hgW.out, HF0.out⟩
  obtain ⟨c0, c1, c2, c3, c4, c5, _⟩ := cells7 hg
  have f1 := Lib.frozen_of_heap hg 1
  have f2 := Lib.frozen_of_heap hg 2
  have f5 := Lib.frozen_of_heap hg 5
  have HS : Hid (setF 39 tk t o a = { a with t := t }) := by show _ = _; rfl
  clear hg hb
  go_enter Tryz.func107, Tryz.ntmps107
  go_wp2_with fail
  first | go_end0 | refine bodyPost_ret (results_none rfl _ _ _) rfl ?_
  have hb2 := fun u => below_box (w.setCell ⟨g, 2, none⟩ u) (sBox tk (Lx.bs t) c)
  refine ⟨rfl, ?_, ⟨rfl, rfl, rfl, by simp, fun j hj => ((hb2 _).block j (by simp; omega)).trans (heap_setCell_other w ⟨g, 2, none⟩ j _ hj.2)⟩⟩
  rw [HS.out]
  exact ((hb2 _).block g (by simp; omega)).trans (set7 HG0.out).2.1

set_option maxHeartbeats 1500000 in
set_option maxRecDepth 100000 in
theorem set_40 (g : Nat) (tk : Int) (t : List UInt8) (c : Value) (o : Nat) (a : Acc) (cv : Value) (w : World) (hg : w.heap[g]? = some (nBox 40 a cv)) :
    Calls Tryz.prog 107 #[.pointer (some ⟨g, 0, none⟩), .agg #[.int .i64 tk, .string (Lx.bs t), c], .int .i64 o] w fun e' w' => e' = .returned (.tuple #[]) ∧ SetPost g 40 (setF 40 tk t o a) cv w w' := by
  have hb := below_box w (sBox tk (Lx.bs t) c)
  have hl : g < w.heap.size := (Array.getElem?_eq_some_iff.1 hg).1
  have HG0 := Lib.hid hg
  have hgW : Hid ((w.alloc (sBox tk (Lx.bs t) c)).heap[g]? = some (nBox 40 a cv)) := (hb.block g hl).trans hg
  have HF0 : Hid (Fr (fun j => j < w.heap.size ∧ j ≠ g) w (w.alloc (sBox tk (Lx.bs t) c))) := Fr.of_below hb fun j hj => hj.1
  have HP : Hid (SetPost g 40 a cv w (w.alloc (sBox tk (Lx.bs t) c))) := ⟨hgW.out, HF0.out⟩
  obtain ⟨c0, c1, c2, c3, c4, c5, _⟩ := cells7 hg
  have f1 := Lib.frozen_of_heap hg 1
  have f2 := Lib.frozen_of_heap hg 2
  have f5 := Lib.frozen_of_heap hg 5
  have HS : Hid (setF 40 tk t o a = { a with t := t }) := by show _ = _; rfl
  clear hg hb
  go_enter Tryz.func107, Tryz.ntmps107
  go_wp2_with fail
  first | go_end0 | refine bodyPost_ret (results_none rfl _ _ _) rfl ?_
  have hb2 := fun u => below_box (w.setCell ⟨g, 2, none⟩ u) (sBox tk (Lx.bs t) c)
  refine ⟨rfl, ?_, ⟨rfl, rfl, rfl, by simp, fun j hj => ((hb2 _).block j (by simp; omega)).trans (heap_setCell_other w ⟨g, 2, none⟩ j _ hj.2)⟩⟩
  rw [HS.out]
  exact ((hb2 _).block g (by simp; omega)).trans (set7 HG0.out).2.1

set_option maxHeartbeats 1500000 in
set_option maxRecDepth 100000 in
theorem set_idn (g : Nat) (k : Int) (t : List UInt8) (c : Value) (o : Nat) (a : Acc) (cv : Value) (w : World) (hg : w.heap[g]? = some (nBox k a cv)) (h1 : k ≠ 46) (h2 : k ≠ 27) (h3 : k ≠ 29) (h4 : k ≠ 39) (h5 : k ≠ 40) (h6 : named k = false) :
    Calls Tryz.prog 107 #[.pointer (some ⟨g, 0, none⟩), .agg #[.int .i64 103, .string (Lx.bs t), c], .int .i64 o] w fun e' w' => e' = .returned (.tuple #[]) ∧ SetPost g k (setF k 103 t o a) cv w w' := by
  have hb := below_box w (sBox 103 (Lx.bs t) c)
  have hl : g < w.heap.size := (Array.getElem?_eq_some_iff.1 hg).1
  have HG0 := Lib.hid hg
  have hgW : Hid ((w.alloc (sBox 103 (Lx.bs t) c)).heap[g]? = some (nBox k a cv)) := (hb.block g hl).trans hg
  have HF0 : Hid (Fr (fun j => j < w.heap.size ∧ j ≠ g) w (w.alloc (sBox 103 (Lx.bs t) c))) := Fr.of_below hb fun j hj => hj.1
  have HP : Hid (SetPost g k a cv w (w.alloc (sBox 103 (Lx.bs t) c))) := ⟨hgW.out, HF0.out⟩
  obtain ⟨c0, c1, c2, c3, c4, c5, _⟩ := cells7 hg
  have f1 := Lib.frozen_of_heap hg 1
  have f2 := Lib.frozen_of_heap hg 2
  have f5 := Lib.frozen_of_heap hg 5
  have HS : Hid (setF k 103 t o a = a) := by show _ = _; unfold setF; simp [h1, h2, h3, h4, h5, h6]
  have HN := Lib.hid (fun W => named_any k W)
  rw [h6] at HN
  clear h6
  clear hg hb
  go_enter Tryz.func107, Tryz.ntmps107
  go_wp2_with fail
  refine (HN.out _).mono ?_
  rintro e w1 ⟨rfl, rfl⟩
  go_wp2_with fail
  first | go_end0 | refine bodyPost_ret (results_none rfl _ _ _) rfl ?_
  exact ⟨rfl, by rw [HS.out]; exact HP.out⟩

set_option maxHeartbeats 1500000 in
set_option maxRecDepth 100000 in
theorem set_ido (g : Nat) (k : Int) (t : List UInt8) (c : Value) (o : Nat) (a : Acc) (cv : Value) (w : World) (hg : w.heap[g]? = some (nBox k a cv)) (h1 : k ≠ 46) (h2 : k ≠ 27) (h3 : k ≠ 29) (h4 : k ≠ 39) (h5 : k ≠ 40) (h6 : named k = true) (h7 : ¬ a.ns < 0) :
    Calls Tryz.prog 107 #[.pointer (some ⟨g, 0, none⟩), .agg #[.int .i64 103, .string (Lx.bs t), c], .int .i64 o] w fun e' w' => e' = .returned (.tuple #[]) ∧ SetPost g k (setF k 103 t o a) cv w w' := by
  have hb := below_box w (sBox 103 (Lx.bs t) c)
  have hl : g < w.heap.size := (Array.getElem?_eq_some_iff.1 hg).1
  have HG0 := Lib.hid hg
  have hgW : Hid ((w.alloc (sBox 103 (Lx.bs t) c)).heap[g]? = some (nBox k a cv)) := (hb.block g hl).trans hg
  have HF0 : Hid (Fr (fun j => j < w.heap.size ∧ j ≠ g) w (w.alloc (sBox 103 (Lx.bs t) c))) := Fr.of_below hb fun j hj => hj.1
  have HP : Hid (SetPost g k a cv w (w.alloc (sBox 103 (Lx.bs t) c))) := ⟨hgW.out, HF0.out⟩
  obtain ⟨c0, c1, c2, c3, c4, c5, _⟩ := cells7 hg
  have f1 := Lib.frozen_of_heap hg 1
  have f2 := Lib.frozen_of_heap hg 2
  have f5 := Lib.frozen_of_heap hg 5
  have HS : Hid (setF k 103 t o a = a) := by show _ = _; unfold setF; simp [h1, h2, h3, h4, h5, h7]
  have HN := Lib.hid (fun W => named_any k W)
  rw [h6] at HN
  clear h6
  clear hg hb
  go_enter Tryz.func107, Tryz.ntmps107
  go_wp2_with fail
  refine (HN.out _).mono ?_
  rintro e w1 ⟨rfl, rfl⟩
  go_wp2_with fail
  first | go_end0 | refine bodyPost_ret (results_none rfl _ _ _) rfl ?_
  exact ⟨rfl, by rw [HS.out]; exact HP.out⟩

set_option maxHeartbeats 1500000 in
set_option maxRecDepth 100000 in
theorem set_idy (g : Nat) (k : Int) (t : List UInt8) (c : Value) (o : Nat) (a : Acc) (cv : Value) (w : World) (hg : w.heap[g]? = some (nBox k a cv)) (h1 : k ≠ 46) (h2 : k ≠ 27) (h3 : k ≠ 29) (h4 : k ≠ 39) (h5 : k ≠ 40) (h6 : named k = true) (h7 : a.ns < 0) :
    Calls Tryz.prog 107 #[.pointer (some ⟨g, 0, none⟩), .agg #[.int .i64 103, .string (Lx.bs t), c], .int .i64 o] w fun e' w' => e' = .returned (.tuple #[]) ∧ SetPost g k (setF k 103 t o a) cv w w' := by
  have hb := below_box w (sBox 103 (Lx.bs t) c)
  have hl : g < w.heap.size := (Array.getElem?_eq_some_iff.1 hg).1
  have HG0 := Lib.hid hg
  have hgW : Hid ((w.alloc (sBox 103 (Lx.bs t) c)).heap[g]? = some (nBox k a cv)) := (hb.block g hl).trans hg
  have HF0 : Hid (Fr (fun j => j < w.heap.size ∧ j ≠ g) w (w.alloc (sBox 103 (Lx.bs t) c))) := Fr.of_below hb fun j hj => hj.1
  have HP : Hid (SetPost g k a cv w (w.alloc (sBox 103 (Lx.bs t) c))) := ⟨hgW.out, HF0.out⟩
  obtain ⟨c0, c1, c2, c3, c4, c5, _⟩ := cells7 hg
  have f1 := Lib.frozen_of_heap hg 1
  have f2 := Lib.frozen_of_heap hg 2
  have f5 := Lib.frozen_of_heap hg 5
  have HS : Hid (setF k 103 t o a = { a with t := t, ns := (o : Int) }) := by show _ = _; unfold setF; simp [h1, h2, h3, h4, h5, h6, h7]
  have HN := Lib.hid (fun W => named_any k W)
  rw [h6] at HN
  clear h6
  have c5' : ∀ u, ((w.alloc (sBox 103 (Lx.bs t) c)).setCell ⟨g, 2, none⟩ u).cell? ⟨g, 5, none⟩ = some (.int .i64 a.ns) := fun u => (cells7 (set7 hgW.out).2.1).2.2.2.2.2.1
  have f5' : ∀ u, ((w.alloc (sBox 103 (Lx.bs t) c)).setCell ⟨g, 2, none⟩ u).frozen? ⟨g, 5, none⟩ = false := fun u => Lib.frozen_of_heap (set7 hgW.out).2.1 5
  clear hg hb
  go_enter Tryz.func107, Tryz.ntmps107
  go_wp2_with fail
  refine (HN.out _).mono ?_
  rintro e w1 ⟨rfl, rfl⟩
  go_wp2_with fail
  first | go_end0 | refine bodyPost_ret (results_none rfl _ _ _) rfl ?_
  have hb2 := fun u u' => below_box ((w.setCell ⟨g, 2, none⟩ u).setCell ⟨g, 5, none⟩ u') (sBox 103 (Lx.bs t) c)
  refine ⟨rfl, ?_, ⟨rfl, rfl, rfl, by simp, fun j hj => ((hb2 _ _).block j (by simp; omega)).trans ?_⟩⟩
  · rw [HS.out]
    exact ((hb2 _ _).block g (by simp; omega)).trans (set7 (set7 HG0.out).2.1).2.2.2.2.1
  · rw [heap_setCell_other _ ⟨g, 5, none⟩ j _ hj.2, heap_setCell_other _ ⟨g, 2, none⟩ j _ hj.2]

set_option maxHeartbeats 1500000 in
set_option maxRecDepth 100000 in
theorem set_kw (g : Nat) (k : Int) (t : List UInt8) (c : Value) (o : Nat) (a : Acc) (cv : Value) (w : World) (hg : w.heap[g]? = some (nBox k a cv)) (h1 : k ≠ 46) (h2 : k ≠ 27) (h3 : k ≠ 29) (h4 : k ≠ 39) (h5 : k ≠ 40) :
    Calls Tryz.prog 107 #[.pointer (some ⟨g, 0, none⟩), .agg #[.int .i64 104, .string (Lx.bs t), c], .int .i64 o] w fun e' w' => e' = .returned (.tuple #[]) ∧ SetPost g k (setF k 104 t o a) cv w w' := by
  have hb := below_box w (sBox 104 (Lx.bs t) c)
  have hl : g < w.heap.size := (Array.getElem?_eq_some_iff.1 hg).1
  have HG0 := Lib.hid hg
  have hgW : Hid ((w.alloc (sBox 104 (Lx.bs t) c)).heap[g]? = some (nBox k a cv)) := (hb.block g hl).trans hg
  have HF0 : Hid (Fr (fun j => j < w.heap.size ∧ j ≠ g) w (w.alloc (sBox 104 (Lx.bs t) c))) := Fr.of_below hb fun j hj => hj.1
  have HP : Hid (SetPost g k a cv w (w.alloc (sBox 104 (Lx.bs t) c))) := ⟨hgW.out, HF0.out⟩
  obtain ⟨c0, c1, c2, c3, c4, c5, _⟩ := cells7 hg
  have f1 := Lib.frozen_of_heap hg 1
  have f2 := Lib.frozen_of_heap hg 2
  have f5 := Lib.frozen_of_heap hg 5
  have HS : Hid (setF k 104 t o a = { a with v := orV a.v ((keyV2 t : Nat) : Int) }) := by show _ = _; unfold setF; simp [h1, h2, h3, h4, h5]
  have HK := Lib.hid (fun W => keyv_any t W)
  generalize ((keyV2 t : Nat) : Int) = z at *
  clear hg hb
  go_enter Tryz.func107, Tryz.ntmps107
  go_upto_region 13 with fail
  have hbox := heap_alloc_new w (sBox 104 (Lx.bs t) c)
  have hl1 : w.heap.size < (w.alloc (sBox 104 (Lx.bs t) c)).heap.size := by simp
  have hl2 : g < (w.alloc (sBox 104 (Lx.bs t) c)).heap.size := by simp; omega
  change Hid ((w.alloc (sBox 104 (Lx.bs t) c)).heap[g]? = some (nBox k a cv)) at hgW
  generalize hWW : w.alloc (sBox 104 (Lx.bs t) c) = W at *
  obtain ⟨d0, d1, _, _, _, _, _⟩ := cells7 hgW.out
  have g1 := Lib.frozen_of_heap hgW.out 1
  have y0 : W.cell? ⟨w.heap.size, 0, none⟩ = some (.int .i64 104) := by rw [Lib.cell_of_heap hbox]; rfl
  have y1 : W.cell? ⟨w.heap.size, 1, none⟩ = some (.string (Lx.bs t)) := by rw [Lib.cell_of_heap hbox]; rfl
  clear hbox c0 c1 c2 c3 c4 c5 hWW
  go_still_tail 10, (by kernel_rfl)
  still_call (HK.out _)
  repeat still_step
  refine wpStill_nil ?_
  change wpList _ _ _ _ _ (World.drew W)
  go_wp2_with fail
  first | go_end0 | refine bodyPost_ret (results_none rfl _ _ _) rfl ?_
  refine ⟨rfl, ?_, HF0.out.trans ⟨rfl, rfl, rfl, by simp, fun j hj => heap_setCell_other W.drew ⟨g, 1, none⟩ j _ hj.2⟩⟩
  rw [HS.out]
  exact (set7 (w := W.drew) hgW.out).1

set_option maxHeartbeats 1500000 in
set_option maxRecDepth 100000 in
theorem set_star (g : Nat) (tk : Int) (t : List UInt8) (c : Value) (o : Nat) (a : Acc) (cv : Value) (w : World) (hg : w.heap[g]? = some (nBox 2 a cv)) (h6 : tk ≠ 103) (h7 : tk ≠ 104) (h8 : t = [42]) :
    Calls Tryz.prog 107 #[.pointer (some ⟨g, 0, none⟩), .agg #[.int .i64 tk, .string (Lx.bs t), c], .int .i64 o] w fun e' w' => e' = .returned (.tuple #[]) ∧ SetPost g 2 (setF 2 tk t o a) cv w w' := by
  have hb := below_box w (sBox tk (Lx.bs t) c)
  have hl : g < w.heap.size := (Array.getElem?_eq_some_iff.1 hg).1
  have HG0 := Lib.hid hg
  have hgW : Hid ((w.alloc (sBox tk (Lx.bs t) c)).heap[g]? = some (nBox 2 a cv)) := (hb.block g hl).trans hg
  have HF0 : Hid (Fr (fun j => j < w.heap.size ∧ j ≠ g) w (w.alloc (sBox tk (Lx.bs t) c))) := Fr.of_below hb fun j hj => hj.1
  have HP : Hid (SetPost g 2 a cv w (w.alloc (sBox tk (Lx.bs t) c))) := ⟨hgW.out, HF0.out⟩
  obtain ⟨c0, c1, c2, c3, c4, c5, _⟩ := cells7 hg
  have f1 := Lib.frozen_of_heap hg 1
  have f2 := Lib.frozen_of_heap hg 2
  have f5 := Lib.frozen_of_heap hg 5
  have HS : Hid (setF 2 tk t o a = { a with v := orV a.v 2 }) := by show _ = _; unfold setF; simp [h6, h7, h8]
  have e8 := toL_eq h8
  clear h8
  clear hg hb
  go_enter Tryz.func107, Tryz.ntmps107
  go_wp2_with fail
  first | go_end0 | refine bodyPost_ret (results_none rfl _ _ _) rfl ?_
  have hb2 := fun u => below_box (w.setCell ⟨g, 1, none⟩ u) (sBox tk (Lx.bs t) c)
  refine ⟨rfl, ?_, ⟨rfl, rfl, rfl, by simp, fun j hj => ((hb2 _).block j (by simp; omega)).trans (heap_setCell_other w ⟨g, 1, none⟩ j _ hj.2)⟩⟩
  rw [HS.out]
  exact ((hb2 _).block g (by simp; omega)).trans (set7 HG0.out).1

set_option maxHeartbeats 1500000 in
set_option maxRecDepth 100000 in
theorem set_use (g : Nat) (tk : Int) (t : List UInt8) (c : Value) (o : Nat) (a : Acc) (cv : Value) (w : World) (hg : w.heap[g]? = some (nBox 2 a cv)) (h6 : tk ≠ 103) (h7 : tk ≠ 104) (h8 : ¬ t = [42]) :
    Calls Tryz.prog 107 #[.pointer (some ⟨g, 0, none⟩), .agg #[.int .i64 tk, .string (Lx.bs t), c], .int .i64 o] w fun e' w' => e' = .returned (.tuple #[]) ∧ SetPost g 2 (setF 2 tk t o a) cv w w' := by
  have hb := below_box w (sBox tk (Lx.bs t) c)
  have hl : g < w.heap.size := (Array.getElem?_eq_some_iff.1 hg).1
  have HG0 := Lib.hid hg
  have hgW : Hid ((w.alloc (sBox tk (Lx.bs t) c)).heap[g]? = some (nBox 2 a cv)) := (hb.block g hl).trans hg
  have HF0 : Hid (Fr (fun j => j < w.heap.size ∧ j ≠ g) w (w.alloc (sBox tk (Lx.bs t) c))) := Fr.of_below hb fun j hj => hj.1
  have HP : Hid (SetPost g 2 a cv w (w.alloc (sBox tk (Lx.bs t) c))) := ⟨hgW.out, HF0.out⟩
  obtain ⟨c0, c1, c2, c3, c4, c5, _⟩ := cells7 hg
  have f1 := Lib.frozen_of_heap hg 1
  have f2 := Lib.frozen_of_heap hg 2
  have f5 := Lib.frozen_of_heap hg 5
  have HS : Hid (setF 2 tk t o a = a) := by show _ = _; unfold setF; simp [h6, h7, h8]
  have e8 := toL_ne h8
  clear h8
  clear hg hb
  go_enter Tryz.func107, Tryz.ntmps107
  go_wp2_with fail
  first | go_end0 | refine bodyPost_ret (results_none rfl _ _ _) rfl ?_
  exact ⟨rfl, by rw [HS.out]; exact HP.out⟩

set_option maxHeartbeats 1500000 in
set_option maxRecDepth 100000 in
theorem set_else (g : Nat) (k : Int) (tk : Int) (t : List UInt8) (c : Value) (o : Nat) (a : Acc) (cv : Value) (w : World) (hg : w.heap[g]? = some (nBox k a cv)) (h1 : k ≠ 46) (h2 : k ≠ 27) (h3 : k ≠ 29) (h4 : k ≠ 39) (h5 : k ≠ 40) (h6 : tk ≠ 103) (h7 : tk ≠ 104) (h8 : k ≠ 2) :
    Calls Tryz.prog 107 #[.pointer (some ⟨g, 0, none⟩), .agg #[.int .i64 tk, .string (Lx.bs t), c], .int .i64 o] w fun e' w' => e' = .returned (.tuple #[]) ∧ SetPost g k (setF k tk t o a) cv w w' := by
  have hb := below_box w (sBox tk (Lx.bs t) c)
  have hl : g < w.heap.size := (Array.getElem?_eq_some_iff.1 hg).1
  have HG0 := Lib.hid hg
  have hgW : Hid ((w.alloc (sBox tk (Lx.bs t) c)).heap[g]? = some (nBox k a cv)) := (hb.block g hl).trans hg
  have HF0 : Hid (Fr (fun j => j < w.heap.size ∧ j ≠ g) w (w.alloc (sBox tk (Lx.bs t) c))) := Fr.of_below hb fun j hj => hj.1
  have HP : Hid (SetPost g k a cv w (w.alloc (sBox tk (Lx.bs t) c))) := ⟨hgW.out, HF0.out⟩
  obtain ⟨c0, c1, c2, c3, c4, c5, _⟩ := cells7 hg
  have f1 := Lib.frozen_of_heap hg 1
  have f2 := Lib.frozen_of_heap hg 2
  have f5 := Lib.frozen_of_heap hg 5
  have HS : Hid (setF k tk t o a = a) := by show _ = _; unfold setF; simp [h1, h2, h3, h4, h5, h6, h7, h8]
  clear hg hb
  go_enter Tryz.func107, Tryz.ntmps107
  go_wp2_with fail
  first | go_end0 | refine bodyPost_ret (results_none rfl _ _ _) rfl ?_
  exact ⟨rfl, by rw [HS.out]; exact HP.out⟩

set_option maxHeartbeats 1500000 in
set_option maxRecDepth 100000 in
theorem setf_any (g : Nat) (k : Int) (tk : Int) (t : List UInt8) (c : Value) (o : Nat) (a : Acc) (cv : Value) (w : World) (hg : w.heap[g]? = some (nBox k a cv)) (hv : Vars w) (ht : t.length ≤ 2000) :
    Calls Tryz.prog 107 #[.pointer (some ⟨g, 0, none⟩), .agg #[.int .i64 tk, .string (Lx.bs t), c], .int .i64 o] w fun e' w' => e' = .returned (.tuple #[]) ∧ SetPost g k (setF k tk t o a) cv w w' := by
  by_cases h1 : k = 46
  · subst h1; exact set_46 g tk t c o a cv w hg
  · by_cases h2 : k = 27
    · subst h2; exact set_27 g tk t c o a cv w hg hv ht
    · by_cases h3 : k = 29
      · subst h3; exact set_29 g tk t c o a cv w hg ht
      · by_cases h4 : k = 39
        · subst h4; exact set_39 g tk t c o a cv w hg
        · by_cases h5 : k = 40
          · subst h5; exact set_40 g tk t c o a cv w hg
          · by_cases h6 : tk = 103
            · subst h6
              cases hn : named k with
              | false => exact set_idn g k t c o a cv w hg h1 h2 h3 h4 h5 hn
              | true =>
                by_cases h7 : a.ns < 0
                · exact set_idy g k t c o a cv w hg h1 h2 h3 h4 h5 hn h7
                · exact set_ido g k t c o a cv w hg h1 h2 h3 h4 h5 hn h7
            · by_cases h7 : tk = 104
              · subst h7; exact set_kw g k t c o a cv w hg h1 h2 h3 h4 h5
              · by_cases h8 : k = 2
                · subst h8
                  by_cases h9 : t = [42]
                  · exact set_star g tk t c o a cv w hg h6 h7 h9
                  · exact set_use g tk t c o a cv w hg h6 h7 h9
                · exact set_else g k tk t c o a cv w hg h1 h2 h3 h4 h5 h6 h7 h8
end Go.Proofs.YtcpojagfnpajeaaGreatDoorR.Ps
