/-
  glossatorref4.ApplyEdits by its contract.
-/
import Derived.Test.YtbkiliiopondaaaRefVal
import Derived.Deep.QuietTactic
import Derived.BigQuiet
import Derived.WalkSpells
import Derived.Lib.IndexBytes
namespace Go.Proofs.Ytbkiliiopondaaa
open Go.RowKit

theorem drop_apply {src : List UInt8} {n : Int} {r : List Ed} : ∀ {p q : Int}, 0 ≤ p → p ≤ q → Ord n q r → applyFrom src p r = (src.drop p.toNat).take (q.toNat - p.toNat) ++ applyFrom src q r := by
  intro p q h0 h1 h
  have e : ∀ m : Nat, q.toNat ≤ m → (src.drop p.toNat).take (m - p.toNat) = (src.drop p.toNat).take (q.toNat - p.toNat) ++ (src.drop q.toNat).take (m - q.toNat) := by
    intro m hm
    rw [show m - p.toNat = (q.toNat - p.toNat) + (m - q.toNat) from by omega, List.take_add, List.drop_drop, show p.toNat + (q.toNat - p.toNat) = q.toNat from by omega]
  cases r with
  | nil =>
    simp only [applyFrom]
    have := List.take_append_drop (q.toNat - p.toNat) (src.drop p.toNat)
    rw [List.drop_drop, show p.toNat + (q.toNat - p.toNat) = q.toNat from by omega] at this
    exact this.symm
  | cons x r =>
    obtain ⟨h2, h3, h4⟩ := h
    simp only [applyFrom]
    rw [e x.s.toNat (by omega), List.append_assoc]

theorem cur_size {s cur : ByteArray} {l : List Ed} {k : Nat} (hn : s.size ≤ 2000) (ht : tsum l ≤ 200000) (hord : Ord s.size 0 (l.drop k)) (hin : Inside s.size (l.drop k)) (hc : cur.data.toList = applyL s.data.toList (l.drop k)) : cur.size ≤ 202000 := by
  have hlen : s.data.toList.length = s.size := by rw [Array.length_toList]; rfl
  have h1 := apply_len (src := s.data.toList) (p := 0) (Int.le_refl 0) (by rw [hlen]; exact hord)
  have h2 : cur.size = (applyL s.data.toList (l.drop k)).length := by rw [← hc, Array.length_toList]; rfl
  have h3 := (dsum_bd hin).1
  have h4 := tsum_append (l.take k) (l.drop k)
  rw [List.take_append_drop] at h4
  rw [hlen] at h1
  unfold applyL at h2
  omega

theorem add_run {a b : ByteArray} (h : a.size + b.size ≤ 1000000) (W : World) : (Op.stringOp .add a b).run Try.prog W = .ok (.string (a ++ b)) W := run_string_add_sum W a b (by omega)

theorem ord_inside {n : Int} {l : List Ed} : ∀ {p : Int}, 0 ≤ p → Ord n p l → Inside n l := by
  induction l with
  | nil => intro p _ _ x hx; simp at hx
  | cons y r ih =>
    intro p h0 h x hx
    obtain ⟨h1, h2, h3⟩ := h
    have := h3.le
    rcases List.mem_cons.1 hx with rfl | hx
    · exact ⟨by omega, h2, this⟩
    · exact ih (by omega) h3 x hx

theorem ord_low {n : Int} {l : List Ed} {p q : Int} (hq : q ≤ p) (h : Ord n p l) : Ord n q l := by
  cases l with
  | nil => have := h.le; show q ≤ n; omega
  | cons x r => exact ⟨by have := h.1; omega, h.2⟩

theorem ord_drop {n : Int} {l : List Ed} {k : Nat} (h : Ord n 0 l) : Ord n 0 (l.drop k) := by
  cases k with
  | zero => exact h
  | succ k =>
    by_cases hk : k < l.length
    · obtain ⟨a, b, _, c⟩ := h.drop (List.getElem?_eq_getElem hk)
      exact ord_low (by omega) c
    · rw [List.drop_eq_nil_of_le (by omega)]; exact h.le

/-- One step of the reference: the edit x before the edits r. -/
theorem ref_step {s cur : ByteArray} {x : Ed} {r : List Ed} (h0 : 0 ≤ x.s) (h : Ord s.size x.s (x :: r)) (hc : cur.data.toList = applyL s.data.toList r) :
    (x.e ≤ cur.size) ∧ (⟨(((cur.extract 0 x.s.toNat).data.toList ++ x.t.data.toList) ++ (cur.extract x.e.toNat cur.size).data.toList).toArray⟩ : ByteArray) = ⟨(applyL s.data.toList (x :: r)).toArray⟩ := by
  obtain ⟨_, h2, h3⟩ := h
  have h4 := h3.le
  have hlen : s.data.toList.length = s.size := by rw [Array.length_toList]; rfl
  have e1 := drop_apply (src := s.data.toList) (p := 0) (Int.le_refl 0) (by omega : (0 : Int) ≤ x.e) h3
  have e2 : cur.data.toList = (s.data.toList.take x.e.toNat) ++ applyFrom s.data.toList x.e r := by
    rw [hc, applyL, e1]; simp
  have hl : (s.data.toList.take x.e.toNat).length = x.e.toNat := by rw [List.length_take]; omega
  have hcs : cur.size = cur.data.toList.length := (by rw [Array.length_toList]; rfl)
  refine ⟨?_, ?_⟩
  · rw [hcs, e2, List.length_append, hl]; omega
  · rw [Lib.extract_data, Lib.extract_to_end, e2]
    congr 2
    rw [List.drop_left' hl, List.drop_zero, Nat.sub_zero, List.take_append_of_le_length (by omega), List.take_take, Nat.min_eq_left (by omega)]
    simp [applyL, applyFrom]

set_option maxHeartbeats 1000000 in
set_option maxRecDepth 100000 in
theorem refapp_any (s : ByteArray) (a : Option Addr) (cap : Nat) (l : List Ed) (w : World) (hord : Hid (Ord s.size 0 l)) (hl : l.length ≤ 50) (hn : s.size ≤ 2000) (ht : Hid (tsum l ≤ 200000)) (h : Eds w w.heap.size a l) :
    Calls Try.prog 21 #[.string s, .slice a l.length cap] w fun e w' => e = .returned (.string ⟨(applyL s.data.toList l).toArray⟩) ∧ ∃ n, w' = w.drewN n := by
  go_enter Try.func21, Try.ntmps21
  go_wp2_with fail
  go_loopw [0, 5] (fun c i wr => ∃ (k : Nat) (cur : ByteArray) (n : Nat), k ≤ l.length ∧ i = .int .i64 ((k : Int) - 1) ∧ c = .string cur ∧ Hid (cur.data.toList = applyL s.data.toList (l.drop k)) ∧ wr = w.drewN n)
    (fun _ i _ => (intOf i + 1).toNat)
  case atStart => exact ⟨l.length, s, 0, Nat.le_refl _, rfl, rfl, by show _ = _; rw [List.drop_length, applyL]; simp [applyFrom], rfl⟩
  case round =>
    obtain ⟨k, cur, n, hk, rfl, rfl, hc, rfl⟩ := hrel
    cases k with
    | zero =>
      have hfin : Hid (cur = ⟨(applyL s.data.toList l).toArray⟩) := by
        show _ = _
        have := hc.out
        rw [List.drop_zero] at this
        rw [← this, Lib.mk_data]
      go_wp2_with fail
      go_ret
      exact ⟨by rw [← hfin.out]; rfl, _, rfl⟩
    | succ k =>
      have hlt : k < l.length := by omega
      have hx : l[k]? = some l[k] := List.getElem?_eq_getElem hlt
      obtain ⟨x, hX⟩ : ∃ x, x = l[k] := ⟨_, rfl⟩
      rw [← hX] at hx
      clear hX
      obtain ⟨hok, b, o, rfl, hbl, h0, h1, h2⟩ := h k x hx
      obtain ⟨o1, o2, o3, o4⟩ := hord.out.drop hx
      have hst := ref_step (s := s) (cur := cur) (x := x) (r := l.drop (k + 1)) o1 ⟨Int.le_refl _, o2, o4⟩ hc.out
      obtain ⟨s1, s2⟩ := hst
      rw [← drop_at hx] at s2
      have hcs := cur_size hn ht.out (ord_drop (k := k + 1) hord.out) (ord_inside (Int.le_refl 0) (ord_drop (k := k + 1) hord.out)) hc.out
      have hts : x.t.size ≤ 200000 := Nat.le_trans (mem_tsum (List.mem_of_getElem? hx)) ht.out
      have a1 := add_run (a := cur.extract 0 x.s.toNat) (b := x.t) (by rw [ByteArray.size_extract]; omega)
      have a2 := add_run (a := cur.extract 0 x.s.toNat ++ x.t) (b := cur.extract x.e.toNat cur.size) (by rw [ByteArray.size_append, ByteArray.size_extract, ByteArray.size_extract]; omega)
      have HS2 : Hid (((cur.extract 0 x.s.toNat ++ x.t) ++ cur.extract x.e.toNat cur.size).data.toList = applyL s.data.toList (l.drop k)) := by
        show _ = _
        rw [ByteArray.data_append, ByteArray.data_append]
        have := congrArg (fun b : ByteArray => b.data.toList) s2
        simpa using this
      have o5 : 0 ≤ x.e := by omega
      have o6 : x.s ≤ cur.size := by omega
      have hk0 : (0 : Int) ≤ (k : Int) := by omega
      have hk1 : (k : Int) < (l.length : Int) := by omega
      have Hx := Lib.hid hx
      clear s2 hx o4 hc
      go_wp2_with fail
      go_quiet (fail)
      go_wp2_with fail
      go_roundw
      case rel => exact ⟨k, _, _, by omega, by go_num, rfl, HS2, rfl⟩
      case measure => simp [intOf]
end Go.Proofs.Ytbkiliiopondaaa
