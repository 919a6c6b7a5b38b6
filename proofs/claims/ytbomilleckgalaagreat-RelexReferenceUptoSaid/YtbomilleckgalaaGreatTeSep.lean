import Derived.Test.YtbomilleckgalaaGreatTeBase
import Derived.Deep.QuietTactic
import Derived.BigQuiet
import Derived.Outline
namespace Go.Proofs.YtbomilleckgalaaGreat.Te
open Go.RowKit

theorem sep_no {n q : Int} {l : List Ed} {k : Nat} {x : Ed} (hq : Hid (sepFrom n (-1) l = sepFrom n q (l.drop k))) (hx : Hid (l[k]? = some x)) (h : x.s ≤ q ∨ x.e < x.s ∨ n < x.e) :
    Ending.returned (.bool false) = .returned (.bool (sepFrom n (-1) l)) := by
  have hx := hx.out
  obtain ⟨hk, rfl⟩ := List.getElem?_eq_some_iff.1 hx
  rw [hq.out, List.drop_eq_getElem_cons hk, sepFrom, if_pos h]

theorem sep_go {n q : Int} {l : List Ed} {k : Nat} {x : Ed} (hq : Hid (sepFrom n (-1) l = sepFrom n q (l.drop k))) (hx : Hid (l[k]? = some x)) (h : ¬ (x.s ≤ q ∨ x.e < x.s ∨ n < x.e)) :
    Hid (sepFrom n (-1) l = sepFrom n x.e (l.drop (k + 1))) := by
  have hx := hx.out
  obtain ⟨hk, rfl⟩ := List.getElem?_eq_some_iff.1 hx
  show _ = _
  rw [hq.out, List.drop_eq_getElem_cons hk, sepFrom, if_neg h]

set_option maxHeartbeats 400000 in
theorem sep_any (n : Int) (a : Option Addr) (cap : Nat) (l : List Ed) (w : World) (hl : l.length ≤ 50) (h : Eds w w.heap.size a l) :
    Calls Tryz.prog 78 #[.int .i64 n, .slice a l.length cap] w fun e w' => e = .returned (.bool (sepFrom n (-1) l)) ∧ Below w.heap.size w w' := by
  go_enter Tryz.func78, Tryz.ntmps78
  go_wp2
  go_loopw [4, 5, 10] (fun r p i wr => ∃ (k : Nat) (q : Int), k ≤ l.length ∧ r = .bool false ∧ i = .int .i64 k ∧ p = .int .i64 q ∧ Hid (sepFrom n (-1) l = sepFrom n q (l.drop k)) ∧ Below w.heap.size w wr) (fun _ _ i _ => l.length - (intOf i).toNat)
  case atStart => exact ⟨0, -1, Nat.zero_le _, rfl, rfl, rfl, rfl, Below.refl _ _⟩
  case round =>
    obtain ⟨k, q, hk, rfl, rfl, rfl, hq, hb⟩ := hrel
    by_cases hlt : k < l.length
    · have hx : l[k]? = some l[k] := List.getElem?_eq_getElem hlt
      obtain ⟨x, hX⟩ : ∃ x, x = l[k] := ⟨_, rfl⟩
      rw [← hX] at hx
      clear hX
      obtain ⟨hok, b, o, rfl, hbl, h0, h1, h2⟩ := (h.below hb) k x hx
      have hz := hb.size
      have Hx := Lib.hid hx
      clear hx
      go_wp2
      case roundEnd =>
        go_roundw
        case rel => exact ⟨k + 1, x.e, by omega, rfl, by go_num, rfl, sep_go hq Hx (by omega), hb.alloc hz _⟩
        case measure => simp [intOf]; omega
      all_goals
        go_ret
        exact ⟨sep_no hq Hx (by omega), hb.alloc hz _⟩
    · go_wp2
      go_ret
      exact ⟨by rw [hq.out, List.drop_eq_nil_of_le (by omega)]; rfl, hb⟩
end Go.Proofs.YtbomilleckgalaaGreat.Te
