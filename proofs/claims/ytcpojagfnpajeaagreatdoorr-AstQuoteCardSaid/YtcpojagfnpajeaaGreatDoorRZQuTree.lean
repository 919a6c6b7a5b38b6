/-
  A quoted string is one token; the tokens of a constant with a quoted string (no program).
  The tree of a constant with a quoted string (no program).
-/
import Derived.Test.YtcpojagfnpajeaaGreatDoorRZAsEnd
import Derived.Test.YtcpojagfnpajeaaGreatDoorRZAsPrint
import Derived.KernelRfl
namespace Go.Proofs.YtcpojagfnpajeaaGreatDoorR.Ps
open Go.RowKit

theorem lit_quote (b : List UInt8) : ∀ (l : List UInt8) (k : Nat), Lx.lit (quoteL l ++ b) k false = k + (quoteL l).length
  | [], k => by simp [quoteL, Lx.lit]
  | c :: r, k => by
    unfold quoteL
    split
    · rw [List.cons_append, List.cons_append, Lx.lit, if_neg (by decide), if_neg (by decide), Lx.lit, if_neg (by decide), if_neg (by decide)]
      have := lit_quote b r (k + 1 + 1)
      simp only [List.length_cons]
      rw [show (!(!false && (92 : UInt8) == 92) && (110 : UInt8) == 92) = false from rfl, this]
      omega
    · rename_i h10
      split
      · rename_i h
        have h10' : ¬ c = 10 := by simpa using h10
        rw [List.cons_append, List.cons_append, Lx.lit, if_neg (by decide), if_neg (by decide), Lx.lit, if_neg h10', if_neg (by simp)]
        have := lit_quote b r (k + 1 + 1)
        simp only [List.length_cons]
        rw [show (!(!false && (92 : UInt8) == 92) && c == 92) = false from rfl, this]
        omega
      · rename_i h
        have h10' : ¬ c = 10 := by simpa using h10
        have h34 : ¬ c = 34 := by simp at h; exact h.1
        have h92 : (c == 92) = false := by simp at h; simpa using h.2
        rw [List.cons_append, Lx.lit, if_neg h10', if_neg (by simp [h34])]
        have := lit_quote b r (k + 1)
        simp only [List.length_cons]
        rw [show (!false && c == 92) = false by rw [h92]; rfl, this]
        omega

theorem tok_quote (l b : List UInt8) : Lx.tok0 (quoteS l ++ b) = (106, (quoteS l).length) := by
  unfold quoteS
  rw [List.cons_append, Lx.tok0, if_neg (by decide), if_neg ?_, if_neg (by decide), if_neg (by decide), if_pos rfl, lit_quote, if_neg (by omega)]
  · simp only [List.length_cons]
    rw [Nat.add_comm]
  · cases quoteL l ++ b <;> simp

theorem T_quote (l b : List UInt8) : Lx.T (quoteS l ++ b) = (106, quoteS l) :: Lx.T b := by
  have h := tok_quote l b
  rw [Lx.T_cons (by simp [quoteS])]
  have hn : Lx.tokN (quoteS l ++ b) = (quoteS l).length := by unfold Lx.tokN; rw [h]
  have hk : Lx.tokK (quoteS l ++ b) = 106 := by unfold Lx.tokK; rw [h]; simp
  rw [hn, hk, List.take_left, List.drop_left]

def quPre : List UInt8 := [99, 111, 110, 115, 116, 32, 99, 58, 32, 115, 116, 114, 105, 110, 103, 32, 61, 32]
theorem T_const (l : List UInt8) : Lx.T (quPre ++ (quoteS l ++ [59])) = [(104, [99, 111, 110, 115, 116]), (101, [32]), (103, [99]), (107, [58]), (101, [32]), (103, [115, 116, 114, 105, 110, 103]), (101, [32]), (107, [61]), (101, [32]), (106, quoteS l), (107, [59])] := by
  have hq : ∀ b, quoteS l ++ b = 34 :: (quoteL l ++ b) := fun b => rfl
  have hT : Lx.T (quoteS l ++ [59]) = [(106, quoteS l), (107, [59])] := by rw [T_quote]; rfl
  have step : ∀ (a : List UInt8) (k : Int) (r : List UInt8), a ++ r ≠ [] → Lx.tokK (a ++ r) = k → Lx.tokN (a ++ r) = a.length → Lx.T (a ++ r) = (k, a) :: Lx.T r := fun a k r h0 h1 h2 => by
    rw [Lx.T_cons h0, h1, h2, List.take_left, List.drop_left]
  have e0 : quPre ++ (quoteS l ++ [59]) = [99, 111, 110, 115, 116] ++ ([32] ++ ([99] ++ ([58] ++ ([32] ++ ([115, 116, 114, 105, 110, 103] ++ ([32] ++ ([61] ++ ([32] ++ (quoteS l ++ [59]))))))))) := rfl
  rw [e0, step _ 104 _ (by simp) (by kernel_rfl) (by kernel_rfl), step _ 101 _ (by simp) (by kernel_rfl) (by kernel_rfl), step _ 103 _ (by simp) (by kernel_rfl) (by kernel_rfl), step _ 107 _ (by simp) (by kernel_rfl) (by kernel_rfl),
    step _ 101 _ (by simp) (by kernel_rfl) (by kernel_rfl), step _ 103 _ (by simp) (by kernel_rfl) (by kernel_rfl), step _ 101 _ (by simp) (by kernel_rfl) (by kernel_rfl), step _ 107 _ (by simp) (by kernel_rfl) (by kernel_rfl), step _ 101 _ (by simp) (by kernel_rfl) (by kernel_rfl), hT]
end Go.Proofs.YtcpojagfnpajeaaGreatDoorR.Ps

namespace Go.Proofs.YtcpojagfnpajeaaGreatDoorR.Ps
open Go.RowKit

theorem unqL_quote : ∀ (l : List UInt8) (i : Nat), unqL i (quoteL l) = (l, [])
  | [], i => rfl
  | c :: r, i => by
    have hne : ∃ d q, quoteL r = d :: q := by
      cases r with
      | nil => exact ⟨_, _, rfl⟩
      | cons x r => unfold quoteL; split; exact ⟨_, _, rfl⟩; split; exact ⟨_, _, rfl⟩; exact ⟨_, _, rfl⟩
    unfold quoteL
    split
    · rename_i h
      rw [unqL, if_pos (by decide), unqL_quote r (i + 2)]
      have : c = 10 := by simpa using h
      subst this
      dsimp only
      rw [if_pos (by decide)]
    · rename_i h10
      split
      · rename_i h
        rw [unqL, if_pos (by decide), unqL_quote r (i + 2)]
        have h110 : ¬ (c == 110) = true := by
          intro e
          have : c = 110 := by simpa using e
          subst this
          exact absurd h (by decide)
        dsimp only
        rw [if_neg h110, if_pos h]
      · rename_i h
        obtain ⟨d, q, hq⟩ := hne
        have h92 : ¬ (c == 92) = true := by simp at h; simpa using h.2
        have ih := unqL_quote r (i + 1)
        rw [hq] at ih ⊢
        rw [unqL, if_neg h92, ih]
theorem unq_quote (l : List UInt8) : unq (quoteS l) = (l, []) := unqL_quote l 1

abbrev bsE : ByteArray := ⟨#[]⟩
def quT (l : List UInt8) : Tree :=
  .node 8 bsE [.node 104 (Lx.bs [99, 111, 110, 115, 116]) [], .node 101 (Lx.bs [32]) [], .node 103 (Lx.bs [99]) [], .node 107 (Lx.bs [58]) [], .node 17 bsE [.node 18 bsE [.node 101 (Lx.bs [32]) [], .node 103 (Lx.bs [115, 116, 114, 105, 110, 103]) []]], .node 101 (Lx.bs [32]) [], .node 107 (Lx.bs [61]) [], .node 29 bsE [.node 101 (Lx.bs [32]) [], .node 106 (Lx.bs (quoteS l)) []], .node 107 (Lx.bs [59]) []]
abbrev quS (l : List UInt8) : List UInt8 := quPre ++ (quoteS l ++ [59])
set_option maxRecDepth 100000 in
theorem parse_const (l : List UInt8) : parseC (quS l) = [quT l] := by
  unfold parseC
  rw [T_const]
  kernel_rfl

abbrev quN (l : List UInt8) : Nd := .mk 29 0 l 18 (18 + ((quoteS l).length : Int)) (-1) []
abbrev quC (l : List UInt8) : Nd := .mk 8 0 [99] 0 (18 + ((quoteS l).length : Int) + 1) 6 [.mk 17 0 [] 9 15 (-1) [.mk 18 0 [115, 116, 114, 105, 110, 103] 9 15 9 []], quN l]
theorem bld_str (l : List UInt8) : bldT (.node 29 bsE [.node 101 (Lx.bs [32]) [], .node 106 (Lx.bs (quoteS l)) []]) 17 = (quN l, 18 + (quoteS l).length, []) := by
  have hne : quoteS l ≠ [] := by simp [quoteS]
  simp [bldT, bldL, tokA, tokD, setF, sigT, cov, acc0, ndOf, Lx.L_bs, unq_quote, Tree.k, Tree.t, hne]
theorem bld_const (l : List UInt8) : bldT (quT l) 0 = (quC l, 18 + (quoteS l).length + 1, []) := by
  have h := bld_str l
  have hk0 : (Tree.node 29 bsE [.node 101 (Lx.bs [32]) [], .node 106 (Lx.bs (quoteS l)) []]).k < 100 := by show (29 : Int) < 100; omega
  have e1 : bldL 8 [.node 104 (Lx.bs [99, 111, 110, 115, 116]) [], .node 101 (Lx.bs [32]) [], .node 103 (Lx.bs [99]) [], .node 107 (Lx.bs [58]) [], .node 17 bsE [.node 18 bsE [.node 101 (Lx.bs [32]) [], .node 103 (Lx.bs [115, 116, 114, 105, 110, 103]) []]], .node 101 (Lx.bs [32]) [], .node 107 (Lx.bs [61]) []] (acc0 0) = ⟨0, [99], 0, 17, 6, [.mk 17 0 [] 9 15 (-1) [.mk 18 0 [115, 116, 114, 105, 110, 103] 9 15 9 []]], false, 17, []⟩ := by kernel_rfl
  have e2 : bldT (quT l) 0 = (let a := bldL 8 [.node 29 bsE [.node 101 (Lx.bs [32]) [], .node 106 (Lx.bs (quoteS l)) []], .node 107 (Lx.bs [59]) []] (bldL 8 [.node 104 (Lx.bs [99, 111, 110, 115, 116]) [], .node 101 (Lx.bs [32]) [], .node 103 (Lx.bs [99]) [], .node 107 (Lx.bs [58]) [], .node 17 bsE [.node 18 bsE [.node 101 (Lx.bs [32]) [], .node 103 (Lx.bs [115, 116, 114, 105, 110, 103]) []]], .node 101 (Lx.bs [32]) [], .node 107 (Lx.bs [61]) []] (acc0 0)); (ndOf 8 a, a.o, a.d)) := by kernel_rfl
  rw [e2, e1, bldL, if_pos hk0, h]
  rfl
def rootQ (l : List UInt8) : Nd := .mk 1 0 [] 0 (quS l).length (-1) [quC l]
theorem tree_const (l : List UInt8) : treeA (quS l) = inner 1 [quT l] := by unfold treeA; rw [parse_const]
theorem bld_file (l : List UInt8) : bldT (inner 1 [quT l]) 0 = (.mk 1 0 [] 0 (18 + ((quoteS l).length : Int) + 1) (-1) [quC l], 18 + (quoteS l).length + 1, []) := by
  have h : bldT (quT l) (acc0 0).o = (quC l, 18 + (quoteS l).length + 1, []) := bld_const l
  have hk0 : (quT l).k < 100 := by show (8 : Int) < 100; omega
  have e2 : bldT (inner 1 [quT l]) 0 = (let a := bldL 1 [quT l] (acc0 0); (ndOf 1 a, a.o, a.d)) := rfl
  rw [e2, bldL, if_pos hk0, h]
  rfl
theorem root_const (l : List UInt8) : rootA (quS l) = rootQ l := by
  unfold rootA rootOf
  rw [tree_const, bld_file]
  kernel_rfl
theorem diag_const (l : List UInt8) : diagA (quS l) = [] := by
  unfold diagA diagsOf
  rw [tree_const, bld_file]
  kernel_rfl
end Go.Proofs.YtcpojagfnpajeaaGreatDoorR.Ps
