/-
  Appending from whatever source (nil, or cells behind an address); a part of an owned slice as a source.
-/
import Derived.Test.YtdmmoknddkfnmaaTrace
namespace Go.Proofs.Ytdmmoknddkfnmaa
open Go.RowKit

/-- The slice value x yields m elements of the given size: the cells news. -/
def SrcIs (w : World) (x : Value) (m size : Nat) (news : List Value) : Prop :=
  news.length = m * size ∧ (∀ u, u ∈ news → u.oneCell' = true) ∧ ((x = .slice none 0 0 ∧ m = 0) ∨ ∃ ad c, x = .slice (some ad) m c ∧ ∀ j u, news[j]? = some u → w.cell? (ad.add j) = some u)

theorem wpList_append_src {P : Program} {w : World} {ops : Array Oper} {rest : List Oper} {o : Oper} {a : Act} {Q : Exit → Act → World → Prop} (hgd : o.guard = none) (s x : Operand) (t : TypeId)
    (ho : o.op = .call { callee := .builtin .append, args := #[s, x], argTypes := #[t, t] })
    (base : Nat) (e : TypeId) (i : TypeInfo) (z : Value) (size bytes : Nat) (ht : P.underlying t = some (.slice e)) (hi : P.info? e = some i) (hz : i.zero = some z)
    (hsize : i.size = size) (hby : i.bytes = bytes) (hzs : z.cells.size = size) (hsz : 0 < size)
    (v : Value) (n : Nat) (xs : List Value) (hs : a.eval s = v) (hown : w.ownsRow base e size v n xs)
    (xv : Value) (m : Nat) (news : List Value) (hx : a.eval x = xv) (hsrc : SrcIs w xv m size news)
    (h63 : n + m ≤ maxLen) (hbytes : (n + m) * bytes ≤ 140737488355328) (hbase : base ≤ w.heap.size)
    (h : ∀ v' w', w'.ownsRow base e size v' (n + m) (xs ++ news) → w.grownBy w' v.ownBlock → wpList P ops Q rest (a.put o.dst v') w') : wpList P ops Q (o :: rest) a w := by
  obtain ⟨hl, h1, hc | ⟨ad, c, rfl, hc⟩⟩ := hsrc
  · obtain ⟨rfl, rfl⟩ := hc
    have hn : news = [] := List.eq_nil_of_length_eq_zero (by simpa using hl)
    subst hn
    refine wpList_append_own_none hgd s x t ho base e i size ht hi v n xs hs hown hx ?_
    exact h v w (by simpa using hown) ⟨rfl, rfl, rfl, Nat.le_refl _, fun _ _ _ => rfl⟩
  · exact wpList_append_own w hgd s x t ho base e i z size bytes ht hi hz hsize hby hzs hsz v n xs hs hown ad m c news hx hl hc h1 h63 hbytes hbase fun v' w' a b _ => h v' w' a b

theorem tbCells_one (l : List Tb) : ∀ u, u ∈ tbCells l → u.oneCell' = true := by
  intro u hu
  obtain ⟨x, _, hx⟩ := List.mem_flatMap.1 hu
  simp [Tb.cells] at hx
  rcases hx with rfl | rfl <;> rfl

theorem tbCells_part {l : List Tb} {lo m j : Nat} {u : Value} (h : (tbCells ((l.drop lo).take m))[j]? = some u) : (tbCells l)[lo * 2 + j]? = some u := by
  have e1 : tbCells l = tbCells (l.take lo) ++ (tbCells ((l.drop lo).take m) ++ tbCells ((l.drop lo).drop m)) := by
    rw [← tbCells_append, ← tbCells_append, List.take_append_drop, List.take_append_drop]
  have hlo : lo ≤ l.length := by
    rcases Nat.lt_or_ge l.length lo with hlt | hge
    · rw [List.drop_eq_nil_of_le (by omega)] at h; simp [tbCells] at h
    · exact hge
  have e2 : (tbCells (l.take lo)).length = lo * 2 := by rw [tbCells_length, List.length_take, Nat.min_eq_left hlo]
  have hj : j < (tbCells ((l.drop lo).take m)).length := (List.getElem?_eq_some_iff.1 h).1
  rw [e1, List.getElem?_append_right (by omega), e2, List.getElem?_append_left (by omega), show lo * 2 + j - lo * 2 = j from by omega]
  exact h

/-- What a part of an owned slice yields, wherever its cells still stand. -/
theorem part_src {T t : TypeId} (htu : Try.prog.underlying t = some (.slice T)) (hte : Try.prog.elem t = T) (hsz : ∀ w, (sizeOf T).run Try.prog w = .ok 2 w) {w : World} {B : Nat} {v : Value} {l : List Tb} (h : OwnsT T w B v l) (lo hi : Int) (h0 : 0 ≤ lo) (h1 : lo ≤ hi) (h2 : hi ≤ l.length) :
    ∃ xv, (∀ W : World, (Instr.slice t v (some (.int .i64 lo)) (some (.int .i64 hi)) none).run Try.prog W = .ok xv W) ∧
      ∀ W : World, W.ownsRow B T 2 v l.length (tbCells l) → SrcIs W xv (hi.toNat - lo.toNat) 2 (tbCells ((l.drop lo.toNat).take (hi.toNat - lo.toNat))) := by
  have hlen : (tbCells ((l.drop lo.toNat).take (hi.toNat - lo.toNat))).length = (hi.toNat - lo.toNat) * 2 := by
    rw [tbCells_length, List.length_take, List.length_drop, Nat.min_eq_left (by omega)]
  have htu' : Try.prog.underlying t = some (.slice (Try.prog.elem t)) := by rw [hte]; exact htu
  rcases h.2 with ⟨rfl, hn⟩ | ⟨g, cap, cur, rfl, hb, hg, hc1, hc2, hc3, hc4⟩
  · obtain rfl : lo = 0 := by omega
    obtain rfl : hi = 0 := by omega
    refine ⟨.slice none 0 0, fun W => ?_, fun W _ => ⟨hlen, tbCells_one _, .inl ⟨rfl, rfl⟩⟩⟩
    rw [run_slice_lh W t none 0 0 htu' .i64 .i64 0 0 (by omega) (by omega) (by omega), hte, hsz W]
    rfl
  · refine ⟨sliced (some ⟨g, 0, none⟩) lo.toNat hi.toNat cap 2, fun W => ?_, fun W hW => ⟨hlen, tbCells_one _, .inr ?_⟩⟩
    · rw [run_slice_lh W t _ _ _ htu' .i64 .i64 lo hi h0 h1 (by omega), hte, hsz W]
      rfl
    · have hcells : ∀ j u, (tbCells l)[j]? = some u → W.cell? ⟨g, j, none⟩ = some u := fun j u hu => by
        have := hW.cells (g := g) rfl j u hu
        have hadd : (⟨g, 0, none⟩ : Addr).add j = ⟨g, j, none⟩ := by unfold Addr.add; split <;> simp_all
        rwa [hadd] at this
      by_cases hcap : cap = lo.toNat
      · refine ⟨⟨g, 0, none⟩, cap - lo.toNat, by simp [sliced, hcap], fun j u hu => ?_⟩
        have hj : j < (tbCells ((l.drop lo.toNat).take (hi.toNat - lo.toNat))).length := (List.getElem?_eq_some_iff.1 hu).1
        omega
      · refine ⟨⟨g, lo.toNat * 2, none⟩, cap - lo.toNat, ?_, fun j u hu => ?_⟩
        · have hadd : (⟨g, 0, none⟩ : Addr).add (lo.toNat * 2) = ⟨g, lo.toNat * 2, none⟩ := by unfold Addr.add; split <;> simp_all
          simp [sliced, hcap, hadd]
        · have hadd : (⟨g, lo.toNat * 2, none⟩ : Addr).add j = ⟨g, lo.toNat * 2 + j, none⟩ := by unfold Addr.add; split <;> simp_all
          rw [hadd]
          exact hcells _ _ (tbCells_part hu)

theorem part_src_l {T t : TypeId} (htu : Try.prog.underlying t = some (.slice T)) (hte : Try.prog.elem t = T) (hsz : ∀ w, (sizeOf T).run Try.prog w = .ok 2 w) {w : World} {B : Nat} {v : Value} {l : List Tb} (h : OwnsT T w B v l) (lo : Int) (h0 : 0 ≤ lo) (h1 : lo ≤ l.length) :
    ∃ xv, (∀ W : World, (Instr.slice t v (some (.int .i64 lo)) none none).run Try.prog W = .ok xv W) ∧
      ∀ W : World, W.ownsRow B T 2 v l.length (tbCells l) → SrcIs W xv (l.length - lo.toNat) 2 (tbCells (l.drop lo.toNat)) := by
  obtain ⟨xv, hr, hs⟩ := part_src htu hte hsz h lo l.length h0 h1 (Int.le_refl _)
  have htu' : Try.prog.underlying t = some (.slice (Try.prog.elem t)) := by rw [hte]; exact htu
  refine ⟨xv, fun W => ?_, fun W hW => ?_⟩
  · rw [← hr W]
    rcases h.2 with ⟨rfl, hn⟩ | ⟨g, cap, cur, rfl, hb, hg, hc1, hc2, hc3, hc4⟩
    · rw [run_slice_l W t none 0 0 htu' .i64 lo h0 (by omega), run_slice_lh W t none 0 0 htu' .i64 .i64 lo l.length h0 h1 (by omega)]
      simp [hn]
    · rw [run_slice_l W t _ _ _ htu' .i64 lo h0 h1, run_slice_lh W t _ _ _ htu' .i64 .i64 lo l.length h0 h1 (by omega)]
      simp
  · have := hs W hW
    simp only [Int.toNat_natCast] at this
    rwa [List.take_of_length_le (by rw [List.length_drop]; omega)] at this
end Go.Proofs.Ytdmmoknddkfnmaa
