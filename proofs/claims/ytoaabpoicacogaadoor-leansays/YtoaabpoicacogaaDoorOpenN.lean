/-
  A list of nodes that came in, read: what the walks are told of it.
-/
import Derived.Test.YtoaabpoicacogaaDoorRows
import Derived.Test.YtoaabpoicacogaaDoorElN
import Derived.Deep.SlicePairs
import Derived.OpenShut
import Derived.ChangeOld
namespace Go.Proofs.YtoaabpoicacogaaDoor
open Go.RowKit Go.Proofs Go.Deep Go.ChangeShapes Go.WideShapes

theorem cells_node : Tryd.prog.cellsOf 38 = 4 := by kernel_rfl
theorem cells_int1 : Tryd.prog.cellsOf 3 = 1 := by kernel_rfl
theorem list_four {β : Type} : ∀ l : List β, l.length = 4 → ∃ a b c d, l = [a, b, c, d]
  | [a, b, c, d], _ => ⟨a, b, c, d, rfl⟩
theorem RdE.of_cells {P : Program} {α : Type} {E : El P α} {w : World} {blk off : Nat} {xs : List α} (hb : blk < w.heap.size)
    (h : ∀ i x, xs[i]? = some x → ∀ c v, (E.enc x)[c]? = some v → w.cell? ⟨blk, off + (i * E.K + c), none⟩ = some v) : RdE E w blk off xs := by
  refine ⟨hb, fun j v hv => ?_⟩
  have hj : j < xs.length * E.K := by have := (List.getElem?_eq_some_iff.1 hv).1; rw [E.flat_len] at this; exact this
  have hdm : j / E.K < xs.length := (Nat.div_lt_iff_lt_mul E.pos).2 hj
  have hc : j % E.K < E.K := Nat.mod_lt _ E.pos
  have ej : j / E.K * E.K + j % E.K = j := Nat.div_add_mod' j E.K
  rw [← ej, E.flat_get _ (j / E.K) hdm _ hc] at hv
  have := h (j / E.K) xs[j / E.K] (by simp [hdm]) (j % E.K) v hv
  rw [ej] at this; exact this
theorem open_nodes {H : Type} {enc : TypeId × Value → H} {W : World} {fuel : Nat} {p : Option Addr} {len cap : Nat} {x : DataW H × List MemPlace}
    (h : DataW.trod enc Tryd.prog W 0 (fun _ => true) true fuel 22 [.slice p len cap] = some x) : ∃ xs : List Nd, SlE EN W (.slice p len cap) xs ∧ xs.length = len ∧ xs.length ≤ maxLen := by
  rcases open_slice Tryd.underlying22 h with ⟨hcs, _⟩ | ⟨a, l, c, m, n, D, Pl, hcs, _, hl, hm, hmeq, _, hall⟩
  · simp only [List.cons.injEq, and_true, Value.slice.injEq] at hcs
    obtain ⟨rfl, rfl, rfl⟩ := hcs
    exact ⟨[], SlE.empty _ _ _, rfl, Nat.zero_le _⟩
  · simp only [List.cons.injEq, and_true, Value.slice.injEq] at hcs
    obtain ⟨rfl, rfl, rfl⟩ := hcs
    simp only [if_true] at hmeq
    subst hmeq
    rw [cells_node] at hall
    have key : ∀ i, ∃ q : Nd, i < m → ∀ t v, (EN.enc q)[t]? = some v → W.cell? (a.add (i * 4 + t)) = some v := fun i => by
      by_cases hi : i < m
      · obtain ⟨cs', h1, h2⟩ := hall i hi
        obtain ⟨_, hlen, hcell⟩ := World.cells?_some h1
        obtain ⟨xs, k, hk, hxy, _, hxl, hf⟩ := DataW.trod_struct Tryd.underlying38 h2
        obtain ⟨v0, v1, v2, v3, rfl⟩ := list_four cs' hlen
        obtain ⟨y0, y1, y2, y3, rfl⟩ := list_four xs hxl
        have g0 := hf 0 _ rfl
        have g1 := hf 1 _ rfl
        have g2 := hf 2 _ rfl
        have g3 := hf 3 _ rfl
        simp [cells_int1] at g0 g1 g2 g3
        obtain ⟨k0, e0, _⟩ := DataW.trod_int Tryd.underlying3 g0
        obtain ⟨k1, e1, _⟩ := DataW.trod_int Tryd.underlying3 g1
        obtain ⟨k2, e2, _⟩ := DataW.trod_int Tryd.underlying3 g2
        obtain ⟨k3, e3, _⟩ := DataW.trod_int Tryd.underlying3 g3
        simp only [List.cons.injEq, and_true] at e0 e1 e2 e3
        subst e0; subst e1; subst e2; subst e3
        refine ⟨(k0, k1, k2, k3), fun _ t v hv => ?_⟩
        have ht : t < 4 := by have := (List.getElem?_eq_some_iff.1 hv).1; exact this
        have hc := hcell t ht
        rw [add_add] at hc
        rw [hc]
        match t, hv, ht with
        | 0, hv, _ => cases hv; rfl
        | 1, hv, _ => cases hv; rfl
        | 2, hv, _ => cases hv; rfl
        | 3, hv, _ => cases hv; rfl
        | t + 4, _, ht => omega
      · exact ⟨(0, 0, 0, 0), fun h => absurd h hi⟩
    obtain ⟨q, hq⟩ := Classical.axiomOfChoice key
    have hsz : ((List.range len).map q).length = len := by simp
    refine ⟨(List.range len).map q, ?_, hsz, by rw [hsz]; omega⟩
    rcases Nat.eq_zero_or_pos len with h0 | h0
    · subst h0; exact SlE.empty _ _ _
    · obtain ⟨b, off, spot⟩ := a
      have hc0 := hq 0 (by omega) 0 _ rfl
      have hspot : spot = none := by simpa [Addr.add] using World.cell?_spot hc0
      subst hspot
      have hadd : ∀ j, (⟨b, off, none⟩ : Addr).add j = ⟨b, off + j, none⟩ := fun j => by unfold Addr.add; split <;> simp_all
      have hlt : b < W.heap.size := by
        rw [hadd] at hc0
        by_cases hb : b < W.heap.size
        · exact hb
        · exfalso
          have : W.heap[b]? = none := Array.getElem?_eq_none (by omega)
          simp [World.cell?, this] at hc0
      refine SlE.of_rd (RdE.of_cells hlt fun i x hx t v hv => ?_) hsz hl
      have hi : i < len := by have := (List.getElem?_eq_some_iff.1 hx).1; simpa using this
      have ex : q i = x := by simpa [hi] using hx
      have := hq i (by omega) t v (by rw [ex]; exact hv)
      rw [hadd] at this
      exact this
end Go.Proofs.YtoaabpoicacogaaDoor
