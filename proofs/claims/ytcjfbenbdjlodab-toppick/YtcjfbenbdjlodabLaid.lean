/-
  make and copy at items: what lies there then, whatever the two lengths are.
-/
import Derived.Test.YtcjfbenbdjlodabCopy
import Derived.Test.YtcjfbenbdjlodabWr
namespace Go.Proofs.Ytcjfbenbdjlodab
open Go.RowKit Go.Sort Go.Proofs

theorem made_cell {w : World} {base N g : Nat} (h : w.ownsRow base 38 2 (.slice (some ⟨g, 0, none⟩) N N) N (madeCells (Value.agg #[.int .i64 0, .int .i64 0]).cells (N * 2)).toList) (j : Nat) (hj : j < N * 2) : w.cell? ⟨g, j, none⟩ = some (.int .i64 0) := by
  rw [World.ownsRow.cellAt h j hj]
  have e : (madeCells (Value.agg #[.int .i64 0, .int .i64 0]).cells (N * 2)).toList[j]? = some ((madeCells (Value.agg #[.int .i64 0, .int .i64 0]).cells (N * 2))[j]'(by rw [size_madeCells]; exact hj)) := by
    rw [Array.getElem?_toList, Array.getElem?_eq_getElem]
  rw [e]
  unfold madeCells
  rw [Array.getElem_map, Array.getElem_range]
  have hc : (Value.agg #[.int .i64 0, .int .i64 0]).cells = #[.int .i64 0, .int .i64 0] := by rfl
  rw [hc]
  rcases Nat.mod_two_eq_zero_or_one j with q | q <;> simp [q]

/-- make and copy: a row of one's own that holds the items, and noughts behind them. -/
theorem laidSl (w w1 w2 : World) (N S cap : Nat) (p : Option Addr) (xs d : Array (Int × Int)) (hb : Below w.heap.size w w1) (hs : Sl w (.slice p S cap) xs) (hS : xs.size = S)
    (hown : w2.ownsRow w.heap.size 38 2 (.slice (some ⟨w1.heap.size, 0, none⟩) N N) N (madeCells (Value.agg #[.int .i64 0, .int .i64 0]).cells (N * 2)).toList) (hgr : w1.grownBy w2 none)
    (hd : d.size = N) (hpre : ∀ i, i < S → i < N → d[i]! = xs[i]!) (hz : ∀ i, S ≤ i → i < N → d[i]! = (0, 0)) :
    ∃ w3, (Builtin.copy_ #[34, 34] 3 #[.slice (some ⟨w1.heap.size, 0, none⟩) N N, .slice p S cap]).run Try.prog w2 = .ok (.int .i64 (Nat.min S N : Nat)) w3 ∧
      WrAt w3 w1.heap.size 0 d ∧ Below w.heap.size w w3 := by
  obtain ⟨hg2, hce, hfr⟩ := owned_cells hown
  have hmd := made_cell hown
  have hb2 : Below w.heap.size w w2 := hb.grown hgr hb.size (fun k e => by cases e)
  by_cases h0 : Nat.min S N = 0
  · refine ⟨w2, ?_, ⟨⟨hg2, fun i hi => ?_⟩, fun j hj => by simpa using hfr j (by rw [← hd]; exact hj)⟩, hb2⟩
    · have := run_copyK_none (P := Try.prog) w2 34 34 3 38 2 (some ⟨w1.heap.size, 0, none⟩) p N N S cap Try.underlying34 size_item h0
      rw [h0]; simpa [goInt] using this
    · rw [hd] at hi
      have hS0 : S = 0 := by have h0' : min S N = 0 := h0; omega
      rw [hz i (by omega) hi]
      exact ⟨by simpa using hmd (i * 2) (by omega), by simpa using hmd (i * 2 + 1) (by omega)⟩
  · obtain ⟨p', cap', e, hc, hq | ⟨blk, off, rfl, hr⟩⟩ := hs
    · exfalso; rw [hS] at hq; subst hq; simp at h0
    · simp only [Value.slice.injEq] at e
      obtain ⟨rfl, rfl, rfl⟩ := e
      have hrd := hr.below hb2 hr.1
      obtain ⟨m, hm⟩ : ∃ m, Nat.min xs.size N = m := ⟨_, rfl⟩
      have hmS : m ≤ xs.size := by rw [← hm]; exact Nat.min_le_left _ _
      have hmN : m ≤ N := by rw [← hm]; exact Nat.min_le_right _ _
      have hmx : m = xs.size ∨ m = N := by have hm' : min xs.size N = m := hm; omega
      have hy : (xs.extract 0 m).size = m := by simp; omega
      have hyg : ∀ i, i < m → (xs.extract 0 m)[i]! = xs[i]! := fun i hi => by
        rw [getElem!_pos _ i (by rw [hy]; exact hi), getElem!_pos xs i (by omega)]; simp
      have hrd' : RdAt w2 blk off (xs.extract 0 m) := ⟨hrd.1, fun i hi => by rw [hy] at hi; rw [hyg i hi]; exact hrd.2 i (by omega)⟩
      have hlen : (flatK encI 2 (xs.extract 0 m)).toList.length = m * 2 := by simp; omega
      rw [hm]
      refine ⟨w2.setCells w1.heap.size 0 (flatK encI 2 (xs.extract 0 m)).toList, ?_, ⟨⟨by rw [size_setCells]; exact hg2, fun i hi => ?_⟩, fun j hj => ?_⟩, below_setCells hb.size _ _ _ hb2⟩
      · have := run_copyK (P := Try.prog) w2 34 34 3 38 2 w1.heap.size 0 N N ⟨blk, off, none⟩ xs.size cap (flatK encI 2 (xs.extract 0 m)).toList Try.underlying34 size_item (by rw [hlen, hm])
          (fun j v hv => by
            obtain ⟨hj, rfl⟩ := List.getElem?_eq_some_iff.1 hv
            rw [hlen] at hj
            have hj' : j < (xs.extract 0 m).size * 2 := by rw [hy]; exact hj
            rw [show ((⟨blk, off, none⟩ : Addr).add j) = ⟨blk, off + j, none⟩ by unfold Addr.add; split <;> simp_all, hrd'.flat j hj', Array.getElem_toList, getElem!_pos _ j (by simpa using hj')])
          (fun j hj => by rw [hlen] at hj; simpa using hce j (by omega)) (fun j hj => by rw [hlen] at hj; simpa using hfr j (by omega)) (flatI_one _)
        rw [hm] at this
        simpa [goInt] using this
      · rw [hd] at hi
        by_cases him : i < m
        · have key : ∀ t, t < m * 2 → (w2.setCells w1.heap.size 0 (flatK encI 2 (xs.extract 0 m)).toList).cell? ⟨w1.heap.size, t, none⟩ = some (flatK encI 2 (xs.extract 0 m))[t]! := fun t ht => by
            have := World.cell?_setCells_in w1.heap.size (flatK encI 2 (xs.extract 0 m)).toList 0 w2 (fun j hj => by rw [hlen] at hj; simpa using hce j (by omega)) t (by rw [hlen]; exact ht)
            rw [Nat.zero_add] at this
            rw [this, Array.getElem_toList, getElem!_pos _ t (by simpa [hy] using ht)]
          have f0 := flatI_get (xs.extract 0 m) (i * 2) (by rw [hy]; omega)
          have f1 := flatI_get (xs.extract 0 m) (i * 2 + 1) (by rw [hy]; omega)
          rw [if_pos (by omega), show i * 2 / 2 = i by omega, hyg i him] at f0
          rw [if_neg (by omega), show (i * 2 + 1) / 2 = i by omega, hyg i him] at f1
          rw [hpre i (by omega) hi, Nat.zero_add]
          exact ⟨by rw [key (i * 2) (by omega), f0], by rw [key (i * 2 + 1) (by omega), f1]⟩
        · have hout : ∀ t, m * 2 ≤ t → (w2.setCells w1.heap.size 0 (flatK encI 2 (xs.extract 0 m)).toList).cell? ⟨w1.heap.size, t, none⟩ = w2.cell? ⟨w1.heap.size, t, none⟩ := fun t ht =>
            World.cell?_setCells_out w1.heap.size _ 0 w2 ⟨w1.heap.size, t, none⟩ fun _ _ => Or.inr (by rw [hlen]; simpa using ht)
          rw [hz i (by omega) hi, Nat.zero_add, hout _ (by omega), hout _ (by omega)]
          exact ⟨hmd (i * 2) (by omega), hmd (i * 2 + 1) (by omega)⟩
      · rw [World.frozen?_setCells, Nat.zero_add]
        exact hfr j (by rw [← hd]; exact hj)
end Go.Proofs.Ytcjfbenbdjlodab
