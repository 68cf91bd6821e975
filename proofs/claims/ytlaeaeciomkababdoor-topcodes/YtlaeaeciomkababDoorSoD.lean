/-
  Rows of one's own that are written in a stretch, cut, cleared: for slices.Delete and slices.Insert.
-/
import Derived.Test.YtlaeaeciomkababDoorChg
import Derived.Deep.RegionLaw
import Derived.Lib.SliceRun
namespace Go.Proofs.YtlaeaeciomkababDoor
open Go.RowKit Go.Proofs

/-- A block's cells when a stretch of them is written. -/
theorem heap_stretch {b : Nat} {T : TypeId} {fr : Nat × Nat} : ∀ (vs pre olds post : List Value) (w : World) (cur : Array Value), w.heap[b]? = some (.cells cur T fr) → cur.toList = pre ++ (olds ++ post) → olds.length = vs.length →
    ∃ cur' : Array Value, (w.setCells b pre.length vs).heap[b]? = some (.cells cur' T fr) ∧ cur'.toList = pre ++ (vs ++ post)
  | [], pre, olds, post, w, cur, h, hs, hl => ⟨cur, h, by rw [hs, List.eq_nil_of_length_eq_zero hl]⟩
  | v :: r, pre, [], post, w, cur, h, hs, hl => by simp at hl
  | v :: r, pre, x :: olds, post, w, cur, h, hs, hl => by
    have h1 := heap_put (i := pre.length) h v
    obtain ⟨cur', e1, e2⟩ := heap_stretch r (pre ++ [v]) olds post (w.setCell ⟨b, pre.length, none⟩ v) _ h1 (by rw [Array.toList_setIfInBounds, hs, List.set_append_right _ _ (Nat.le_refl _)]; simp) (by simpa using hl)
    refine ⟨cur', ?_, by rw [e2]; simp⟩
    rw [List.length_append] at e1
    exact e1
section
variable {P : Program} {α : Type} {E : El P α}
theorem gb_setCells (w : World) (g o : Nat) (vs : List Value) : w.grownBy (w.setCells g o vs) (some g) := by
  induction vs generalizing w o with
  | nil => exact World.grownBy.refl w _
  | cons v r ih =>
    have h2 := ih (w.setCell ⟨g, o, none⟩ v) (o + 1)
    have hsz : (w.setCell ⟨g, o, none⟩ v).heap.size = w.heap.size := by simp [World.setCell]
    exact ⟨h2.os, h2.tape, h2.output, by rw [← hsz]; exact h2.size, fun k hk hne => (h2.block k (by rw [hsz]; exact hk) hne).trans (Below.heap_setCell _ _ _ _ (fun e => hne (by rw [e])))⟩
theorem OwnE.rest {w : World} {base g n cap : Nat} {d : List α} (h : OwnE E w base (.slice (Option.some ⟨g, 0, none⟩) n cap) d) : ∃ (cur : Array Value) (rest : List Value), d.length = n ∧ base ≤ g ∧ w.heap[g]? = Option.some (.cells cur E.T (0, 0)) ∧ n ≤ cap ∧ cap ≤ maxLen ∧ cur.size = cap * E.K ∧ cur.toList = E.flat d ++ rest := by
  obtain ⟨h1, ⟨e, _⟩ | ⟨g', cap', cur, e, hb, hg, hc, hm, hs, ht⟩⟩ := id h
  · cases e
  · simp only [Value.slice.injEq, Option.some.injEq, Addr.mk.injEq, and_true] at e
    obtain ⟨rfl, hn, rfl⟩ := e
    exact ⟨cur, cur.toList.drop (d.length * E.K), hn.symm, hb, hg, by omega, hm, hs, by rw [← ht, List.take_append_drop]⟩
theorem OwnE.of_rest {w : World} {base g n cap : Nat} {d : List α} {cur : Array Value} {rest : List Value} (hl : d.length = n) (hb : base ≤ g) (hg : w.heap[g]? = Option.some (.cells cur E.T (0, 0))) (hc : n ≤ cap) (hm : cap ≤ maxLen) (hs : cur.size = cap * E.K) (ht : cur.toList = E.flat d ++ rest) : OwnE E w base (.slice (Option.some ⟨g, 0, none⟩) n cap) d := by
  subst hl
  refine ⟨E.flat_len d, Or.inr ⟨g, cap, cur, rfl, hb, hg, hc, hm, hs, ?_⟩⟩
  rw [ht, List.take_append_of_le_length (by rw [E.flat_len]; exact Nat.le_refl _), List.take_of_length_le (by rw [E.flat_len]; exact Nat.le_refl _)]
/-- A stretch of elements is written. -/
theorem OwnE.stretch {w : World} {base g n cap : Nat} {d : List α} (h : OwnE E w base (.slice (Option.some ⟨g, 0, none⟩) n cap) d) {i : Nat} {zs : List α} (hi : i + zs.length ≤ n) :
    OwnE E (w.setCells g (i * E.K) (E.flat zs)) base (.slice (Option.some ⟨g, 0, none⟩) n cap) (d.take i ++ (zs ++ d.drop (i + zs.length))) := by
  obtain ⟨cur, rest, hl, hb, hg, hc, hm, hs, ht⟩ := h.rest
  have hd : d = d.take i ++ ((d.drop i).take zs.length ++ d.drop (i + zs.length)) := by
    rw [← List.drop_drop, List.take_append_drop, List.take_append_drop]
  have ht2 : cur.toList = E.flat (d.take i) ++ (E.flat ((d.drop i).take zs.length) ++ (E.flat (d.drop (i + zs.length)) ++ rest)) := by
    rw [ht]
    conv => lhs; rw [hd]
    rw [E.flat_append, E.flat_append]
    simp only [List.append_assoc]
  have hpl : (E.flat (d.take i)).length = i * E.K := by rw [E.flat_len, List.length_take, Nat.min_eq_left (by omega)]
  have hol : (E.flat ((d.drop i).take zs.length)).length = (E.flat zs).length := by rw [E.flat_len, E.flat_len, List.length_take, List.length_drop, Nat.min_eq_left (by omega)]
  obtain ⟨cur', e1, e2⟩ := heap_stretch (E.flat zs) _ _ _ w cur hg ht2 hol
  rw [hpl] at e1
  refine OwnE.of_rest (rest := rest) (by simp; omega) hb e1 hc hm ?_ (by rw [e2, E.flat_append, E.flat_append]; simp only [List.append_assoc])
  rw [← hs, ← Array.length_toList, ← Array.length_toList, e2, ht2]
  simp only [List.length_append]
  omega
/-- The first elements of a row of one's own. -/
theorem OwnE.cut {w : World} {base g n cap : Nat} {d : List α} (h : OwnE E w base (.slice (Option.some ⟨g, 0, none⟩) n cap) d) {m : Nat} (hm : m ≤ n) : OwnE E w base (.slice (Option.some ⟨g, 0, none⟩) m cap) (d.take m) := by
  obtain ⟨cur, rest, hl, hb, hg, hc, hx, hs, ht⟩ := h.rest
  refine OwnE.of_rest (rest := E.flat (d.drop m) ++ rest) (by simp; omega) hb hg (by omega) hx hs ?_
  rw [ht, ← List.append_assoc, ← E.flat_append, List.take_append_drop]
/-- .. of which a cell is there, and may be written. -/
theorem OwnE.there {w : World} {base g n cap : Nat} {d : List α} (h : OwnE E w base (.slice (Option.some ⟨g, 0, none⟩) n cap) d) {j : Nat} (hj : j < cap * E.K) : (w.cell? ⟨g, j, none⟩).isSome = true ∧ w.frozen? ⟨g, j, none⟩ = false := by
  obtain ⟨cur, rest, hl, hb, hg, hc, hx, hs, ht⟩ := h.rest
  have hlt : j < cur.size := by omega
  simp [World.cell?, World.frozen?, hg, hlt]
theorem OwnE.capBound {w : World} {base g n cap : Nat} {d : List α} (h : OwnE E w base (.slice (Option.some ⟨g, 0, none⟩) n cap) d) : d.length = n ∧ n ≤ cap ∧ cap ≤ maxLen := by
  obtain ⟨cur, rest, hl, hb, hg, hc, hx, hs, ht⟩ := h.rest
  exact ⟨hl, hc, hx⟩
/-- 'clear' of a stretch. -/
theorem run_clearE (z0 : α) (hz : ∀ m, (Builtin.zeroCells E.zero.cells m).toList = E.flat (List.replicate m z0)) (w : World) (ty : TypeId) (b o n c : Nat) (hn : 0 < n)
    (hc : ∀ j, j < n * E.K → (w.cell? ⟨b, o + j, none⟩).isSome = true ∧ w.frozen? ⟨b, o + j, none⟩ = false) :
    (Builtin.clear_ #[E.S] ty #[.slice (Option.some ⟨b, o, none⟩) n c]).run P w = .ok (.tuple #[]) (w.setCells b o (E.flat (List.replicate n z0))) := by
  obtain ⟨i0, hi, hz0, hz1, hz2⟩ := E.infoE
  have hl : (E.flat (List.replicate n z0)).length = n * E.K := by rw [E.flat_len]; simp
  have hst := run_storeCells_cells (P := P) b o (E.flat (List.replicate n z0)) 0 w (by rw [hl]; intro j hj; simpa using (hc j hj).1) (by rw [hl]; intro j hj; simpa using (hc j hj).2) (E.flat_cell _)
  simp only [Nat.add_zero] at hst
  obtain ⟨m, rfl⟩ : ∃ m, n = m + 1 := ⟨n - 1, by omega⟩
  simp [Builtin.clear_, run_underlying E.under, zeroValue, typeInfo, hi, hz0, hz, hst]
end
theorem zeros_of (z : Value) (k : Nat) (c : Array Value) (hc : c.toList = List.replicate k z) (hk : 0 < k) (m : Nat) : (Builtin.zeroCells c m).toList = List.replicate (m * k) z := by
  have hs : c.size = k := by rw [← Array.length_toList, hc]; simp
  simp only [Builtin.zeroCells, hs]
  apply List.ext_getElem
  · simp
  · intro i h1 h2
    have hi : i % k < c.size := by rw [hs]; exact Nat.mod_lt _ hk
    have hi2 : i % k < c.toList.length := by simpa using hi
    simp only [Array.toList_map, Array.toList_range, List.getElem_map, List.getElem_range, List.getElem_replicate]
    rw [getElem!_pos c _ hi]
    have : c[i % k] = c.toList[i % k] := by simp
    rw [this]
    simp only [hc, List.getElem_replicate]
theorem addr_add (g o t : Nat) : (⟨g, o, none⟩ : Addr).add t = ⟨g, o + t, none⟩ := by unfold Addr.add; split <;> simp_all
/-- What slices.Delete makes of a row of one's own. -/
theorem OwnE.deleted {P : Program} {α : Type} {E : El P α} {w : World} {base g n cap i j : Nat} {d : List α} (z0 : α) (h : OwnE E w base (.slice (Option.some ⟨g, 0, none⟩) n cap) d) (hij : i < j) (hj : j ≤ n) :
    OwnE E (w.setCells g (i * E.K) (E.flat (d.drop j))) base (.slice (Option.some ⟨g, 0, none⟩) n cap) (d.take i ++ (d.drop j ++ d.drop (i + (d.drop j).length))) ∧
      OwnE E ((w.setCells g (i * E.K) (E.flat (d.drop j))).setCells g ((i + (n - j)) * E.K) (E.flat (List.replicate (n - (i + (n - j))) z0))) base (.slice (Option.some ⟨g, 0, none⟩) (i + (n - j)) cap) (d.take i ++ d.drop j) ∧
      w.grownBy ((w.setCells g (i * E.K) (E.flat (d.drop j))).setCells g ((i + (n - j)) * E.K) (E.flat (List.replicate (n - (i + (n - j))) z0))) (Option.some g) := by
  obtain ⟨hl, hc, _⟩ := h.capBound
  have hdl : (d.drop j).length = n - j := by simp [hl]
  have h1 := h.stretch (i := i) (zs := d.drop j) (by rw [hdl]; omega)
  have h2 := h1.stretch (i := i + (n - j)) (zs := List.replicate (n - (i + (n - j))) z0) (by simp; omega)
  have h3 := h2.cut (m := i + (n - j)) (by omega)
  refine ⟨h1, ?_, ?_⟩
  · have e : (d.take i ++ (d.drop j ++ d.drop (i + (d.drop j).length))).take (i + (n - j)) = d.take i ++ d.drop j := by
      rw [← List.append_assoc, List.take_append_of_le_length (by simp; omega), List.take_of_length_le (by simp; omega)]
    rw [List.take_append_of_le_length (by simp; omega), List.take_take, Nat.min_self, e] at h3
    exact h3
  · have g1 := gb_setCells w g (i * E.K) (E.flat (d.drop j))
    have g2 := gb_setCells (w.setCells g (i * E.K) (E.flat (d.drop j))) g ((i + (n - j)) * E.K) (E.flat (List.replicate (n - (i + (n - j))) z0))
    exact ⟨g2.os.trans g1.os, g2.tape.trans g1.tape, g2.output.trans g1.output, Nat.le_trans g1.size g2.size, fun k hk hne => (g2.block k (Nat.lt_of_lt_of_le hk g1.size) hne).trans (g1.block k hk hne)⟩
theorem hid2 {p : Prop} (h : p) : Hid p := h
#print axioms OwnE.stretch
#print axioms run_clearE
end Go.Proofs.YtlaeaeciomkababDoor
