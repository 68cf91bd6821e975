/-
  The document's soft heap in memory: a list of numbers that is read, blocks that are kept, and the heap itself.
-/
import Derived.Test.YtdpfijhkbhmkgaaDoorRefS3
import Derived.Test.YtdpfijhkbhmkgaaDoorRefS4
import Derived.Test.YtdpfijhkbhmkgaaDoorSoL
namespace Go.Proofs.YtdpfijhkbhmkgaaDoor
open Go.RowKit Go.Sort Go.Proofs

/-- A list of numbers that is read, and lies in no block of F. -/
def NumX (w : World) (F : Nat → Prop) (s : SlW) (l : List Nat) : Prop :=
  s.2.1 = l.length ∧ l.length ≤ s.2.2 ∧ ((s.1 = none ∧ l = []) ∨ ∃ blk, s.1 = some ⟨blk, 0, none⟩ ∧ ¬ F blk ∧ RdE ET w blk 0 l)
theorem NumX.nil (w : World) (F : Nat → Prop) : NumX w F (Option.none, 0, 0) [] := ⟨rfl, Nat.le_refl _, Or.inl ⟨rfl, rfl⟩⟩
theorem NumX.below {w w' : World} {F : Nat → Prop} {s : SlW} {l : List Nat} (h : NumX w F s l) (hb : Below w.heap.size w w') : NumX w' F s l := by
  obtain ⟨h1, h2, h3 | ⟨blk, e, hn, hr⟩⟩ := h
  · exact ⟨h1, h2, Or.inl h3⟩
  · exact ⟨h1, h2, Or.inr ⟨blk, e, hn, hr.below hb hr.1⟩⟩
theorem NumX.kept {w w' : World} {F F' G : Nat → Prop} {s : SlW} {l : List Nat} (h : NumX w F s l) (hg : Chg G w w') (hG : ∀ j, G j → F j) (hF : ∀ j, F' j → F j ∨ w.heap.size ≤ j) : NumX w' F' s l := by
  obtain ⟨h1, h2, h3 | ⟨blk, e, hn, hr⟩⟩ := h
  · exact ⟨h1, h2, Or.inl h3⟩
  · refine ⟨h1, h2, Or.inr ⟨blk, e, fun q => ?_, hr.block hg.size (hg.block blk hr.1 fun z => hn (hG _ z))⟩⟩
    rcases hF blk q with z | z
    · exact hn z
    · have := hr.1; omega
theorem NumX.at {w : World} {F : Nat → Prop} {s : SlW} {l : List Nat} (h : NumX w F s l) {k i : Nat} (hk : l[k]? = some i) : ∃ blk, s.1 = some ⟨blk, 0, none⟩ ∧ blk < w.heap.size ∧ w.cell? ⟨blk, k, none⟩ = some (.int .i64 (i : Int)) := by
  obtain ⟨h1, h2, h3 | ⟨blk, e, hn, hr⟩⟩ := h
  · rw [h3.2] at hk; simp at hk
  · refine ⟨blk, e, hr.1, ?_⟩
    have := hr.cell hk (c := 0) (v := .int .i64 (i : Int)) rfl
    simpa [ET] using this
/-- A block that holds these values, and may be written. -/
def BlkAt (w : World) (b : Nat) (vs : Array Value) : Prop := ∃ T, w.heap[b]? = some (.cells vs T)
section
variable {w w' : World} {b : Nat} {vs : Array Value}
theorem BlkAt.lt (h : BlkAt w b vs) : b < w.heap.size := by obtain ⟨T, h⟩ := h; exact (Array.getElem?_eq_some_iff.1 h).1
theorem BlkAt.cell (h : BlkAt w b vs) {j : Nat} {v : Value} (e : vs[j]? = some v) : w.cell? ⟨b, j, none⟩ = some v := by
  obtain ⟨T, h⟩ := h
  simp [World.cell?, h, e]
theorem BlkAt.fr (h : BlkAt w b vs) (j : Nat) : w.frozen? ⟨b, j, none⟩ = false := by
  obtain ⟨T, h⟩ := h
  simp [World.frozen?, h]
theorem BlkAt.kept (h : BlkAt w b vs) (e : w'.heap[b]? = w.heap[b]?) : BlkAt w' b vs := by
  obtain ⟨T, h⟩ := h
  exact ⟨T, e.trans h⟩
theorem BlkAt.below (h : BlkAt w b vs) (hb : Below w.heap.size w w') : BlkAt w' b vs := h.kept (hb.block b h.lt)
theorem BlkAt.chg (h : BlkAt w b vs) {G : Nat → Prop} (hc : Chg G w w') (hn : ¬ G b) : BlkAt w' b vs := h.kept (hc.block b h.lt hn)
theorem BlkAt.put (h : BlkAt w b vs) (i : Nat) (v : Value) : BlkAt (w.setCell ⟨b, i, none⟩ v) b (vs.setIfInBounds i v) := by
  obtain ⟨T, h⟩ := h
  exact ⟨T, heap_put h v⟩
theorem BlkAt.far (h : BlkAt w b vs) {q i : Nat} (v : Value) (hq : b ≠ q) : BlkAt (w.setCell ⟨q, i, none⟩ v) b vs := h.kept (heap_far v hq)
theorem BlkAt.new (w : World) (vs : Array Value) (T : TypeId) : BlkAt (w.alloc (.cells vs T)) w.heap.size vs := ⟨T, heap_alloc_new w _⟩
end
/-- The document's heap: cells of its own from block base on, nothing of it in a block of F. -/
def DocS (w : World) (base : Nat) (F : Nat → Prop) (c t : SlW) (n : Nat) (ts : List SN) : Prop :=
  ∃ Q is f, CellsAt EC w base (.slice c.1 c.2.1 c.2.2) F Q ∧ HeapA (plainQ Q) ts is f ∧ NumX w (fun j => (Value.slice c.1 c.2.1 c.2.2).ownBlock = some j ∨ F j) t is ∧ Q.length + ts.length ≤ 2 * n
theorem DocS.below {w w' : World} {base : Nat} {F : Nat → Prop} {c t : SlW} {n : Nat} {ts : List SN} (h : DocS w base F c t n ts) (hb : Below w.heap.size w w') : DocS w' base F c t n ts := by
  obtain ⟨Q, is, f, h1, h2, h3, h4⟩ := h
  exact ⟨Q, is, f, h1.below hb, h2, h3.below hb, h4⟩
/-- Foreign blocks change. -/
theorem DocS.foreign {w w' : World} {base : Nat} {F F' : Nat → Prop} {c t : SlW} {n : Nat} {ts : List SN} (h : DocS w base F c t n ts) (hc : Chg F w w') (hF : ∀ j, F' j → F j ∨ w.heap.size ≤ j) (hl : ∀ j, F' j → j < w'.heap.size) : DocS w' base F' c t n ts := by
  obtain ⟨Q, is, f, h1, h2, h3, h4⟩ := h
  exact ⟨Q, is, f, h1.foreign hc hF hl, h2, h3.kept hc (fun j z => Or.inr z) (fun j z => by
    rcases z with z | z
    · exact Or.inl (Or.inl z)
    · exact (hF j z).imp_left Or.inr), h4⟩
/-- What SoftMany counts. -/
theorem DocS.counts {w : World} {base : Nat} {F : Nat → Prop} {c t : SlW} {n : Nat} {ts : List SN} (h : DocS w base F c t n ts) (hn : n ≤ 400) (hm : (allS ts).length ≤ 1000) (rk m : Int) :
    Calls Tryd.prog 15 #[.agg #[.int .i64 rk, .int .i64 m, .slice c.1 c.2.1 c.2.2, .slice t.1 t.2.1 t.2.2]] w fun e w' => e = .returned (.tuple #[.int .i64 (manyS ts : Nat), .int .i64 (wrongS ts : Nat)]) ∧ Below w.heap.size w w' := by
  obtain ⟨Q, is, f, h1, h2, h3, h4⟩ := h
  obtain ⟨p, c', e⟩ := h1.own.form
  simp only [Value.slice.injEq] at e
  obtain ⟨c1, c2⟩ := h2.counts
  have := softMany_any (rk := rk) (n := m) (tp := t.1) (tl := t.2.1) (tc := t.2.2) h1 e.2.1.symm (by rw [e.2.1]; omega) (by rw [c1]; exact hm)
  rw [c1, c2] at this
  exact this
end Go.Proofs.YtdpfijhkbhmkgaaDoor
