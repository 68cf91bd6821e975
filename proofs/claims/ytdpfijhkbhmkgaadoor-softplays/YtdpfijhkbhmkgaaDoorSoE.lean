/-
  Cells of soft heaps in memory: a row of one's own that is written cell by cell; each has a list of items that lies apart from it.
-/
import Derived.Test.YtdpfijhkbhmkgaaDoorSoC
import Derived.Test.YtdpfijhkbhmkgaaDoorGen
import Derived.Test.YtdpfijhkbhmkgaaDoorOwnA
import Derived.Test.YtdpfijhkbhmkgaaDoorSoN
namespace Go.Proofs.YtdpfijhkbhmkgaaDoor
open Go.RowKit Go.Sort Go.Proofs

section
variable {P : Program} {α : Type} {E : El P α}
theorem El.flat_put {d : List α} {i c : Nat} {x y : α} {v : Value} (hx : d[i]? = some x) (hc : c < E.K) (hy : E.enc y = (E.enc x).set c v) : (E.flat d).set (i * E.K + c) v = E.flat (d.set i y) := by
  induction d generalizing i with
  | nil => simp at hx
  | cons z d ih =>
    cases i with
    | zero =>
      simp only [List.getElem?_cons_zero, Option.some.injEq] at hx
      subst hx
      rw [List.set_cons_zero, El.flat_cons, El.flat_cons, hy, Nat.zero_mul, Nat.zero_add, List.set_append_left _ _ (by rw [E.len]; exact hc)]
    | succ i =>
      simp only [List.getElem?_cons_succ] at hx
      rw [List.set_cons_succ, El.flat_cons, El.flat_cons, ← ih hx, List.set_append_right _ _ (by rw [E.len, Nat.add_mul]; omega), E.len, show (i + 1) * E.K + c - E.K = i * E.K + c by rw [Nat.add_mul]; omega]
/-- A cell of an element is written. -/
theorem OwnE.put {w : World} {base g cap n : Nat} {d : List α} (h : OwnE E w base (.slice (Option.some ⟨g, 0, none⟩) n cap) d) {i c : Nat} {x y : α} {v : Value} (hx : d[i]? = Option.some x) (hc : c < E.K) (hy : E.enc y = (E.enc x).set c v) :
    OwnE E (w.setCell ⟨g, i * E.K + c, none⟩ v) base (.slice (Option.some ⟨g, 0, none⟩) n cap) (d.set i y) ∧ w.grownBy (w.setCell ⟨g, i * E.K + c, none⟩ v) (Option.some g) := by
  obtain ⟨p, c', e⟩ := h.form
  simp only [Value.slice.injEq] at e
  obtain ⟨_, hn, _⟩ := e
  have h' : w.ownsRow base E.T E.K (.slice (Option.some ⟨g, 0, none⟩) n cap) n (E.flat d) := by rw [hn]; rw [hn] at h; exact h
  obtain ⟨this, hgb⟩ := World.ownsRow.stored h' (i * E.K + c) v
  rw [El.flat_put hx hc hy] at this
  refine ⟨?_, hgb⟩
  unfold OwnE
  rw [show (d.set i y).length = n by rw [hn, List.length_set]]
  exact this
end

/-- A slice's three words. -/
abbrev SlW := Option Addr × Nat × Nat
/-- A list of items that does not lie in a block of F. -/
def SlX (w : World) (F : Nat → Prop) (s : SlW) (l : List (Int × Int)) : Prop :=
  s.2.1 = l.length ∧ l.length ≤ s.2.2 ∧ (l = [] ∨ ∃ blk off, s.1 = some ⟨blk, off, none⟩ ∧ ¬ F blk ∧ RdAt w blk off l.toArray)
theorem SlX.sl {w : World} {F : Nat → Prop} {s : SlW} {l : List (Int × Int)} (h : SlX w F s l) : Sl w (.slice s.1 s.2.1 s.2.2) l.toArray := by
  obtain ⟨p, n, c⟩ := s
  obtain ⟨rfl, hc, h | ⟨blk, off, rfl, _, hr⟩⟩ := h
  · exact ⟨p, c, by simp, by simpa using hc, Or.inl (by simp [h])⟩
  · exact ⟨_, c, by simp, by simpa using hc, Or.inr ⟨blk, off, rfl, hr⟩⟩
theorem SlX.void (w : World) (F : Nat → Prop) : SlX w F (Option.none, 0, 0) [] := ⟨rfl, Nat.le_refl _, Or.inl rfl⟩
theorem RdAt.keptX {w w' : World} {blk off : Nat} {F : Nat → Prop} {d : Array (Int × Int)} (h : RdAt w blk off d) (hg : Chg F w w') (hne : ¬ F blk) : RdAt w' blk off d :=
  have hb := hg.block blk h.1 hne
  ⟨Nat.lt_of_lt_of_le h.1 hg.size, fun i hi => ⟨(World.cell?_of_block (a := ⟨blk, off + i * 2, Option.none⟩) hb).trans (h.2 i hi).1, (World.cell?_of_block (a := ⟨blk, off + i * 2 + 1, Option.none⟩) hb).trans (h.2 i hi).2⟩⟩
theorem SlX.below {w w' : World} {F : Nat → Prop} {s : SlW} {l : List (Int × Int)} (h : SlX w F s l) (hb : Below w.heap.size w w') : SlX w' F s l := by
  obtain ⟨h1, h2, h3 | ⟨blk, off, e, hn, hr⟩⟩ := h
  · exact ⟨h1, h2, Or.inl h3⟩
  · exact ⟨h1, h2, Or.inr ⟨blk, off, e, hn, hr.below hb hr.1⟩⟩
/-- .. where something is written in blocks of F; what is in F' was in F, or is new. -/
theorem SlX.kept {w w' : World} {F F' G : Nat → Prop} {s : SlW} {l : List (Int × Int)} (h : SlX w F s l) (hg : Chg G w w') (hG : ∀ j, G j → F j) (hF : ∀ j, F' j → F j ∨ w.heap.size ≤ j) : SlX w' F' s l := by
  obtain ⟨h1, h2, h3 | ⟨blk, off, e, hn, hr⟩⟩ := h
  · exact ⟨h1, h2, Or.inl h3⟩
  · refine ⟨h1, h2, Or.inr ⟨blk, off, e, fun q => ?_, hr.keptX hg (fun q => hn (hG _ q))⟩⟩
    rcases hF blk q with z | z
    · exact hn z
    · have := hr.1; omega
/-- What is behind the first item. -/
theorem SlX.first {w : World} {F : Nat → Prop} {s : SlW} {x : Int × Int} {l : List (Int × Int)} (h : SlX w F s (x :: l)) : ∃ blk off, s.1 = some ⟨blk, off, none⟩ ∧ blk < w.heap.size ∧ w.cell? ⟨blk, off, none⟩ = some (.int .i64 x.1) ∧ w.cell? ⟨blk, off + 1, none⟩ = some (.int .i64 x.2) := by
  obtain ⟨_, _, h3 | ⟨blk, off, e, hn, hr⟩⟩ := h
  · cases h3
  · have := hr.2 0 (by simp)
    exact ⟨blk, off, e, hr.1, by simpa using this.1, by simpa using this.2⟩

/-- A cell as it is written. -/
def encC (x : SC × SlW) : List Value := [.int .i64 x.1.key, .int .i64 (x.1.rank : Int), .int .i64 (x.1.want : Int), .int .i64 x.1.left, .int .i64 x.1.right, .slice x.2.1 x.2.2.1 x.2.2.2]
section
variable {P : Program} {E : El P (SC × SlW)}
/-- The cells are the slice's, which is one's own, and their items lie apart; nothing lies in blocks of F. -/
structure CellsAt (E : El P (SC × SlW)) (w : World) (base : Nat) (v : Value) (F : Nat → Prop) (Q : List (SC × SlW)) : Prop where
  own : OwnE E w base v Q
  items : ∀ q ∈ Q, SlX w (fun j => v.ownBlock = some j ∨ F j) q.2 q.1.items
  apart : ∀ j, v.ownBlock = some j → ¬ F j
  low : ∀ j, F j → j < w.heap.size
theorem CellsAt.nil (E : El P (SC × SlW)) (w : World) (base : Nat) {F : Nat → Prop} (hF : ∀ j, F j → j < w.heap.size) : CellsAt E w base (.slice none 0 0) F [] := ⟨OwnE.nil E w base, fun _ h => (by cases h), fun _ h => (by cases h), hF⟩
theorem CellsAt.below {w w' : World} {base : Nat} {v : Value} {F : Nat → Prop} {Q : List (SC × SlW)} (h : CellsAt E w base v F Q) (hb : Below w.heap.size w w') : CellsAt E w' base v F Q :=
  ⟨h.own.below hb, fun q hq => (h.items q hq).below hb, h.apart, fun j q => Nat.lt_of_lt_of_le (h.low j q) hb.size⟩
/-- A word of a cell is written. -/
theorem CellsAt.put {w : World} {base g cap n : Nat} {F : Nat → Prop} {Q : List (SC × SlW)} (h : CellsAt E w base (.slice (some ⟨g, 0, none⟩) n cap) F Q) {i c : Nat} {x y : SC × SlW} {v : Value} (hx : Q[i]? = some x) (hc : c < E.K) (hy : E.enc y = (E.enc x).set c v) (hs : SlX w (fun j => j = g ∨ F j) y.2 y.1.items) :
    CellsAt E (w.setCell ⟨g, i * E.K + c, none⟩ v) base (.slice (some ⟨g, 0, none⟩) n cap) F (Q.set i y) := by
  obtain ⟨h1, h2⟩ := h.own.put hx hc hy
  have hch : Chg (fun j => j = g) w (w.setCell ⟨g, i * E.K + c, none⟩ v) := (Chg.refl (fun j => j = g) w).setCell (p := ⟨g, i * E.K + c, none⟩) (Or.inl rfl) v
  have hog : ∀ j, (Value.slice (some ⟨g, 0, none⟩) n cap).ownBlock = some j ↔ j = g := fun j => by simp [Value.ownBlock, eq_comm]
  refine ⟨h1, fun q hq => ?_, h.apart, fun j q => by rw [size_cell]; exact h.low j q⟩
  rcases List.mem_or_eq_of_mem_set hq with q1 | rfl
  · exact (h.items q q1).kept hch (fun j e => Or.inl ((hog j).2 e)) (fun j z => Or.inl z)
  · exact hs.kept hch (fun j e => Or.inl e) (fun j z => Or.inl (z.imp_left (hog j).1))
/-- A word of a cell is read. -/
theorem CellsAt.word {w : World} {base g cap n : Nat} {F : Nat → Prop} {Q : List (SC × SlW)} (h : CellsAt E w base (.slice (some ⟨g, 0, none⟩) n cap) F Q) {i c : Nat} {x : SC × SlW} {v : Value} (hx : Q[i]? = some x) (hv : (E.enc x)[c]? = some v) : w.cell? ⟨g, i * E.K + c, none⟩ = some v ∧ w.frozen? ⟨g, i * E.K + c, none⟩ = false := by
  have hi := (List.getElem?_eq_some_iff.1 hx).1
  obtain ⟨p, c', e⟩ := h.own.form
  simp only [Value.slice.injEq] at e
  obtain ⟨g', cp, e1, _, _, hr, hf⟩ := h.own.some (n := n) e.2.1.symm (by omega)
  simp only [Value.slice.injEq, Option.some.injEq, Addr.mk.injEq] at e1
  obtain ⟨⟨rfl, _⟩, _⟩ := e1
  have := hr.cell hx hv
  rw [Nat.zero_add] at this
  exact ⟨this, hf _⟩
/-- A cell is put behind. -/
theorem CellsAt.grow {w w' : World} {base : Nat} {v v' : Value} {F : Nat → Prop} {Q : List (SC × SlW)} {y : SC × SlW} (h : CellsAt E w base v F Q) (ho : OwnE E w' base v' (Q ++ [y])) (hg : w.grownBy w' v.ownBlock) (hB : v'.ownBlock = v.ownBlock ∨ v'.ownBlock = some w.heap.size) (hy : SlX w (fun j => v.ownBlock = some j ∨ F j) y.2 y.1.items) : CellsAt E w' base v' F (Q ++ [y]) := by
  have hch : Chg (fun j => v.ownBlock = some j) w w' := Chg.of_grown hg (fun k e => e)
  have hF : ∀ j, (v'.ownBlock = some j ∨ F j) → (v.ownBlock = some j ∨ F j) ∨ w.heap.size ≤ j := by
    rintro j (e | e)
    · rcases hB with q | q
      · exact Or.inl (Or.inl (q ▸ e))
      · rw [q] at e; exact Or.inr (by have := Option.some.inj e; omega)
    · exact Or.inl (Or.inr e)
  refine ⟨ho, fun q hq => ?_, fun j e q => ?_, fun j q => Nat.lt_of_lt_of_le (h.low j q) hg.size⟩
  · rcases List.mem_append.1 hq with q1 | q1
    · exact (h.items q q1).kept hch (fun j e => Or.inl e) hF
    · rw [List.mem_singleton.1 q1]; exact hy.kept hch (fun j e => Or.inl e) hF
  · rcases hB with z | z
    · exact h.apart j (z ▸ e) q
    · rw [z] at e
      have := h.low j q
      have := Option.some.inj e
      omega
/-- Foreign blocks change. -/
theorem CellsAt.foreign {w w' : World} {base : Nat} {v : Value} {F F' : Nat → Prop} {Q : List (SC × SlW)} (h : CellsAt E w base v F Q) (hc : Chg F w w') (hF : ∀ j, F' j → F j ∨ w.heap.size ≤ j) (hl : ∀ j, F' j → j < w'.heap.size) : CellsAt E w' base v F' Q := by
  refine ⟨?_, fun q hq => (h.items q hq).kept hc (fun j z => Or.inr z) (fun j z => ?_), fun j e q => ?_, hl⟩
  · have hown := h.own
    cases hv : v.ownBlock with
    | none =>
      obtain ⟨e1, h0 | ⟨g, cap, cur, rfl, _⟩⟩ := hown
      · exact ⟨e1, Or.inl h0⟩
      · simp [Value.ownBlock] at hv
    | some g =>
      have hg := (World.ownsRow.lt hown g hv).2
      have hb := hc.block g hg (h.apart g hv)
      obtain ⟨e1, h0 | ⟨g', cap, cur, rfl, q1, q2, q3⟩⟩ := hown
      · exact ⟨e1, Or.inl h0⟩
      · simp [Value.ownBlock] at hv
        subst hv
        exact ⟨e1, Or.inr ⟨g', cap, cur, rfl, q1, hb.trans q2, q3⟩⟩
  · rcases z with z | z
    · exact Or.inl (Or.inl z)
    · exact (hF j z).imp_left Or.inr
  · rcases hF j q with z | z
    · exact h.apart j e z
    · have := (World.ownsRow.lt h.own j e).2; omega
end
/-- The plain cells. -/
def plainQ (Q : List (SC × SlW)) : List SC := Q.map Prod.fst
theorem plainQ_get {Q : List (SC × SlW)} {i : Nat} {c : SC} (h : (plainQ Q)[i]? = some c) : ∃ s, Q[i]? = some (c, s) := by
  unfold plainQ at h
  rw [List.getElem?_map] at h
  cases e : Q[i]? with
  | none => rw [e] at h; cases h
  | some q =>
    rw [e] at h
    obtain ⟨c', s⟩ := q
    simp only [Option.map_some, Option.some.injEq] at h
    exact ⟨s, by rw [h]⟩
theorem plainQ_set (Q : List (SC × SlW)) (i : Nat) (y : SC × SlW) : plainQ (Q.set i y) = (plainQ Q).set i y.1 := by
  unfold plainQ; rw [List.map_set]
theorem plainQ_append (Q : List (SC × SlW)) (y : SC × SlW) : plainQ (Q ++ [y]) = plainQ Q ++ [y.1] := by simp [plainQ]
theorem plainQ_length (Q : List (SC × SlW)) : (plainQ Q).length = Q.length := by simp [plainQ]
end Go.Proofs.YtdpfijhkbhmkgaaDoor
