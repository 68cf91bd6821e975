/-
  Rows of items that are written to, one item at a time.
-/
import Derived.Test.YtlaeaeciomkababDoorOwnA
namespace Go.Proofs.YtlaeaeciomkababDoor
open Go.RowKit Go.Sort Go.Proofs

/-- The items d lie at blk, off, and may be written. -/
structure WrAt (w : World) (blk off : Nat) (d : Array (Int × Int)) : Prop where
  rd : RdAt w blk off d
  fr : ∀ j, j < d.size * 2 → w.frozen? ⟨blk, off + j, none⟩ = false

theorem WrAt.lt {w : World} {blk off : Nat} {d : Array (Int × Int)} (h : WrAt w blk off d) : blk < w.heap.size := h.rd.1
theorem WrAt.block {w w' : World} {blk off : Nat} {d : Array (Int × Int)} (h : WrAt w blk off d) (hs : w.heap.size ≤ w'.heap.size) (hb : w'.heap[blk]? = w.heap[blk]?) : WrAt w' blk off d :=
  ⟨⟨Nat.lt_of_lt_of_le h.rd.1 hs, fun i hi => ⟨(World.cell?_of_block (a := ⟨blk, off + i * 2, none⟩) hb).trans (h.rd.2 i hi).1, (World.cell?_of_block (a := ⟨blk, off + i * 2 + 1, none⟩) hb).trans (h.rd.2 i hi).2⟩⟩,
    fun j hj => (World.frozen?_of_block (a := ⟨blk, off + j, none⟩) hb).trans (h.fr j hj)⟩
theorem WrAt.below {w w' : World} {blk off B : Nat} {d : Array (Int × Int)} (h : WrAt w blk off d) (hb : Below B w w') (hB : blk < B) : WrAt w' blk off d := h.block hb.size (hb.block blk hB)
theorem WrAt.kept {w w' : World} {blk off : Nat} {row : Option Nat} {d : Array (Int × Int)} (h : WrAt w blk off d) (hg : w.grownBy w' row) (hne : some blk ≠ row) : WrAt w' blk off d := h.block hg.size (hg.block blk h.lt hne)
theorem WrAt.alloc {w : World} {blk off : Nat} {d : Array (Int × Int)} (h : WrAt w blk off d) (o : Obj) : WrAt (w.alloc o) blk off d := h.kept (World.grownBy_alloc w o none) (by simp)
theorem WrAt.drewN {w : World} {blk off : Nat} {d : Array (Int × Int)} (h : WrAt w blk off d) (n : Nat) : WrAt (w.drewN n) blk off d := h.block (Nat.le_refl _) rfl
theorem WrAt.drew {w : World} {blk off : Nat} {d : Array (Int × Int)} (h : WrAt w blk off d) : WrAt w.drew blk off d := h.block (Nat.le_refl _) rfl
theorem size_setCell (w : World) (p : Addr) (v : Value) : (w.setCell p v).heap.size = w.heap.size := by
  simp [World.setCell]
theorem WrAt.set {w : World} {blk off : Nat} {d : Array (Int × Int)} (h : WrAt w blk off d) {i : Nat} (hi : i < d.size) (y : Int × Int) :
    WrAt ((w.setCell ⟨blk, off + i * 2, none⟩ (.int .i64 y.1)).setCell ⟨blk, off + i * 2 + 1, none⟩ (.int .i64 y.2)) blk off (d.setIfInBounds i y) := by
  obtain ⟨c0, c1⟩ := h.rd.2 i hi
  refine ⟨⟨by rw [size_setCell, size_setCell]; exact h.lt, fun t ht => ?_⟩, fun j hj => ?_⟩
  · have ht' : t < d.size := by simpa using ht
    have e : (d.setIfInBounds i y)[t]! = if t = i then y else d[t]! := by
      rw [getElem!_pos _ t ht, getElem!_pos d t ht', Array.getElem_setIfInBounds]
      by_cases c : i = t
      · subst c; simp
      · rw [if_neg c, if_neg (by omega)]
    rw [e]
    obtain ⟨t0, t1⟩ := h.rd.2 t ht'
    by_cases c : t = i
    · subst c
      rw [if_pos rfl]
      refine ⟨?_, ?_⟩
      · rw [World.cell?_setCell_other _ _ _ _ (by simp), World.cell?_setCell_same _ _ _ c0]
      · exact World.cell?_setCell_same _ _ _ ((World.cell?_setCell_other _ _ _ _ (by simp)).trans c1)
    · rw [if_neg c]
      refine ⟨?_, ?_⟩
      · rw [World.cell?_setCell_other _ _ _ _ (by simp <;> omega), World.cell?_setCell_other _ _ _ _ (by simp <;> omega)]; exact t0
      · rw [World.cell?_setCell_other _ _ _ _ (by simp <;> omega), World.cell?_setCell_other _ _ _ _ (by simp <;> omega)]; exact t1
  · rw [World.frozen?_setCell, World.frozen?_setCell]
    exact h.fr j (by simpa using hj)
theorem WrAt.cell {w : World} {blk off : Nat} {d : Array (Int × Int)} (h : WrAt w blk off d) {i : Nat} (hi : i < d.size) {x : Int × Int} (hx : d[i]! = x) :
    w.cell? ⟨blk, off + i * 2, none⟩ = some (.int .i64 x.1) ∧ w.cell? ⟨blk, off + i * 2 + 1, none⟩ = some (.int .i64 x.2) ∧ w.frozen? ⟨blk, off + i * 2, none⟩ = false ∧ w.frozen? ⟨blk, off + i * 2 + 1, none⟩ = false := by
  rw [← hx]
  exact ⟨(h.rd.2 i hi).1, (h.rd.2 i hi).2, h.fr _ (by omega), by have := h.fr (i * 2 + 1) (by omega); rw [← Nat.add_assoc] at this; exact this⟩

theorem gb_trans {w w1 w2 : World} {row : Option Nat} (h1 : w.grownBy w1 row) (h2 : w1.grownBy w2 row) : w.grownBy w2 row :=
  ⟨h2.os.trans h1.os, h2.tape.trans h1.tape, h2.output.trans h1.output, Nat.le_trans h1.size h2.size, fun k hk hr => (h2.block k (Nat.lt_of_lt_of_le hk h1.size) hr).trans (h1.block k hk hr)⟩
theorem gb_setCell (w : World) (p : Addr) (v : Value) : w.grownBy (w.setCell p v) (some p.block) :=
  ⟨rfl, rfl, rfl, by rw [size_setCell]; exact Nat.le_refl _, fun k _ hr => heap_setCell_other w p k v (fun e => hr (by rw [e]))⟩
theorem gb_drewN {w w' : World} {row : Option Nat} (h : w.grownBy w' row) (n : Nat) : w.grownBy (w'.drewN n) row := ⟨h.os, h.tape, h.output, h.size, h.block⟩
theorem gb_set {w w' : World} {blk : Nat} (h : w.grownBy w' (some blk)) (o1 o2 : Nat) (u v : Value) : w.grownBy ((w'.setCell ⟨blk, o1, none⟩ u).setCell ⟨blk, o2, none⟩ v) (some blk) :=
  gb_trans (gb_trans h (gb_setCell w' ⟨blk, o1, none⟩ u)) (gb_setCell _ ⟨blk, o2, none⟩ v)
theorem gb_alloc {w w' : World} {row : Option Nat} (h : w.grownBy w' row) (o : Obj) : w.grownBy (w'.alloc o) row := gb_trans h (World.grownBy_alloc w' o row)
theorem gb_below {w w' : World} (h : Below w.heap.size w w') (row : Option Nat) : w.grownBy w' row := ⟨h.os, h.tape, h.output, h.size, fun k hk _ => h.block k hk⟩
theorem below_gb {a w w' : World} {B blk : Nat} (h : Below B a w) (hg : w.grownBy w' (some blk)) (hB : B ≤ blk) (hw : B ≤ w.heap.size) : Below B a w' :=
  h.grown hg hw fun k e => by cases e; exact hB

/-- A list of one's own that holds something may be written. -/
theorem OwnI.wr {w : World} {base n : Nat} {v : Value} {l : List (Int × Int)} (hl : l.length = n) (hn : 0 < n) (h : OwnI w base v l) :
    ∃ g cp, v = .slice (some ⟨g, 0, none⟩) n cp ∧ base ≤ g ∧ n ≤ cp ∧ WrAt w g 0 l.toArray := by
  have hs := h.sl
  obtain ⟨_, ⟨_, h0⟩ | ⟨g, cp, cur, rfl, hb, hg, hc, _, hcs, _⟩⟩ := id h
  · omega
  · obtain ⟨p, c, e, _, h0 | ⟨blk, off, rfl, hr⟩⟩ := hs
    · rw [List.size_toArray] at h0; omega
    · simp only [Value.slice.injEq, Option.some.injEq, Addr.mk.injEq] at e
      obtain ⟨⟨rfl, rfl, _⟩, _, rfl⟩ := e
      exact ⟨g, cp, by rw [hl], hb, by omega, hr, fun j _ => by simp [World.frozen?, hg]⟩
end Go.Proofs.YtlaeaeciomkababDoor
