/-
  Which blocks of memory change.
-/
import Derived.Test.YtlaeaeciomkababDoorGen
namespace Go.Proofs.YtlaeaeciomkababDoor
open Go.RowKit Go.Proofs

/-- Only blocks of F, and new ones, are others. -/
structure Chg (F : Nat → Prop) (w w' : World) : Prop where
  os : w'.os = w.os
  tape : w'.tape = w.tape
  output : w'.output = w.output
  size : w.heap.size ≤ w'.heap.size
  block : ∀ k, k < w.heap.size → ¬ F k → w'.heap[k]? = w.heap[k]?
section
variable {F G : Nat → Prop} {a b c : World}
theorem Chg.refl (F : Nat → Prop) (w : World) : Chg F w w := ⟨rfl, rfl, rfl, Nat.le_refl _, fun _ _ _ => rfl⟩
theorem Chg.trans (h : Chg F a b) (k : Chg G b c) (hG : ∀ j, G j → F j ∨ a.heap.size ≤ j) : Chg F a c :=
  ⟨k.os.trans h.os, k.tape.trans h.tape, k.output.trans h.output, Nat.le_trans h.size k.size, fun i hi hf =>
    (k.block i (Nat.lt_of_lt_of_le hi h.size) (fun g => by rcases hG i g with q | q; exact hf q; omega)).trans (h.block i hi hf)⟩
theorem Chg.mono (h : Chg F a b) (hG : ∀ j, F j → G j ∨ a.heap.size ≤ j) : Chg G a b :=
  ⟨h.os, h.tape, h.output, h.size, fun i hi hf => h.block i hi (fun g => by rcases hG i g with q | q; exact hf q; omega)⟩
theorem Chg.below {B : Nat} (h : Chg F a b) (hF : ∀ j, F j → B ≤ j) (hB : B ≤ a.heap.size) : Below B a b :=
  ⟨h.os, h.tape, h.output, h.size, fun k hk => h.block k (by omega) (fun q => by have := hF k q; omega)⟩
theorem Chg.of_below (h : Below a.heap.size a b) : Chg F a b := ⟨h.os, h.tape, h.output, h.size, fun k hk _ => h.block k hk⟩
theorem Chg.of_grown {row : Option Nat} (hg : a.grownBy b row) (h : ∀ k, row = some k → F k) : Chg F a b :=
  ⟨hg.os, hg.tape, hg.output, hg.size, fun k hk hf => hg.block k hk (fun e => hf (h k e.symm))⟩
theorem Chg.dn (h : Chg F a b) (n : Nat) : Chg F a (b.drewN n) := ⟨h.os, h.tape, h.output, h.size, h.block⟩
theorem Chg.alloc (h : Chg F a b) (o : Obj) : Chg F a (b.alloc o) :=
  h.trans (G := fun _ => False) ⟨rfl, rfl, rfl, by simp, fun k hk _ => Below.heap_alloc _ _ _ hk⟩ (fun _ q => q.elim)
theorem Chg.setCell (h : Chg F a b) {p : Addr} (hp : F p.block ∨ a.heap.size ≤ p.block) (u : Value) : Chg F a (b.setCell p u) :=
  h.trans (G := fun j => j = p.block) ⟨rfl, rfl, rfl, by simp [World.setCell], fun k _ hk => Below.heap_setCell _ _ _ _ hk⟩ (fun j e => by subst e; exact hp)
end
theorem heap_put {w : World} {nb i : Nat} {cs : Array Value} {T : TypeId} {fr : Nat × Nat} (h : w.heap[nb]? = some (.cells cs T fr)) (v : Value) : (w.setCell ⟨nb, i, none⟩ v).heap[nb]? = some (.cells (cs.setIfInBounds i v) T fr) := by
  simp [World.setCell, Array.getElem?_modify, h]
theorem heap_far {w : World} {nb q i : Nat} (v : Value) (h : nb ≠ q) : (w.setCell ⟨q, i, none⟩ v).heap[nb]? = w.heap[nb]? := Below.heap_setCell _ _ _ _ h

/-- Blocks f became blocks g: no others were written. -/
structure Step (f g : List Nat) (w w' : World) : Prop where
  nodup : g.Nodup
  sub : ∀ j ∈ g, j ∈ f ∨ w.heap.size ≤ j
  chg : Chg (· ∈ f) w w'
theorem Step.trans {f g h : List Nat} {a b c : World} (p : Step f g a b) (q : Step g h b c) : Step f h a c := by
  refine ⟨q.nodup, fun j hj => ?_, p.chg.trans q.chg (fun j hj => p.sub j hj)⟩
  rcases q.sub j hj with z | z
  · exact p.sub j z
  · exact Or.inr (Nat.le_trans p.chg.size z)
theorem Step.perm {f g f' g' : List Nat} {a b : World} (p : Step f g a b) (hf : f.Perm f') (hg : g.Perm g') : Step f' g' a b :=
  ⟨hg.nodup_iff.1 p.nodup, fun j hj => (p.sub j (hg.symm.subset hj)).imp_left fun z => hf.subset z, p.chg.mono fun _ hj => Or.inl (hf.subset hj)⟩
/-- .. with more beside them. -/
theorem Step.more {f g o : List Nat} {a b : World} (p : Step f g a b) (ho : (f ++ o).Nodup) (hlt : ∀ j ∈ o, j < a.heap.size) : Step (f ++ o) (g ++ o) a b := by
  rw [List.nodup_append] at ho
  refine ⟨?_, fun j hj => ?_, p.chg.mono fun _ hj => Or.inl (List.mem_append_left _ hj)⟩
  · rw [List.nodup_append]
    refine ⟨p.nodup, ho.2.1, fun x hx y hy e => ?_⟩
    subst e
    rcases p.sub x hx with z | z
    · exact ho.2.2 x z x hy rfl
    · have := hlt x hy; omega
  · rcases List.mem_append.1 hj with z | z
    · exact (p.sub j z).imp_left fun z => List.mem_append_left _ z
    · exact Or.inl (List.mem_append_right _ z)
theorem Step.refl {f : List Nat} (w : World) (h : f.Nodup) : Step f f w w := ⟨h, fun _ q => Or.inl q, Chg.refl _ _⟩
theorem Step.below {f : List Nat} {w w' : World} (h : f.Nodup) (hb : Below w.heap.size w w') : Step f f w w' := ⟨h, fun _ q => Or.inl q, Chg.of_below hb⟩
theorem Step.inside {f o : List Nat} {w w' : World} (h : f.Nodup) (hc : Chg (· ∈ o) w w') (ho : ∀ j ∈ o, j ∈ f) : Step f f w w' := ⟨h, fun _ q => Or.inl q, hc.mono fun j z => Or.inl (ho j z)⟩
/-- A row of one's own took over another block, or kept its own. -/
theorem Step.row {f : List Nat} {b b' : Option Nat} {w w' : World} (h : (b.toList ++ f).Nodup) (hf : ∀ j ∈ f, j < w.heap.size) (hc : Chg (· ∈ b.toList) w w') (hb : b' = b ∨ b' = some w.heap.size) : Step (b.toList ++ f) (b'.toList ++ f) w w' := by
  rcases hb with rfl | rfl
  · exact Step.inside h hc fun j z => List.mem_append_left _ z
  · refine ⟨?_, fun j z => ?_, hc.mono fun j z => Or.inl (List.mem_append_left _ z)⟩
    · refine List.nodup_cons.2 ⟨fun q => ?_, (List.nodup_append.1 h).2.1⟩
      have := hf _ q
      omega
    · rcases List.mem_cons.1 z with rfl | z
      · exact Or.inr (Nat.le_refl _)
      · exact Or.inl (List.mem_append_right _ z)
end Go.Proofs.YtlaeaeciomkababDoor
