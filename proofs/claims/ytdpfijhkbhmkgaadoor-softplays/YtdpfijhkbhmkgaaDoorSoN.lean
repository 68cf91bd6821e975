/-
  Nodes of package soft in memory, each with a list of items of its own; which blocks change.
-/
import Derived.Test.YtdpfijhkbhmkgaaDoorSoH
import Derived.Test.YtdpfijhkbhmkgaaDoorGen
import Derived.Test.YtdpfijhkbhmkgaaDoorOwnA
import Derived.Deep.RegionHeld3
namespace Go.Proofs.YtdpfijhkbhmkgaaDoor
open Go.RowKit Go.Sort Go.Proofs

/-- Only blocks of F, and new ones, are others. -/
structure Chg (F : Nat → Prop) (w w' : World) : Prop where
  os : w'.os = w.os
  tape : w'.tape = w.tape
  output : w'.output = w.output
  size : w.heap.size ≤ w'.heap.size
  block : ∀ k, k < w.heap.size → ¬ F k → w'.heap[k]? = w.heap[k]?
section
variable {F G : Nat → Prop} {a b c : World}
theorem Chg.refl (F : Nat → Prop) (w : World) : Chg F w w := ⟨rfl, rfl, rfl, Nat.le_refl _, fun _ _ _ => rfl⟩
theorem Chg.trans (h : Chg F a b) (k : Chg G b c) (hG : ∀ j, G j → F j ∨ a.heap.size ≤ j) : Chg F a c :=
  ⟨k.os.trans h.os, k.tape.trans h.tape, k.output.trans h.output, Nat.le_trans h.size k.size, fun i hi hf =>
    (k.block i (Nat.lt_of_lt_of_le hi h.size) (fun g => by rcases hG i g with q | q; exact hf q; omega)).trans (h.block i hi hf)⟩
theorem Chg.mono (h : Chg F a b) (hG : ∀ j, F j → G j ∨ a.heap.size ≤ j) : Chg G a b :=
  ⟨h.os, h.tape, h.output, h.size, fun i hi hf => h.block i hi (fun g => by rcases hG i g with q | q; exact hf q; omega)⟩
theorem Chg.below {B : Nat} (h : Chg F a b) (hF : ∀ j, F j → B ≤ j) (hB : B ≤ a.heap.size) : Below B a b :=
  ⟨h.os, h.tape, h.output, h.size, fun k hk => h.block k (by omega) (fun q => by have := hF k q; omega)⟩
theorem Chg.of_below (h : Below a.heap.size a b) : Chg F a b := ⟨h.os, h.tape, h.output, h.size, fun k hk _ => h.block k hk⟩
theorem Chg.of_grown {row : Option Nat} (hg : a.grownBy b row) (h : ∀ k, row = some k → F k) : Chg F a b :=
  ⟨hg.os, hg.tape, hg.output, hg.size, fun k hk hf => hg.block k hk (fun e => hf (h k e.symm))⟩
theorem Chg.dn (h : Chg F a b) (n : Nat) : Chg F a (b.drewN n) := ⟨h.os, h.tape, h.output, h.size, h.block⟩
theorem Chg.alloc (h : Chg F a b) (o : Obj) : Chg F a (b.alloc o) :=
  h.trans (G := fun _ => False) ⟨rfl, rfl, rfl, by simp, fun k hk _ => Below.heap_alloc _ _ _ hk⟩ (fun _ q => q.elim)
theorem Chg.setCell (h : Chg F a b) {p : Addr} (hp : F p.block ∨ a.heap.size ≤ p.block) (u : Value) : Chg F a (b.setCell p u) :=
  h.trans (G := fun j => j = p.block) ⟨rfl, rfl, rfl, by simp [World.setCell], fun k _ hk => Below.heap_setCell _ _ _ _ hk⟩ (fun j e => by subst e; exact hp)
end
theorem heap_put {w : World} {nb i : Nat} {cs : Array Value} {T : TypeId} {fr : Nat × Nat} (h : w.heap[nb]? = some (.cells cs T fr)) (v : Value) : (w.setCell ⟨nb, i, none⟩ v).heap[nb]? = some (.cells (cs.setIfInBounds i v) T fr) := by
  simp [World.setCell, Array.getElem?_modify, h]
theorem heap_far {w : World} {nb q i : Nat} (v : Value) (h : nb ≠ q) : (w.setCell ⟨q, i, none⟩ v).heap[nb]? = w.heap[nb]? := Below.heap_setCell _ _ _ _ h

/-- The cells of a node. -/
def Nb (w : World) (nb : Nat) (iv : Value) (k : Int) (r m : Nat) (va vb : Value) : Prop :=
  w.heap[nb]? = some (.cells #[iv, .int .i64 k, .int .i64 (r : Int), .int .i64 (m : Int), va, vb] 64 (0, 0))
section
variable {w w' : World} {nb : Nat} {iv va vb : Value} {k : Int} {r m : Nat}
theorem Nb.lt (h : Nb w nb iv k r m va vb) : nb < w.heap.size := (Array.getElem?_eq_some_iff.1 h).1
theorem Nb.cells (h : Nb w nb iv k r m va vb) : w.cell? ⟨nb, 0, none⟩ = some iv ∧ w.cell? ⟨nb, 1, none⟩ = some (.int .i64 k) ∧ w.cell? ⟨nb, 2, none⟩ = some (.int .i64 (r : Int)) ∧ w.cell? ⟨nb, 3, none⟩ = some (.int .i64 (m : Int)) ∧ w.cell? ⟨nb, 4, none⟩ = some va ∧ w.cell? ⟨nb, 5, none⟩ = some vb := by
  unfold Nb at h
  simp [World.cell?, h]
theorem Nb.fr (h : Nb w nb iv k r m va vb) (j : Nat) : w.frozen? ⟨nb, j, none⟩ = false := by
  unfold Nb at h
  simp [World.frozen?, h]
theorem Nb.kept (h : Nb w nb iv k r m va vb) (e : w'.heap[nb]? = w.heap[nb]?) : Nb w' nb iv k r m va vb := by unfold Nb at *; rw [e]; exact h
theorem Nb.far (h : Nb w nb iv k r m va vb) {q i : Nat} (v : Value) (hq : nb ≠ q) : Nb (w.setCell ⟨q, i, none⟩ v) nb iv k r m va vb := h.kept (heap_far v hq)
theorem Nb.put0 (h : Nb w nb iv k r m va vb) (v : Value) : Nb (w.setCell ⟨nb, 0, none⟩ v) nb v k r m va vb := by
  have := heap_put (i := 0) h v
  simpa [Nb] using this
theorem Nb.put1 (h : Nb w nb iv k r m va vb) (k' : Int) : Nb (w.setCell ⟨nb, 1, none⟩ (.int .i64 k')) nb iv k' r m va vb := by
  have := heap_put (i := 1) h (.int .i64 k')
  simpa [Nb] using this
theorem Nb.put3 (h : Nb w nb iv k r m va vb) (m' : Nat) : Nb (w.setCell ⟨nb, 3, none⟩ (.int .i64 (m' : Int))) nb iv k r m' va vb := by
  have := heap_put (i := 3) h (.int .i64 (m' : Int))
  simpa [Nb] using this
theorem Nb.put4 (h : Nb w nb iv k r m va vb) (v : Value) : Nb (w.setCell ⟨nb, 4, none⟩ v) nb iv k r m v vb := by
  have := heap_put (i := 4) h v
  simpa [Nb] using this
theorem Nb.put5 (h : Nb w nb iv k r m va vb) (v : Value) : Nb (w.setCell ⟨nb, 5, none⟩ v) nb iv k r m va v := by
  have := heap_put (i := 5) h v
  simpa [Nb] using this
end
/-- Items as elements. -/
def EI : El Tryd.prog (Int × Int) where
  enc := encI
  K := 2
  T := 30
  S := 22
  zero := .agg #[.int .i64 0, .int .i64 0]
  bytes := 16
  pos := by decide
  small := by decide
  len := fun _ => rfl
  one := fun x v hv => encI_one x v hv
  zlen := rfl
  info := by kernel_rfl
  under := Tryd.underlying22
/-- The items of a node: a list of its own; its block. -/
def ItsAt (w : World) (v : Value) (is : List (Int × Int)) (fi : List Nat) : Prop := OwnE EI w 0 v is ∧ fi = v.ownBlock.toList
theorem ItsAt.nil (w : World) : ItsAt w (.slice none 0 0) [] [] := ⟨OwnE.nil EI w 0, rfl⟩
theorem ItsAt.kept {w w' : World} {v : Value} {is : List (Int × Int)} {fi : List Nat} (h : ItsAt w v is fi) {F : Nat → Prop} (hc : Chg F w w') (hf : ∀ j ∈ fi, ¬ F j) : ItsAt w' v is fi := by
  obtain ⟨h1, rfl⟩ := h
  cases hv : v.ownBlock with
  | none =>
    refine ⟨?_, by rw [hv]⟩
    obtain ⟨e1, h0 | ⟨g, cap, cur, rfl, _⟩⟩ := h1
    · exact ⟨e1, Or.inl h0⟩
    · simp [Value.ownBlock] at hv
  | some g =>
    refine ⟨?_, by rw [hv]⟩
    have hg := (World.ownsRow.lt h1 g hv).2
    have hb := hc.block g hg (hf g (by simp [hv]))
    obtain ⟨e1, h0 | ⟨g', cap, cur, rfl, q1, q2, q3⟩⟩ := h1
    · exact ⟨e1, Or.inl h0⟩
    · simp [Value.ownBlock] at hv
      subst hv
      exact ⟨e1, Or.inr ⟨g', cap, cur, rfl, q1, hb.trans q2, q3⟩⟩
theorem ItsAt.lt {w : World} {v : Value} {is : List (Int × Int)} {fi : List Nat} (h : ItsAt w v is fi) : ∀ j ∈ fi, j < w.heap.size := by
  intro j hj
  obtain ⟨h1, rfl⟩ := h
  exact (World.ownsRow.lt h1 j (by simpa using hj)).2
/-- The pointer v leads to the node t, whose blocks are f. -/
def NdAt (w : World) : SN → Value → List Nat → Prop
  | ⟨none⟩, v, f => v = .pointer none ∧ f = []
  | ⟨some (k, r, m, is, a, b)⟩, v, f => ∃ (nb : Nat) (iv va vb : Value) (fi fa fb : List Nat), v = .pointer (some ⟨nb, 0, none⟩) ∧ Nb w nb iv k r m va vb ∧ ItsAt w iv is fi ∧ NdAt w a va fa ∧ NdAt w b vb fb ∧ f.Perm (nb :: (fi ++ (fa ++ fb)))
theorem nd_nil {w : World} {v : Value} {f : List Nat} : NdAt w .nil v f ↔ v = .pointer none ∧ f = [] := by
  conv => lhs; unfold NdAt
theorem nd_node {w : World} {k : Int} {r m : Nat} {is : List (Int × Int)} {a b : SN} {v : Value} {f : List Nat} :
    NdAt w (.node k r m is a b) v f ↔ ∃ (nb : Nat) (iv va vb : Value) (fi fa fb : List Nat), v = .pointer (some ⟨nb, 0, none⟩) ∧ Nb w nb iv k r m va vb ∧ ItsAt w iv is fi ∧ NdAt w a va fa ∧ NdAt w b vb fb ∧ f.Perm (nb :: (fi ++ (fa ++ fb))) := by
  conv => lhs; unfold NdAt
theorem NdAt.perm {w : World} {t : SN} {v : Value} {f g : List Nat} (h : NdAt w t v f) (p : f.Perm g) : NdAt w t v g := by
  cases t using SN.parts with
  | nil =>
    obtain ⟨e, rfl⟩ := nd_nil.1 h
    exact nd_nil.2 ⟨e, List.nil_perm.1 p⟩
  | node k r m is a b =>
    obtain ⟨nb, iv, va, vb, fi, fa, fb, h1, h2, h3, h4, h5, h6⟩ := nd_node.1 h
    exact nd_node.2 ⟨nb, iv, va, vb, fi, fa, fb, h1, h2, h3, h4, h5, p.symm.trans h6⟩
theorem nd_lt {w : World} : ∀ (s : Nat) (t : SN) (v : Value) (f : List Nat), t.size ≤ s → NdAt w t v f → ∀ j ∈ f, j < w.heap.size
  | s, t, v, f, hs, h, j, hj => by
    cases t using SN.parts with
    | nil => obtain ⟨_, rfl⟩ := nd_nil.1 h; cases hj
    | node k r m is a b =>
      obtain ⟨nb, iv, va, vb, fi, fa, fb, h1, h2, h3, h4, h5, h6⟩ := nd_node.1 h
      rw [SN.size_node] at hs
      cases s with
      | zero => omega
      | succ s =>
        rcases List.mem_cons.1 (h6.subset hj) with rfl | q
        · exact h2.lt
        · rcases List.mem_append.1 q with q | q
          · exact h3.lt j q
          · rcases List.mem_append.1 q with q | q
            · exact nd_lt s a va fa (by omega) h4 j q
            · exact nd_lt s b vb fb (by omega) h5 j q
theorem NdAt.lt {w : World} {t : SN} {v : Value} {f : List Nat} (h : NdAt w t v f) {j : Nat} (hj : j ∈ f) : j < w.heap.size := nd_lt t.size t v f (Nat.le_refl _) h j hj
theorem nd_kept {w w' : World} {F : Nat → Prop} (hc : Chg F w w') : ∀ (s : Nat) (t : SN) (v : Value) (f : List Nat), t.size ≤ s → (∀ j ∈ f, ¬ F j) → NdAt w t v f → NdAt w' t v f
  | s, t, v, f, hs, hf, h => by
    cases t using SN.parts with
    | nil => exact nd_nil.2 (nd_nil.1 h)
    | node k r m is a b =>
      obtain ⟨nb, iv, va, vb, fi, fa, fb, h1, h2, h3, h4, h5, h6⟩ := nd_node.1 h
      rw [SN.size_node] at hs
      have hm : ∀ j ∈ nb :: (fi ++ (fa ++ fb)), ¬ F j := fun j q => hf j (h6.symm.subset q)
      cases s with
      | zero => omega
      | succ s =>
        exact nd_node.2 ⟨nb, iv, va, vb, fi, fa, fb, h1, h2.kept (hc.block nb h2.lt (hm nb List.mem_cons_self)), h3.kept hc (fun j q => hm j (List.mem_cons_of_mem _ (List.mem_append_left _ q))),
          nd_kept hc s a va fa (by omega) (fun j q => hm j (List.mem_cons_of_mem _ (List.mem_append_right _ (List.mem_append_left _ q)))) h4,
          nd_kept hc s b vb fb (by omega) (fun j q => hm j (List.mem_cons_of_mem _ (List.mem_append_right _ (List.mem_append_right _ q)))) h5, h6⟩
theorem NdAt.kept {w w' : World} {F : Nat → Prop} {t : SN} {v : Value} {f : List Nat} (h : NdAt w t v f) (hc : Chg F w w') (hf : ∀ j ∈ f, ¬ F j) : NdAt w' t v f := nd_kept hc t.size t v f (Nat.le_refl _) hf h
theorem NdAt.below {w w' : World} {t : SN} {v : Value} {f : List Nat} (h : NdAt w t v f) (hb : Below w.heap.size w w') : NdAt w' t v f := h.kept (F := fun _ => False) (Chg.of_below hb) (fun _ _ q => q)
theorem NdAt.ptr {w : World} {t : SN} {v : Value} {f : List Nat} (h : NdAt w t v f) : ∃ p, v = .pointer p ∧ (t.none? = true ↔ p = none) := by
  cases t using SN.parts with
  | nil => obtain ⟨rfl, _⟩ := nd_nil.1 h; exact ⟨none, rfl, by simp [SN.none?]⟩
  | node k r m is a b => obtain ⟨nb, _, _, _, _, _, _, rfl, _⟩ := nd_node.1 h; exact ⟨_, rfl, by simp [SN.none?]⟩
/-- Blocks f became blocks g: no others were written. -/
structure Step (f g : List Nat) (w w' : World) : Prop where
  nodup : g.Nodup
  sub : ∀ j ∈ g, j ∈ f ∨ w.heap.size ≤ j
  chg : Chg (· ∈ f) w w'
theorem Step.trans {f g h : List Nat} {a b c : World} (p : Step f g a b) (q : Step g h b c) : Step f h a c := by
  refine ⟨q.nodup, fun j hj => ?_, p.chg.trans q.chg (fun j hj => p.sub j hj)⟩
  rcases q.sub j hj with z | z
  · exact p.sub j z
  · exact Or.inr (Nat.le_trans p.chg.size z)
theorem Step.perm {f g f' g' : List Nat} {a b : World} (p : Step f g a b) (hf : f.Perm f') (hg : g.Perm g') : Step f' g' a b :=
  ⟨hg.nodup_iff.1 p.nodup, fun j hj => (p.sub j (hg.symm.subset hj)).imp_left fun z => hf.subset z, p.chg.mono fun _ hj => Or.inl (hf.subset hj)⟩
/-- .. with more beside them. -/
theorem Step.more {f g o : List Nat} {a b : World} (p : Step f g a b) (ho : (f ++ o).Nodup) (hlt : ∀ j ∈ o, j < a.heap.size) : Step (f ++ o) (g ++ o) a b := by
  rw [List.nodup_append] at ho
  refine ⟨?_, fun j hj => ?_, p.chg.mono fun _ hj => Or.inl (List.mem_append_left _ hj)⟩
  · rw [List.nodup_append]
    refine ⟨p.nodup, ho.2.1, fun x hx y hy e => ?_⟩
    subst e
    rcases p.sub x hx with z | z
    · exact ho.2.2 x z x hy rfl
    · have := hlt x hy; omega
  · rcases List.mem_append.1 hj with z | z
    · exact (p.sub j z).imp_left fun z => List.mem_append_left _ z
    · exact Or.inl (List.mem_append_right _ z)
theorem Step.refl {f : List Nat} (w : World) (h : f.Nodup) : Step f f w w := ⟨h, fun _ q => Or.inl q, Chg.refl _ _⟩
theorem Step.below {f : List Nat} {w w' : World} (h : f.Nodup) (hb : Below w.heap.size w w') : Step f f w w' := ⟨h, fun _ q => Or.inl q, Chg.of_below hb⟩
end Go.Proofs.YtdpfijhkbhmkgaaDoor
