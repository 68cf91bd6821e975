/-
  Three lists of whole numbers that grow side by side.
-/
import Derived.Test.YtlaeaeciomkababDoorElZ
import Derived.Test.YtlaeaeciomkababDoorOwn
import Derived.Test.YtlaeaeciomkababDoorWr
import Derived.Test.YtlaeaeciomkababDoorHQ
namespace Go.Proofs.YtlaeaeciomkababDoor
open Go.RowKit Go.Sort Go.Proofs

structure Tri (w0 w : World) (va vb vc : Value) (xs ys zs : List Int) : Prop where
  a : OwnE EZ w w0.heap.size va xs
  b : OwnE EZ w w0.heap.size vb ys
  c : OwnE EZ w w0.heap.size vc zs
  ab : Apart va vb
  ac : Apart va vc
  bc : Apart vb vc
  below : Below w0.heap.size w0 w
section
variable {w0 w w' : World} {va vb vc : Value} {xs ys zs : List Int}
theorem Tri.begin (w : World) : Tri w w (.slice none 0 0) (.slice none 0 0) (.slice none 0 0) [] [] [] := ⟨OwnE.nil EZ w _, OwnE.nil EZ w _, OwnE.nil EZ w _, Apart.nil _, Apart.nil _, Apart.nil _, Below.refl _ _⟩
theorem Tri.rot (h : Tri w0 w va vb vc xs ys zs) : Tri w0 w vb vc va ys zs xs := ⟨h.b, h.c, h.a, h.bc, h.ab.symm, h.ac.symm, h.below⟩
theorem Tri.next (h : Tri w0 w va vb vc xs ys zs) (hb : Below w.heap.size w w') : Tri w0 w' va vb vc xs ys zs := ⟨h.a.below hb, h.b.below hb, h.c.below hb, h.ab, h.ac, h.bc, h.below.trans (hb.mono h.below.size)⟩
theorem tri_kept {base : Nat} {u v : Value} {ws : List Int} (h : OwnE EZ w base u ws) (hg : w.grownBy w' v.ownBlock) (ha : Apart u v) : OwnE EZ w' base u ws := by
  refine World.ownsRow.kept h hg ?_
  cases hv : u.ownBlock with
  | none => exact Or.inl rfl
  | some k => exact Or.inr fun e => ha k hv e.symm
theorem apart_grown {base : Nat} {u v v' : Value} {ws : List Int} {wA : World} (h : OwnE EZ wA base u ws) (ha : Apart v u) (a3 : v'.ownBlock = v.ownBlock ∨ v'.ownBlock = some wA.heap.size) : Apart v' u := fun k h1 h2 => by
  rcases a3 with e | e
  · exact ha k (by rw [← e]; exact h1) h2
  · rw [e] at h1
    obtain rfl := Option.some.inj h1
    have := (World.ownsRow.lt h _ h2).2
    omega
theorem Tri.grow {va' : Value} {y : Int} {wA w1 : World} (h : Tri w0 w va vb vc xs ys zs) (hb : Below w.heap.size w wA) (a1 : OwnE EZ w1 w0.heap.size va' (xs ++ [y])) (a2 : wA.grownBy w1 va.ownBlock) (a3 : va'.ownBlock = va.ownBlock ∨ va'.ownBlock = some wA.heap.size) : Tri w0 w1 va' vb vc (xs ++ [y]) ys zs := by
  have hA := h.next hb
  exact ⟨a1, tri_kept hA.b a2 hA.ab.symm, tri_kept hA.c a2 hA.ac.symm, apart_grown hA.b hA.ab a3, apart_grown hA.c hA.ac a3, hA.bc, hA.below.trans (below_ownE hA.a a2 (Nat.le_refl _) hA.below.size)⟩
theorem Tri.set {g n cap : Nat} (h : Tri w0 w (.slice (some ⟨g, 0, none⟩) n cap) vb vc xs ys zs) {i : Nat} (hi : i < n) (y : Int) : Tri w0 (w.setCell ⟨g, i, none⟩ (.int .i64 y)) (.slice (some ⟨g, 0, none⟩) n cap) vb vc (xs.set i y) ys zs := by
  have hg : w0.heap.size ≤ g := (World.ownsRow.lt h.a g rfl).1
  have e := h.a.setE hi y
  simp only [EZ, Nat.mul_one] at e
  exact ⟨e, tri_kept (v := .slice (some ⟨g, 0, none⟩) n cap) h.b (gb_setCell w ⟨g, i, none⟩ _) h.ab.symm, tri_kept (v := .slice (some ⟨g, 0, none⟩) n cap) h.c (gb_setCell w ⟨g, i, none⟩ _) h.ac.symm, h.ab, h.ac, h.bc, h.below.setCell (p := ⟨g, i, none⟩) hg _⟩
theorem Tri.cells (h : Tri w0 w va vb vc xs ys zs) (h0 : 0 < xs.length) : ∃ g cap, va = .slice (some ⟨g, 0, none⟩) xs.length cap ∧ ∀ (t : Nat) (x : Int), xs[t]? = some x → w.cell? ⟨g, t, none⟩ = some (.int .i64 x) ∧ w.frozen? ⟨g, t, none⟩ = false := by
  obtain ⟨g, cp, e, _, _, hr, hf⟩ := h.a.some rfl h0
  refine ⟨g, cp, e, fun t x hx => ?_⟩
  have := hr.int hx
  rw [Nat.zero_add] at this
  exact ⟨this, hf t⟩
end
#print axioms Tri.grow
end Go.Proofs.YtlaeaeciomkababDoor
