/-
  Package soft: a heap in use, and lists of items beside it.
-/
import Derived.Test.YtdpfijhkbhmkgaaDoorSoY
namespace Go.Proofs.YtdpfijhkbhmkgaaDoor
open Go.RowKit Go.Sort Go.Proofs Go.Lib

/-- A list's block is none of these. -/
def OutL (v : Value) (f : List Nat) : Prop := ∀ k, v.ownBlock = some k → k ∉ f
theorem OutL.nil (f : List Nat) : OutL (.slice none 0 0) f := fun k h => by cases h
section
variable {w w' : World} {B b0 hb r0 n : Nat} {ts : List SN} {f f' : List Nat} {v v' : Value} {ys : List (Int × Int)}
theorem OwnI.chg (h : OwnI w b0 v ys) {F : Nat → Prop} (hc : Chg F w w') (hf : ∀ k, v.ownBlock = some k → ¬ F k) : OwnI w' b0 v ys := by
  cases hv : v.ownBlock with
  | none =>
    obtain ⟨e1, h0 | ⟨g, cap, cur, rfl, _⟩⟩ := h
    · exact ⟨e1, Or.inl h0⟩
    · simp [Value.ownBlock] at hv
  | some g =>
    have hg := (World.ownsRow.lt h g hv).2
    have hb := hc.block g hg (hf g hv)
    obtain ⟨e1, h0 | ⟨g', cap, cur, rfl, q1, q2, q3⟩⟩ := h
    · exact ⟨e1, Or.inl h0⟩
    · simp [Value.ownBlock] at hv
      subst hv
      exact ⟨e1, Or.inr ⟨g', cap, cur, rfl, q1, hb.trans q2, q3⟩⟩
/-- The heap is used: the list stays. -/
theorem OwnI.step (h : OwnI w b0 v ys) (ho : OutL v f) (s : Step f f' w w') : OwnI w' b0 v ys ∧ OutL v f' := by
  refine ⟨h.chg s.chg ho, fun k hk hj => ?_⟩
  rcases s.sub k hj with q | q
  · exact ho k hk q
  · have := (World.ownsRow.lt h k hk).2
    omega
/-- The list grows: the heap stays. -/
theorem SH.grown (h : SH w B hb r0 n ts f) (ho : OutL v f) (hg : w.grownBy w' v.ownBlock) (hv : v'.ownBlock = v.ownBlock ∨ v'.ownBlock = some w.heap.size) : SH w' B hb r0 n ts f ∧ OutL v' f := by
  refine ⟨h.kept (F := fun j => v.ownBlock = some j) (Chg.of_grown hg fun k e => e) (fun j z q => ho j q z), fun k hk hj => ?_⟩
  rcases hv with e | e
  · exact ho k (e ▸ hk) hj
  · rw [e] at hk
    have := h.lt k hj
    have := Option.some.inj hk
    omega
theorem SH.alloc (h : SH w B hb r0 n ts f) (o : Obj) : SH (w.alloc o) B hb r0 n ts f := h.below ((Below.refl _ w).alloc (Nat.le_refl _) o)
end
end Go.Proofs.YtdpfijhkbhmkgaaDoor
