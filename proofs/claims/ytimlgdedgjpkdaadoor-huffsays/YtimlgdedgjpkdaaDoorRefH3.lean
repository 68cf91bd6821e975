/-
  The document's codes: Lengths, walked.
-/
import Derived.Test.YtimlgdedgjpkdaaDoorRefH2
import Derived.Test.YtimlgdedgjpkdaaDoorRefH1
import Derived.Test.YtimlgdedgjpkdaaDoorAppE
import Derived.Test.YtimlgdedgjpkdaaDoorHQ
import Derived.Deep.RegionWith
namespace Go.Proofs.YtimlgdedgjpkdaaDoor
open Go.RowKit Go.Sort Go.Proofs

/-- The three lists in memory. -/
structure DoU (w0 w : World) (ob fb : Nat) (vw : Value) (out of W : List Int) : Prop where
  outm : WrE EZ w ob 0 out
  ofm : WrE EZ w fb 0 of
  wt : OwnE EZ w w0.heap.size vw W
  ne : ob ≠ fb
  apart : ∀ k, vw.ownBlock = some k → k ≠ ob ∧ k ≠ fb
  obase : w0.heap.size ≤ ob
  fbase : w0.heap.size ≤ fb
  below : Below w0.heap.size w0 w
section
variable {w0 w w' : World} {ob fb : Nat} {vw : Value} {out of W : List Int}
theorem DoU.down (h : DoU w0 w ob fb vw out of W) (n : Nat) : DoU w0 (w.drewN n) ob fb vw out of W := ⟨h.outm.drewN n, h.ofm.drewN n, OwnE.drewN h.wt n, h.ne, h.apart, h.obase, h.fbase, below_drewN h.below n⟩
theorem DoU.below' (h : DoU w0 w ob fb vw out of W) (hb : Below w.heap.size w w') : DoU w0 w' ob fb vw out of W :=
  ⟨h.outm.below hb h.outm.lt, h.ofm.below hb h.ofm.lt, h.wt.below hb, h.ne, h.apart, h.obase, h.fbase, h.below.trans (hb.mono h.below.size)⟩
theorem DoU.setOut (h : DoU w0 w ob fb vw out of W) {i : Nat} (hi : i < out.length) (y : Int) : DoU w0 (w.setCell ⟨ob, i, none⟩ (.int .i64 y)) ob fb vw (out.set i y) of W := by
  refine ⟨h.outm.setInt hi y, h.ofm.block (by simp) (Below.heap_setCell _ _ _ _ (fun e => h.ne e.symm)), ?_, h.ne, h.apart, h.obase, h.fbase, h.below.setCell (p := ⟨ob, i, none⟩) h.obase _⟩
  refine World.ownsRow.kept h.wt (gb_setCell w ⟨ob, i, none⟩ _) ?_
  cases hv : vw.ownBlock with
  | none => simp
  | some k => simp; exact (h.apart k hv).1
theorem DoU.setOf (h : DoU w0 w ob fb vw out of W) {i : Nat} (hi : i < of.length) (y : Int) : DoU w0 (w.setCell ⟨fb, i, none⟩ (.int .i64 y)) ob fb vw out (of.set i y) W := by
  refine ⟨h.outm.block (by simp) (Below.heap_setCell _ _ _ _ h.ne), h.ofm.setInt hi y, ?_, h.ne, h.apart, h.obase, h.fbase, h.below.setCell (p := ⟨fb, i, none⟩) h.fbase _⟩
  refine World.ownsRow.kept h.wt (gb_setCell w ⟨fb, i, none⟩ _) ?_
  cases hv : vw.ownBlock with
  | none => simp
  | some k => simp; exact (h.apart k hv).2
theorem DoU.setW {g n cap : Nat} (h : DoU w0 w ob fb (.slice (some ⟨g, 0, none⟩) n cap) out of W) {i : Nat} (hi : i < n) (y : Int) : DoU w0 (w.setCell ⟨g, i, none⟩ (.int .i64 y)) ob fb (.slice (some ⟨g, 0, none⟩) n cap) out of (W.set i y) := by
  obtain ⟨a1, a2⟩ := h.apart g rfl
  have hg : w0.heap.size ≤ g := (World.ownsRow.lt h.wt g rfl).1
  have e := h.wt.setE hi y
  simp only [EZ, Nat.mul_one] at e
  exact ⟨h.outm.block (by simp) (Below.heap_setCell _ _ _ _ (fun e => a1 e.symm)), h.ofm.block (by simp) (Below.heap_setCell _ _ _ _ (fun e => a2 e.symm)), e, h.ne, h.apart, h.obase, h.fbase, h.below.setCell (p := ⟨g, i, none⟩) hg _⟩
theorem DoU.grown {v' : Value} {y : Int} {wA w1 : World} (h : DoU w0 w ob fb vw out of W) (hb : Below w.heap.size w wA) (a1 : OwnE EZ w1 w0.heap.size v' (W ++ [y])) (a2 : wA.grownBy w1 vw.ownBlock) (a3 : v'.ownBlock = vw.ownBlock ∨ v'.ownBlock = some wA.heap.size) : DoU w0 w1 ob fb v' out of (W ++ [y]) := by
  have hA := h.below' hb
  have ho : some ob ≠ vw.ownBlock := fun e => (h.apart ob e.symm).1 rfl
  have hf : some fb ≠ vw.ownBlock := fun e => (h.apart fb e.symm).2 rfl
  have l1 := h.outm.lt
  have l2 := h.ofm.lt
  have l3 := hb.size
  refine ⟨hA.outm.kept a2 ho, hA.ofm.kept a2 hf, a1, h.ne, fun k hk => ?_, h.obase, h.fbase, hA.below.trans (below_ownE hA.wt a2 (Nat.le_refl _) hA.below.size)⟩
  rcases a3 with e | e
  · exact h.apart k (by rw [← e]; exact hk)
  · rw [e] at hk
    obtain rfl := Option.some.inj hk
    constructor <;> omega
theorem DoU.wcell (h : DoU w0 w ob fb vw out of W) (h0 : 0 < W.length) : ∃ g cap, vw = .slice (some ⟨g, 0, none⟩) W.length cap ∧ ∀ (t : Nat) (x : Int), W[t]? = some x → w.cell? ⟨g, t, none⟩ = some (.int .i64 x) ∧ w.frozen? ⟨g, t, none⟩ = false := by
  obtain ⟨g, cp, e, _, _, hr, hf⟩ := h.wt.some rfl h0
  refine ⟨g, cp, e, fun t x hx => ?_⟩
  have := hr.int hx
  rw [Nat.zero_add] at this
  exact ⟨this, hf t⟩
end
end Go.Proofs.YtimlgdedgjpkdaaDoor
