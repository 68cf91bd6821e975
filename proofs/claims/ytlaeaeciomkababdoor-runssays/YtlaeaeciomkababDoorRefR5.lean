/-
  The document's runs: what Runs keeps in memory.
-/
import Derived.Test.YtlaeaeciomkababDoorRefR4
namespace Go.Proofs.YtlaeaeciomkababDoor
open Go.RowKit Go.Sort Go.Proofs

/-- The runs so far, and what is held. -/
structure DocM (w0 W : World) (vo vh : Value) (rows : List (List Int)) (S : List Hd) (ss : List Sv) (fr : List Nat) : Prop where
  rows : RowsS W vo ss rows fr
  own : OwnE EH W w0.heap.size vh S
  nd : fr.Nodup
  ge : ∀ j ∈ fr, w0.heap.size ≤ j
  ap : ∀ j ∈ fr, some j ≠ vh.ownBlock
  bl : Below w0.heap.size w0 W
theorem DocM.begin (w : World) : DocM w w (.slice none 0 0) (.slice none 0 0) [] [] [] [] := ⟨RowsS.nil w, OwnE.nil EH w _, List.nodup_nil, fun j h => (by cases h), fun j h => (by cases h), Below.refl _ _⟩
theorem DocM.below {w0 W W' : World} {vo vh : Value} {rows : List (List Int)} {S : List Hd} {ss : List Sv} {fr : List Nat} (h : DocM w0 W vo vh rows S ss fr) (hb : Below W.heap.size W W') : DocM w0 W' vo vh rows S ss fr :=
  ⟨h.rows.below hb, h.own.below hb, h.nd, h.ge, h.ap, h.bl.trans (hb.mono h.bl.size)⟩
/-- Another list of what is held. -/
theorem DocM.held {w0 W W' : World} {vo vh vh' : Value} {rows : List (List Int)} {S S' : List Hd} {ss : List Sv} {fr : List Nat} (h : DocM w0 W vo vh rows S ss fr) (ho : OwnE EH W' w0.heap.size vh' S') (hc : Chg (fun j => some j = vh.ownBlock) W W')
    (hn : vh'.ownBlock = vh.ownBlock ∨ ∃ k, vh'.ownBlock = some k ∧ W.heap.size ≤ k) : DocM w0 W' vo vh' rows S' ss fr := by
  refine ⟨h.rows.kept hc fun j hj e => h.ap j hj e, ho, h.nd, h.ge, fun j hj e => ?_, ?_⟩
  · rcases hn with q | ⟨k, q, hk⟩
    · exact h.ap j hj (by rw [e, q])
    · rw [q] at e
      cases e
      have := h.rows.lt j hj
      omega
  · exact h.bl.trans ⟨hc.os, hc.tape, hc.output, hc.size, fun k hk => hc.block k (Nat.lt_of_lt_of_le hk h.bl.size) fun e => by
      have := (World.ownsRow.lt h.own k e.symm).1
      omega⟩
theorem own_upE {α : Type} {E : El Tryd.prog α} {w : World} {base : Nat} {v : Value} {ys : List α} (h : OwnE E w 0 v ys) (hb : ∀ g, v.ownBlock = some g → base ≤ g) : OwnE E w base v ys := by
  obtain ⟨h1, h2 | ⟨g, cap, cur, e, hg, r⟩⟩ := h
  · exact ⟨h1, Or.inl h2⟩
  · exact ⟨h1, Or.inr ⟨g, cap, cur, e, hb g (by rw [e]; rfl), r⟩⟩
/-- Other runs. -/
theorem DocM.rowed {w0 W W' : World} {vo vo' vh : Value} {rows rows' : List (List Int)} {S : List Hd} {ss ss' : List Sv} {fr fr' : List Nat} (h : DocM w0 W vo vh rows S ss fr) (r : RowsS W' vo' ss' rows' fr') (s : Step fr fr' W W') : DocM w0 W' vo' vh rows' S ss' fr' := by
  have hk : OwnE EH W' 0 vh S := own_kept (h.own.weak (Nat.zero_le _)) s.chg fun j z q => h.ap j q (by
    cases e : vh.ownBlock with
    | none => rw [e] at z; simp at z
    | some g => rw [e] at z; simp at z; rw [z])
  refine ⟨r, own_upE hk fun g e => (World.ownsRow.lt h.own g e).1, s.nodup, fun j hj => ?_, fun j hj e => ?_, ?_⟩
  · rcases s.sub j hj with q | q
    · exact h.ge j q
    · exact Nat.le_trans h.bl.size q
  · rcases s.sub j hj with q | q
    · exact h.ap j q e
    · have := (World.ownsRow.lt h.own j e.symm).2
      omega
  · exact h.bl.trans ⟨s.chg.os, s.chg.tape, s.chg.output, s.chg.size, fun k hk => s.chg.block k (Nat.lt_of_lt_of_le hk h.bl.size) fun e => by
      have := h.ge k e
      omega⟩
#print axioms DocM.rowed
#print axioms DocM.held
end Go.Proofs.YtlaeaeciomkababDoor
