/-
  Plain facts: the items of a tree, and of the list that it is written as.
-/
import Derived.Test.YtoaabpoicacogaaDoorLChk
namespace Go.Proofs.YtoaabpoicacogaaDoor

/-- All keys and ids of a tree may be. -/
def InR (t : LT) : Prop := ∀ x ∈ t.items, -1000000 ≤ x.1 ∧ x.1 ≤ 1000000 ∧ 0 ≤ x.2 ∧ x.2 ≤ 1000000
theorem InR.left {k i : Int} {l r : LT} (h : InR (.node k i l r)) : InR l := fun x hx => h x (by simp [LT.items, hx])
theorem InR.right {k i : Int} {l r : LT} (h : InR (.node k i l r)) : InR r := fun x hx => h x (by simp [LT.items, hx])
theorem InR.meld {a b : LT} (ha : InR a) (hb : InR b) : InR (LT.meld a b) := fun x hx => by
  rcases List.mem_append.1 ((LT.meld_items a b).mem_iff.1 hx) with q | q
  · exact ha x q
  · exact hb x q
theorem enc_items : ∀ (t : LT) (o : Nat), ∀ x ∈ LT.enc o t, (x.1, x.2.1) ∈ t.items
  | ⟨none⟩, _, x, hx => by simp [LT.enc] at hx
  | ⟨some (k, i, l, r)⟩, o, x, hx => by
    simp only [LT.enc, List.mem_cons, List.mem_append] at hx
    simp only [LT.items, List.mem_cons, List.mem_append]
    rcases hx with rfl | hx | hx
    · exact Or.inl rfl
    · exact Or.inr (Or.inl (enc_items l _ x hx))
    · exact Or.inr (Or.inr (enc_items r _ x hx))
theorem enc_right {t : LT} (h : InR t) (o : Nat) : (LT.enc o t).any LT.outN4 = false := by
  rw [List.any_eq_false]
  intro x hx
  have := h _ (enc_items t o x hx)
  simp only at this
  unfold LT.outN4
  simp only [decide_eq_true_eq]
  omega
end Go.Proofs.YtoaabpoicacogaaDoor
