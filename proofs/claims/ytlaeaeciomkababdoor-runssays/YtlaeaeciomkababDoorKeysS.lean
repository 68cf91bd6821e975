/-
  Are the keys of two lists the same, in order?
-/
import Derived.Test.YtlaeaeciomkababDoorOwn
namespace Go.Proofs.YtlaeaeciomkababDoor
open Go.RowKit Go.Sort Go.Proofs

/-- Two lists of numbers that do not fall, and have the same ones, are the same. -/
theorem perm_sorted_eq : ∀ (l l' : List Int), l.Pairwise (· ≤ ·) → l'.Pairwise (· ≤ ·) → l.Perm l' → l = l'
  | [], l', _, _, h => (List.nil_perm.1 h).symm ▸ rfl
  | x :: r, [], _, _, h => absurd h.length_eq (by simp)
  | x :: r, y :: s, h1, h2, h => by
    have a : y ≤ x := by
      rcases List.mem_cons.1 (h.mem_iff.1 (List.mem_cons_self)) with e | m
      · omega
      · exact (List.pairwise_cons.1 h2).1 x m
    have b : x ≤ y := by
      rcases List.mem_cons.1 (h.mem_iff.2 (List.mem_cons_self)) with e | m
      · omega
      · exact (List.pairwise_cons.1 h1).1 y m
    have e : x = y := by omega
    subst e
    rw [perm_sorted_eq r s (List.pairwise_cons.1 h1).2 (List.pairwise_cons.1 h2).2 h.cons_inv]

theorem OwnI.form {w : World} {base : Nat} {v : Value} {ys : List (Int × Int)} (h : OwnI w base v ys) : ∃ p c, v = .slice p ys.length c := by
  obtain ⟨_, ⟨rfl, h0⟩ | ⟨g, cap, cur, rfl, _⟩⟩ := h
  · exact ⟨none, 0, by rw [h0]⟩
  · exact ⟨_, _, rfl⟩
end Go.Proofs.YtlaeaeciomkababDoor
