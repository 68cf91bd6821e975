/-
  Lists of items of one's own that grow by append, one item at a time.
-/
import Derived.Test.YtlaeaeciomkabaaDoorRd
import Derived.OwnWalk
namespace Go.Proofs.YtlaeaeciomkabaaDoor
open Go.RowKit Go.Sort Go.Proofs

/-- The cells of items, one behind the other. -/
def flatL (ys : List (Int × Int)) : List Value := ys.flatMap encI
theorem flatL_len (ys : List (Int × Int)) : (flatL ys).length = ys.length * 2 := by
  induction ys with
  | nil => rfl
  | cons y r ih => simp [flatL, encI] at ih ⊢; omega
theorem flatL_snoc (ys : List (Int × Int)) (x : Int × Int) : flatL (ys ++ [x]) = flatL ys ++ [.int .i64 x.1, .int .i64 x.2] := by simp [flatL, encI]
theorem flatL_get (ys : List (Int × Int)) : ∀ i (h : i < ys.length), (flatL ys)[i * 2]? = some (.int .i64 ys[i].1) ∧ (flatL ys)[i * 2 + 1]? = some (.int .i64 ys[i].2) := by
  induction ys with
  | nil => intro i h; exact absurd h (Nat.not_lt_zero _)
  | cons y r ih =>
    intro i h
    match i, h with
    | 0, _ => exact ⟨rfl, rfl⟩
    | i + 1, h =>
      have := ih i (by simpa using h)
      have e : flatL (y :: r) = .int .i64 y.1 :: .int .i64 y.2 :: flatL r := rfl
      rw [e, show (i + 1) * 2 = i * 2 + 1 + 1 by omega]
      exact this

/-- Two lists of one's own that share no row. -/
def Apart (u v : Value) : Prop := ∀ k, u.ownBlock = some k → v.ownBlock ≠ some k
theorem Apart.symm {u v : Value} (h : Apart u v) : Apart v u := fun k h1 h2 => h k h2 h1
theorem Apart.nil (v : Value) : Apart (.slice none 0 0) v := fun k h => by cases h
theorem below_drewN {B : Nat} {a w : World} (h : Below B a w) (n : Nat) : Below B a (w.drewN n) := ⟨h.os, h.tape, h.output, h.size, h.block⟩
end Go.Proofs.YtlaeaeciomkabaaDoor
