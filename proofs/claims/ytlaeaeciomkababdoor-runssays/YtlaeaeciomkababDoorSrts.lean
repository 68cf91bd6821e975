/-
  Plain facts: what it is to be sorted.
-/
import Derived.Test.YtlaeaeciomkababDoorRd
namespace Go.Proofs.YtlaeaeciomkababDoor
open Go.RowKit Go.Sort Go.Proofs

theorem below_grown (B : Nat) (w : World) (n : Nat) (os : Array Obj) (hB : B ≤ w.heap.size) : Below B w (grow (w.drewN n) os) :=
  ⟨rfl, rfl, rfl, by rw [size_grow]; exact Nat.le_add_right _ _, fun k hk => by show (w.heap ++ os)[k]? = _; rw [Array.getElem?_append_left (by omega)]⟩

/-- Do keys not fall? -/
def srtB (xs : Array (Int × Int)) : Bool := (List.range (xs.size - 1)).all fun i => decide (xs[i]!.1 ≤ xs[i + 1]!.1)
theorem srtB_false {xs : Array (Int × Int)} {i : Nat} (hi : i + 1 < xs.size) (h : xs[i + 1]!.1 < xs[i]!.1) : srtB xs = false := by
  unfold srtB
  rw [List.all_eq_false]
  exact ⟨i, List.mem_range.2 (by omega), by simp; exact h⟩
theorem srtB_true {xs : Array (Int × Int)} (h : ∀ i, i + 1 < xs.size → xs[i]!.1 ≤ xs[i + 1]!.1) : srtB xs = true := by
  unfold srtB
  rw [List.all_eq_true]
  intro i hi
  exact decide_eq_true (h i (by have := List.mem_range.1 hi; omega))
theorem srtB_step {xs : Array (Int × Int)} (h : srtB xs = true) {i : Nat} (hi : i + 1 < xs.size) : xs[i]!.1 ≤ xs[i + 1]!.1 := by
  unfold srtB at h
  rw [List.all_eq_true] at h
  exact of_decide_eq_true (h i (List.mem_range.2 (by omega)))
theorem srtB_srt {xs : Array (Int × Int)} (h : srtB xs = true) : Srt 0 xs.size xs := by
  have key : ∀ n i, i + n < xs.size → xs[i]!.1 ≤ xs[i + n]!.1 := by
    intro n
    induction n with
    | zero => intro i _; exact Int.le_refl _
    | succ n ih => intro i hi; have := ih i (by omega); have := srtB_step h (i := i + n) (by omega); rw [show i + (n + 1) = i + n + 1 by omega]; omega
  intro i j _ h2 h3
  have := key (j - i) i (by omega)
  rwa [show i + (j - i) = j by omega] at this
theorem srt_srtB {xs : Array (Int × Int)} (h : Srt 0 xs.size xs) : srtB xs = true := srtB_true fun i hi => h i (i + 1) (by omega) (by omega) hi

theorem ret_b {a b : Bool} (h : a = b) : Ending.returned (.bool b) = .returned (.bool a) := by rw [h]
/-- ys is xs by keys, and what has one key stays in its order. -/
structure Sorts (xs ys : Array (Int × Int)) : Prop where
  size : ys.size = xs.size
  st : StEq xs.toList ys.toList
  srt : Srt 0 ys.size ys
end Go.Proofs.YtlaeaeciomkababDoor
