/-
  Plain facts on pairs that stand the wrong way round.
-/
import Derived.Test.YtaplomajcdoekaaInvW
import Derived.Test.YtaplomajcdoekaaSMath
namespace Go.Proofs.Ytaplomajcdoekaa
open Go.RowKit Go.Sort Go.Proofs

def invL : List (Int × Int) → Nat
  | [] => 0
  | x :: r => r.countP (fun y => decide (y.1 < x.1)) + invL r
def unL : List (Int × Int) → Nat
  | [] => 0
  | x :: r => r.countP (fun y => decide (y.1 ≠ x.1)) + unL r
theorem invL_snoc (x : Int × Int) : ∀ l : List (Int × Int), invL (l ++ [x]) = invL l + l.countP (fun y => decide (x.1 < y.1))
  | [] => rfl
  | a :: r => by
    have := invL_snoc x r
    simp only [List.cons_append, invL, this, List.countP_append, List.countP_cons, List.countP_nil]
    by_cases h : x.1 < a.1 <;> simp [h] <;> omega
theorem unL_snoc (x : Int × Int) : ∀ l : List (Int × Int), unL (l ++ [x]) = unL l + l.countP (fun y => decide (y.1 ≠ x.1))
  | [] => rfl
  | a :: r => by
    have := unL_snoc x r
    simp only [List.cons_append, unL, this, List.countP_append, List.countP_cons, List.countP_nil]
    by_cases h : x.1 = a.1
    · simp [h]; omega
    · simp [h, Ne.symm h]; omega
theorem countP_rev (p : Int × Int → Bool) (l : List (Int × Int)) : l.reverse.countP p = l.countP p := (List.reverse_perm l).countP_eq p
theorem countP_split (x : Int) (l : List (Int × Int)) : l.countP (fun y => decide (y.1 < x)) + l.countP (fun y => decide (x < y.1)) = l.countP (fun y => decide (y.1 ≠ x)) := by
  induction l with
  | nil => rfl
  | cons a r ih =>
    simp only [List.countP_cons]
    by_cases h1 : a.1 < x
    · have h2 : ¬ x < a.1 := by omega
      have h3 : a.1 ≠ x := by omega
      simp [h1, h2, h3] at ih ⊢; omega
    · by_cases h2 : x < a.1
      · have h3 : a.1 ≠ x := by omega
        simp [h1, h2, h3] at ih ⊢; omega
      · have h3 : a.1 = x := by omega
        simp [h3] at ih ⊢; omega
theorem inv_rev : ∀ l : List (Int × Int), invL l + invL l.reverse = unL l
  | [] => rfl
  | x :: r => by
    have := inv_rev r
    have h := countP_split x.1 r
    rw [List.reverse_cons, invL_snoc, countP_rev, invL, unL]
    omega
theorem invL_zero : ∀ l : List (Int × Int), invL l = 0 ↔ l.Pairwise (fun x y => x.1 ≤ y.1)
  | [] => by simp [invL]
  | x :: r => by
    rw [invL, List.pairwise_cons, ← invL_zero r, Nat.add_eq_zero_iff, List.countP_eq_zero]
    simp
theorem inv_swap (x y : Int × Int) (b : List (Int × Int)) : ∀ a : List (Int × Int), (invL (a ++ y :: x :: b) : Int) = invL (a ++ x :: y :: b) + (if x.1 < y.1 then 1 else 0) - (if y.1 < x.1 then 1 else 0)
  | [] => by
    simp only [List.nil_append, invL, List.countP_cons]
    by_cases h1 : x.1 < y.1
    · have h2 : ¬ y.1 < x.1 := by omega
      simp [h1, h2]; omega
    · by_cases h2 : y.1 < x.1
      · simp [h1, h2]; omega
      · simp [h1, h2]; omega
  | c :: a => by
    have := inv_swap x y b a
    have e : (a ++ y :: x :: b).countP (fun z => decide (z.1 < c.1)) = (a ++ x :: y :: b).countP (fun z => decide (z.1 < c.1)) := by
      simp only [List.countP_append, List.countP_cons]; omega
    simp only [List.cons_append, invL, e]
    omega

theorem rowInv_count (xs : Array (Int × Int)) (i : Nat) : ∀ j, j ≤ xs.size → rowInv xs i j = (xs.toList.take j).countP (fun y => decide (xs[i]!.1 < y.1))
  | 0, _ => by simp [rowInv]
  | j + 1, h => by
    have hj : j < xs.toList.length := by simp; omega
    rw [rowInv, rowInv_count xs i j (by omega), List.take_succ_eq_append_getElem hj, List.countP_append, getD_toList xs j hj]
    simp [List.countP_cons]
theorem invTo_list (xs : Array (Int × Int)) : ∀ i, i ≤ xs.size → invTo xs i = invL (xs.toList.take i)
  | 0, _ => by simp [invTo, invL]
  | i + 1, h => by
    have hi : i < xs.toList.length := by simp; omega
    rw [invTo, invTo_list xs i (by omega), rowInv_count xs i i (by omega), List.take_succ_eq_append_getElem hi, invL_snoc, getD_toList xs i hi]
theorem invTo_all (xs : Array (Int × Int)) : invTo xs xs.size = invL xs.toList := by
  rw [invTo_list xs _ (Nat.le_refl _), List.take_of_length_le (by simp)]
theorem inv_sorted (xs : Array (Int × Int)) : srtB xs = decide (invTo xs xs.size = 0) := by
  rw [Bool.eq_iff_iff, decide_eq_true_iff, invTo_all, invL_zero]
  refine ⟨fun h => srt_pairwise (srtB_srt h), fun h => srtB_true fun i hi => ?_⟩
  have := (List.pairwise_iff_getElem.1 h) i (i + 1) (by simp; omega) (by simpa using hi) (by omega)
  rwa [getD_toList, getD_toList] at this

/-- How many of the first m are of another key than the one at j. -/
def uRow (xs : Array (Int × Int)) (j : Nat) : Nat → Nat
  | 0 => 0
  | m + 1 => uRow xs j m + if xs[m]!.1 = xs[j]!.1 then 0 else 1
theorem uRow_le (xs : Array (Int × Int)) (j : Nat) : ∀ m, uRow xs j m ≤ m
  | 0 => Nat.le_refl _
  | m + 1 => by have := uRow_le xs j m; rw [uRow]; split <;> omega
theorem uRow_count (xs : Array (Int × Int)) (j : Nat) : ∀ m, m ≤ xs.size → uRow xs j m = (xs.toList.take m).countP (fun y => decide (y.1 ≠ xs[j]!.1))
  | 0, _ => by simp [uRow]
  | m + 1, h => by
    have hm : m < xs.toList.length := by simp; omega
    rw [uRow, uRow_count xs j m (by omega), List.take_succ_eq_append_getElem hm, List.countP_append, getD_toList xs m hm]
    by_cases e : xs[m]!.1 = xs[j]!.1 <;> simp [e]
/-- Of the last r, each with those ahead of it. -/
def uSum (xs : Array (Int × Int)) (n : Nat) : Nat → Nat
  | 0 => 0
  | r + 1 => uSum xs n r + uRow xs (n - 1 - r) (n - 1 - r)
theorem uSum_le (xs : Array (Int × Int)) (n : Nat) (hn : n ≤ 60) : ∀ r, uSum xs n r ≤ 60 * r
  | 0 => Nat.le_refl _
  | r + 1 => by have := uSum_le xs n hn r; have := uRow_le xs (n - 1 - r) (n - 1 - r); rw [uSum]; omega
theorem uSum_list (xs : Array (Int × Int)) : ∀ r, r ≤ xs.size → uSum xs xs.size r + unL (xs.toList.take (xs.size - r)) = unL xs.toList
  | 0, _ => by simp [uSum, List.take_of_length_le]
  | r + 1, h => by
    have hj : xs.size - 1 - r < xs.toList.length := by simp; omega
    have ih := uSum_list xs r (by omega)
    rw [show xs.size - r = (xs.size - 1 - r) + 1 by omega, List.take_succ_eq_append_getElem hj, unL_snoc, getD_toList xs _ hj, ← uRow_count xs _ _ (by omega)] at ih
    rw [uSum, show xs.size - (r + 1) = xs.size - 1 - r by omega]
    omega
theorem uSum_all (xs : Array (Int × Int)) : uSum xs xs.size xs.size = unL xs.toList := by
  have := uSum_list xs xs.size (Nat.le_refl _)
  simpa [unL] using this
theorem wrong_perm {xs : Array (Int × Int)} {l : List (Int × Int)} (h : xs.toList.Perm l) : wrong l.toArray = wrong xs := by
  have h1 : anyOut l.toArray = anyOut xs := any_perm h.symm outB
  have h2 : l.toArray.size = xs.size := by have := h.length_eq; simpa using this.symm
  unfold wrong
  rw [h1, h2]
end Go.Proofs.Ytaplomajcdoekaa
