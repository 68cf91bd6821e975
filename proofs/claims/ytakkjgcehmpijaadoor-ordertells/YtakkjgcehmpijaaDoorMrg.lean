/-
  Plain facts: two lists merged.
-/
import Derived.Test.YtakkjgcehmpijaaDoorSMath
namespace Go.Proofs.YtakkjgcehmpijaaDoor
open Go.RowKit Go.Sort Go.Proofs

/-- Two lists merged: of one key those of the first go ahead. -/
def mrg : List (Int × Int) → List (Int × Int) → List (Int × Int)
  | [], ys => ys
  | x :: xs, [] => x :: xs
  | x :: xs, y :: ys => if y.1 < x.1 then y :: mrg (x :: xs) ys else x :: mrg xs (y :: ys)

theorem mrg_nil_left (ys : List (Int × Int)) : mrg [] ys = ys := by rw [mrg]
theorem mrg_nil_right (xs : List (Int × Int)) : mrg xs [] = xs := by cases xs <;> rw [mrg]
theorem mrg_right {x y : Int × Int} (xs ys : List (Int × Int)) (h : y.1 < x.1) : mrg (x :: xs) (y :: ys) = y :: mrg (x :: xs) ys := by rw [mrg, if_pos h]
theorem mrg_left {x y : Int × Int} (xs ys : List (Int × Int)) (h : ¬ y.1 < x.1) : mrg (x :: xs) (y :: ys) = x :: mrg xs (y :: ys) := by rw [mrg, if_neg h]

theorem mem_mrg (xs ys : List (Int × Int)) (z : Int × Int) : z ∈ mrg xs ys ↔ z ∈ xs ∨ z ∈ ys := by
  induction xs, ys using mrg.induct with
  | case1 ys => rw [mrg_nil_left]; simp
  | case2 x xs => rw [mrg_nil_right]; simp
  | case3 x xs y ys h ih => rw [mrg_right _ _ h, List.mem_cons, ih]; simp only [List.mem_cons]; grind
  | case4 x xs y ys h ih => rw [mrg_left _ _ h, List.mem_cons, ih]; simp only [List.mem_cons]; grind
theorem mrg_length (xs ys : List (Int × Int)) : (mrg xs ys).length = xs.length + ys.length := by
  induction xs, ys using mrg.induct with
  | case1 ys => rw [mrg_nil_left]; simp
  | case2 x xs => rw [mrg_nil_right]; simp
  | case3 x xs y ys h ih => rw [mrg_right _ _ h, List.length_cons, ih]; simp; omega
  | case4 x xs y ys h ih => rw [mrg_left _ _ h, List.length_cons, ih]; simp; omega
theorem mrg_sorted (xs ys : List (Int × Int)) (h1 : xs.Pairwise (fun a b => a.1 ≤ b.1)) (h2 : ys.Pairwise (fun a b => a.1 ≤ b.1)) : (mrg xs ys).Pairwise (fun a b => a.1 ≤ b.1) := by
  induction xs, ys using mrg.induct with
  | case1 ys => rw [mrg_nil_left]; exact h2
  | case2 x xs => rw [mrg_nil_right]; exact h1
  | case3 x xs y ys h ih =>
    rw [mrg_right _ _ h, List.pairwise_cons]
    refine ⟨fun z hz => ?_, ih h1 (List.pairwise_cons.1 h2).2⟩
    rcases (mem_mrg _ _ _).1 hz with m | m
    · rcases List.mem_cons.1 m with rfl | m
      · omega
      · have := (List.pairwise_cons.1 h1).1 z m; omega
    · exact (List.pairwise_cons.1 h2).1 z m
  | case4 x xs y ys h ih =>
    rw [mrg_left _ _ h, List.pairwise_cons]
    refine ⟨fun z hz => ?_, ih (List.pairwise_cons.1 h1).2 h2⟩
    rcases (mem_mrg _ _ _).1 hz with m | m
    · exact (List.pairwise_cons.1 h1).1 z m
    · rcases List.mem_cons.1 m with rfl | m
      · omega
      · have := (List.pairwise_cons.1 h2).1 z m; omega
theorem mrg_st (xs ys : List (Int × Int)) (h1 : xs.Pairwise (fun a b => a.1 ≤ b.1)) : StEq (xs ++ ys) (mrg xs ys) := by
  induction xs, ys using mrg.induct with
  | case1 ys => rw [mrg_nil_left]; exact fun _ => rfl
  | case2 x xs => rw [mrg_nil_right]; intro k; simp
  | case3 x xs y ys h ih =>
    rw [mrg_right _ _ h]
    intro k
    have e := ih h1 k
    rw [List.filter_cons, ← e, List.filter_append, List.filter_append, List.filter_cons (x := y)]
    by_cases hk : y.1 = k
    · have hn : (x :: xs).filter (fun z => z.1 == k) = [] := by
        rw [List.filter_eq_nil_iff]
        intro z hz
        have : x.1 ≤ z.1 := by
          rcases List.mem_cons.1 hz with rfl | m
          · exact Int.le_refl _
          · exact (List.pairwise_cons.1 h1).1 z m
        simp; omega
      rw [hn]; simp [hk]
    · simp [hk]
  | case4 x xs y ys h ih =>
    rw [mrg_left _ _ h]
    intro k
    have e := ih (List.pairwise_cons.1 h1).2 k
    rw [List.cons_append, List.filter_cons, List.filter_cons (x := x), e]
/-- Of two lists sorted the merged one is both, sorted. -/
theorem mrg_sorts {a b : Array (Int × Int)} (h1 : srtB a = true) (h2 : srtB b = true) : Sorts (a ++ b) (mrg a.toList b.toList).toArray := by
  have p1 := srt_pairwise (srtB_srt h1)
  have p2 := srt_pairwise (srtB_srt h2)
  have hm := mrg_sorted _ _ p1 p2
  refine ⟨by simp [mrg_length], by simpa using mrg_st _ b.toList p1, ?_⟩
  refine srtB_srt (srtB_true fun t ht => ?_)
  have ht' : t + 1 < (mrg a.toList b.toList).length := by simpa using ht
  have := (List.pairwise_iff_getElem.1 hm) t (t + 1) (by omega) ht' (by omega)
  rw [getElem!_pos _ t (by simp; omega), getElem!_pos _ (t + 1) (by simpa using ht)]
  simpa using this
end Go.Proofs.YtakkjgcehmpijaaDoor
