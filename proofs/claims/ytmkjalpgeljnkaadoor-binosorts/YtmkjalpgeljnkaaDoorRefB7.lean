/-
  The document's heaps of trees: what is wrong with one.
-/
import Derived.Test.YtmkjalpgeljnkaaDoorRefB3
import Derived.Test.YtmkjalpgeljnkaaDoorRef1
namespace Go.Proofs.YtmkjalpgeljnkaaDoor
open Go.RowKit Go.Sort Go.Proofs

/-- What is wrong with ranks and sizes, tree by tree. -/
def rankE : Int → List (Int × List (Int × Int)) → Nat
  | _, [] => 0
  | last, (r, l) :: h => if r < 0 ∨ 5 < r then 1 else if r ≤ last ∨ l.length ≠ 2 ^ r.toNat then 3 else rankE r h
def outE (h : List (Int × List (Int × Int))) : Nat := if h.any (fun t => t.2.any outB) then 1 else 0
/-- No key is less than that of the root above it. -/
def keysB (t : Int × List (Int × Int)) : Bool := (List.range (t.2.length - 1)).all fun k => decide (keyL t.2 (aboveK t.1.toNat 0 1 (k + 1)) ≤ keyL t.2 (k + 1))
def keysE (h : List (Int × List (Int × Int))) : Nat := if h.all keysB then 0 else 3
/-- What is wrong with a heap of trees. -/
def binoE (h : List (Int × List (Int × Int))) : Nat := if rankE (-1) h = 0 then (if outE h = 0 then (if 60 < sizeZ h then 4 else keysE h) else outE h) else rankE (-1) h
theorem rankE_cons {last r : Int} {l : List (Int × Int)} {h : List (Int × List (Int × Int))} (h1 : ¬ (r < 0 ∨ 5 < r)) (h2 : ¬ (r ≤ last ∨ l.length ≠ 2 ^ r.toNat)) : rankE last ((r, l) :: h) = rankE r h := by simp only [rankE]; rw [if_neg h1, if_neg h2]
theorem drop_get {h : List (Int × List (Int × Int))} {i : Nat} {x : Int × List (Int × Int)} (hx : h[i]? = some x) : h.drop i = x :: h.drop (i + 1) := by
  obtain ⟨hi, e⟩ := List.getElem?_eq_some_iff.1 hx
  rw [List.drop_eq_getElem_cons hi, e]
/-- What the first loop knows. -/
structure Ranks (h : List (Int × List (Int × Int))) (i : Nat) (last : Int) (all : Nat) : Prop where
  eq : rankE (-1) h = rankE last (h.drop i)
  low : (i : Int) - 1 ≤ last
  high : last ≤ 5
  sum : all = sizeZ (h.take i)
  le : all ≤ 32 * i
  each : ∀ t ∈ h.take i, 0 ≤ t.1 ∧ t.1 ≤ 5 ∧ t.2.length = 2 ^ t.1.toNat
theorem Ranks.start (h : List (Int × List (Int × Int))) : Ranks h 0 (-1) 0 := ⟨by simp, by omega, by omega, by simp [sizeZ], by omega, fun t ht => by simp at ht⟩
theorem Ranks.step {h : List (Int × List (Int × Int))} {i all : Nat} {last r : Int} {l : List (Int × Int)} (H : Ranks h i last all) (hx : h[i]? = some (r, l)) (h1 : ¬ (r < 0 ∨ 5 < r)) (h2 : ¬ (r ≤ last ∨ l.length ≠ 2 ^ r.toNat)) : Ranks h (i + 1) r (all + l.length) := by
  have hl : l.length = 2 ^ r.toNat := by
    rcases Nat.decEq l.length (2 ^ r.toNat) with q | q
    · exact absurd (Or.inr q) h2
    · exact q
  have hle : l.length ≤ 32 := by rw [hl]; exact Nat.pow_le_pow_right (show 0 < 2 by omega) (show r.toNat ≤ 5 by omega)
  have hlow := H.low
  have hall := H.le
  refine ⟨?_, by omega, by omega, ?_, by omega, fun t ht => ?_⟩
  · rw [H.eq, drop_get hx, rankE_cons h1 h2]
  · rw [sizeZ_take_succ hx, H.sum]
  · obtain ⟨hi, e⟩ := List.getElem?_eq_some_iff.1 hx
    rw [List.take_succ_eq_append_getElem hi, e] at ht
    rcases List.mem_append.1 ht with q | q
    · exact H.each t q
    · rw [List.mem_singleton.1 q]; exact ⟨by omega, by omega, hl⟩
theorem Ranks.bad1 {h : List (Int × List (Int × Int))} {i all : Nat} {last r : Int} {l : List (Int × Int)} (H : Ranks h i last all) (hx : h[i]? = some (r, l)) (h1 : r < 0 ∨ 5 < r) : binoE h = 1 := by
  have e : rankE (-1) h = 1 := by rw [H.eq, drop_get hx]; simp only [rankE]; rw [if_pos h1]
  unfold binoE; rw [e]; rfl
theorem Ranks.bad3 {h : List (Int × List (Int × Int))} {i all : Nat} {last r : Int} {l : List (Int × Int)} (H : Ranks h i last all) (hx : h[i]? = some (r, l)) (h1 : ¬ (r < 0 ∨ 5 < r)) (h2 : r ≤ last ∨ l.length ≠ 2 ^ r.toNat) : binoE h = 3 := by
  have e : rankE (-1) h = 3 := by rw [H.eq, drop_get hx]; simp only [rankE]; rw [if_neg h1, if_pos h2]
  unfold binoE; rw [e]; rfl
theorem Ranks.ok {h : List (Int × List (Int × Int))} {all : Nat} {last : Int} (H : Ranks h h.length last all) : rankE (-1) h = 0 ∧ all = sizeZ h ∧ h.length ≤ 6 ∧ ∀ t ∈ h, 0 ≤ t.1 ∧ t.1 ≤ 5 ∧ t.2.length = 2 ^ t.1.toNat := by
  have e := H.each
  have a := H.sum
  rw [List.take_of_length_le (Nat.le_refl _)] at e a
  exact ⟨by rw [H.eq, List.drop_length]; rfl, a, by have := H.low; have := H.high; omega, e⟩

theorem outE_bad {h : List (Int × List (Int × Int))} {i : Nat} {r : Int} {l : List (Int × Int)} (h0 : rankE (-1) h = 0) (hx : h[i]? = some (r, l)) (ho : anyOut l.toArray = true) : binoE h = 1 := by
  have e : outE h = 1 := by
    unfold outE
    rw [if_pos]
    rw [List.any_eq_true]
    exact ⟨(r, l), List.mem_of_getElem? hx, by unfold anyOut at ho; simpa using ho⟩
  unfold binoE; rw [if_pos h0, e]; rfl
theorem outE_good {h : List (Int × List (Int × Int))} (ho : ∀ t ∈ h, anyOut t.2.toArray = false) : outE h = 0 := by
  unfold outE
  rw [if_neg]
  rw [List.any_eq_true]
  rintro ⟨t, ht, e⟩
  have := ho t ht
  unfold anyOut at this
  simp only [List.any_eq_true] at e
  obtain ⟨x, hx, e⟩ := e
  rw [List.any_eq_false] at this
  exact this x (by simpa using hx) e
theorem keysB_bad {r : Int} {l : List (Int × Int)} {k : Nat} (h1 : 1 ≤ k) (h2 : k < l.length) (h : keyL l k < keyL l (aboveK r.toNat 0 1 k)) : keysB (r, l) = false := by
  cases e : keysB (r, l)
  · rfl
  · unfold keysB at e
    rw [List.all_eq_true] at e
    have := of_decide_eq_true (e (k - 1) (List.mem_range.2 (by simp only; omega)))
    rw [show k - 1 + 1 = k by omega] at this
    simp only at this
    omega
theorem keysB_good {r : Int} {l : List (Int × Int)} (h : ∀ k, 1 ≤ k → k < l.length → ¬ keyL l k < keyL l (aboveK r.toNat 0 1 k)) : keysB (r, l) = true := by
  unfold keysB
  rw [List.all_eq_true]
  intro k hk
  have := h (k + 1) (by omega) (by have := List.mem_range.1 hk; simp only at this; omega)
  exact decide_eq_true (by simp only; omega)
theorem keysE_bad {h : List (Int × List (Int × Int))} {i : Nat} {t : Int × List (Int × Int)} (h0 : rankE (-1) h = 0) (h1 : outE h = 0) (h2 : ¬ 60 < sizeZ h) (hx : h[i]? = some t) (hk : keysB t = false) : binoE h = 3 := by
  have e : keysE h = 3 := by
    unfold keysE
    rw [if_neg]
    rw [List.all_eq_true]
    intro q
    rw [q t (List.mem_of_getElem? hx)] at hk
    cases hk
  unfold binoE; rw [if_pos h0, if_pos h1, if_neg h2, e]
theorem binoE_good {h : List (Int × List (Int × Int))} (h0 : rankE (-1) h = 0) (h1 : outE h = 0) (h2 : ¬ 60 < sizeZ h) (hk : ∀ t ∈ h, keysB t = true) : binoE h = 0 := by
  unfold binoE; rw [if_pos h0, if_pos h1, if_neg h2]; unfold keysE; rw [if_pos (List.all_eq_true.2 hk)]
theorem keyL_arr {l : List (Int × Int)} {k : Nat} (h : k < l.length) : l.toArray[k]!.1 = keyL l k := by
  rw [getElem!_pos _ k (by simpa using h)]
  unfold keyL
  rw [List.getElem?_eq_getElem h]
  simp
theorem aboveK_lt : ∀ (r root from_ k : Nat), root < k → from_ ≤ k → aboveK r root from_ k < k ∨ aboveK r root from_ k = root
  | 0, _, _, _, _, _ => Or.inr rfl
  | r + 1, root, from_, k, h1, h2 => by
    simp only [aboveK]
    by_cases q : from_ + 2 ^ r ≤ k
    · rw [if_pos q]; exact aboveK_lt r root _ k h1 q
    · rw [if_neg q]
      by_cases e : k = from_
      · rw [if_pos e]; exact Or.inr rfl
      · rw [if_neg e]
        rcases aboveK_lt r from_ (from_ + 1) k (by omega) (by omega) with a | a
        · exact Or.inl a
        · rw [a]; exact Or.inl (by omega)
theorem aboveK_small (r : Nat) {k : Nat} (h : 1 ≤ k) : aboveK r 0 1 k < k := by
  rcases aboveK_lt r 0 1 k h h with a | a
  · exact a
  · omega
end Go.Proofs.YtmkjalpgeljnkaaDoor
