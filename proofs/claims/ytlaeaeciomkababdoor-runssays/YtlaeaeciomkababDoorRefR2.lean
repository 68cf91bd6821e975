/-
  The document's runs: Merge.
-/
import Derived.Test.YtlaeaeciomkababDoorRefR1
namespace Go.Proofs.YtlaeaeciomkababDoor
open Go.RowKit Go.Sort Go.Proofs

theorem wrongLL_flat (ls : List (List Int)) : wrongLL ls = wrongN ls.flatten := by
  unfold wrongLL wrongN anyZ
  rw [List.any_flatten]
/-- The document's word for not sorted. -/
def ec (b : Bool) : Nat := if b then 0 else 3
theorem upB_take {l : List Int} {j : Nat} {x y : Int} (hx : l[j]? = some x) (hy : l[j + 1]? = some y) : upB (l.take (j + 2)) = (upB (l.take (j + 1)) && !decide (y < x)) := by
  obtain ⟨hj, e⟩ := List.getElem?_eq_some_iff.1 hy
  by_cases h : y < x
  · rw [decide_eq_true h, Bool.not_true, Bool.and_false]
    cases c : upB (l.take (j + 2))
    · rfl
    · have := (upB_iff _).1 c j x y (by rw [List.getElem?_take_of_lt (by omega)]; exact hx) (by rw [List.getElem?_take_of_lt (by omega)]; exact hy)
      omega
  · rw [decide_eq_false h, Bool.not_false, Bool.and_true, Bool.eq_iff_iff, upB_iff, upB_iff]
    constructor
    · intro q i a b ha hb
      have hi := (List.getElem?_eq_some_iff.1 hb).1
      have hi2 : i + 1 < j + 1 := by have := List.length_take_le (j + 1) l; omega
      rw [List.getElem?_take_of_lt (by omega)] at ha hb
      exact q i a b (by rw [List.getElem?_take_of_lt (by omega)]; exact ha) (by rw [List.getElem?_take_of_lt (by omega)]; exact hb)
    · intro q i a b ha hb
      have hi := (List.getElem?_eq_some_iff.1 hb).1
      have hi2 : i + 1 < j + 2 := by have := List.length_take_le (j + 2) l; omega
      rw [List.getElem?_take_of_lt (by omega)] at ha hb
      by_cases c : i + 1 < j + 1
      · exact q i a b (by rw [List.getElem?_take_of_lt (by omega)]; exact ha) (by rw [List.getElem?_take_of_lt (by omega)]; exact hb)
      · obtain rfl : i = j := by omega
        rw [hx] at ha; rw [hy] at hb; cases ha; cases hb; omega
theorem all_take {ls : List (List Int)} {i : Nat} {l : List Int} (h : ls[i]? = some l) : (ls.take (i + 1)).all upB = ((ls.take i).all upB && upB l) := by
  obtain ⟨hi, e⟩ := List.getElem?_eq_some_iff.1 h
  rw [List.take_succ_eq_append_getElem hi, List.all_append, e]; simp
theorem flat_succ {ls : List (List Int)} {i : Nat} {l : List Int} (h : ls[i]? = some l) : (ls.take (i + 1)).flatten = (ls.take i).flatten ++ l := by
  obtain ⟨hi, e⟩ := List.getElem?_eq_some_iff.1 h
  rw [List.take_succ_eq_append_getElem hi, List.flatten_append, e]; simp
theorem upB_none (l : List Int) : upB (l.take 1) = true := by
  match l with
  | [] => rfl
  | [a] => rfl
  | a :: b :: r => rfl
/-- What the document answers. -/
def DMgd (ls : List (List Int)) (zs : List Int) : Prop := if wrongG ls = 0 then SortedZ ls.flatten zs else zs = []
theorem wrongG_full {ls : List (List Int)} (h : wrongLL ls = 4) : wrongG ls = 4 := by unfold wrongG; rw [if_neg (by rw [h]; omega), h]
theorem ints_all (v : Value) (l : List Int) (w : World) (h : SlE EZ w v l) (h60 : l.length ≤ 60) :
    Calls Tryd.prog 33 #[v] w fun e w' => ∃ u zs, e = .returned u ∧ SlE EZ w' u zs ∧ SortedZ l zs ∧ Below w.heap.size w w' := by
  obtain ⟨p, cap, rfl, hc⟩ := id h
  by_cases h0 : 0 < l.length
  · obtain ⟨b, o, rfl, _, _, hr⟩ := h.some h0
    refine (ints_any hr rfl h0 h60).mono ?_
    rintro e w' ⟨u, rfl, zs, ho, hs, hb⟩
    exact ⟨u, zs, rfl, ho.sl, hs, hb⟩
  · have e0 : l = [] := List.eq_nil_of_length_eq_zero (by omega)
    subst e0
    refine (ints_none _ w h).mono ?_
    rintro e w' ⟨u, rfl, hs, hb⟩
    exact ⟨u, [], rfl, hs, ⟨List.Perm.refl _, List.Pairwise.nil⟩, hb⟩
#print axioms upB_take
#print axioms ints_all
end Go.Proofs.YtlaeaeciomkababDoor
