/-
  The document's own sort: each item is put in behind those that are not above it.
-/
import Derived.Test.YtlaeaeciomkababDoorSMath
import Derived.Test.YtlaeaeciomkababDoorOwnA
namespace Go.Proofs.YtlaeaeciomkababDoor
open Go.RowKit Go.Sort Go.Proofs

/-- An item put in. -/
theorem put_in {l os : List (Int × Int)} {x : Int × Int} {k : Nat} (h1 : StEq l os) (h2 : os.Pairwise (fun a b => a.1 ≤ b.1)) (hlo : ∀ t (ht : t < os.length), t < k → os[t].1 ≤ x.1) (hhi : ∀ (ht : k < os.length), x.1 < os[k].1) (hk : k ≤ os.length) :
    StEq (l ++ [x]) (os.take k ++ [x] ++ os.drop k) ∧ (os.take k ++ [x] ++ os.drop k).Pairwise (fun a b => a.1 ≤ b.1) := by
  have hA : ∀ y ∈ os.take k, y.1 ≤ x.1 := fun y hy => by
    obtain ⟨t, ht, rfl⟩ := List.getElem_of_mem hy
    rw [List.length_take] at ht
    rw [List.getElem_take]
    exact hlo t (by omega) (by omega)
  have hB : ∀ y ∈ os.drop k, x.1 < y.1 := fun y hy => by
    obtain ⟨t, ht, rfl⟩ := List.getElem_of_mem hy
    rw [List.length_drop] at ht
    rw [List.getElem_drop]
    have a := hhi (by omega)
    rcases Nat.eq_zero_or_pos t with c | c
    · subst c; exact a
    · have := (List.pairwise_iff_getElem.1 h2) k (k + t) (by omega) (by omega) (by omega)
      omega
  have hAB : ∀ y ∈ os.take k, ∀ z ∈ os.drop k, y.1 ≤ z.1 := fun y hy z hz => by have := hA y hy; have := hB z hz; omega
  have e : os = os.take k ++ os.drop k := (List.take_append_drop k os).symm
  have p1 : (os.take k).Pairwise (fun a b => a.1 ≤ b.1) := h2.sublist (List.take_sublist k os)
  have p2 : (os.drop k).Pairwise (fun a b => a.1 ≤ b.1) := h2.sublist (List.drop_sublist k os)
  refine ⟨fun q => ?_, ?_⟩
  · rw [List.filter_append, h1 q]
    conv => lhs; rw [e]
    simp only [List.filter_append]
    by_cases hq : x.1 = q
    · have : (os.drop k).filter (fun y => y.1 == q) = [] := by
        rw [List.filter_eq_nil_iff]
        intro y hy
        have := hB y hy
        simp only [beq_iff_eq]
        omega
      rw [this]; simp
    · have : [x].filter (fun y => y.1 == q) = [] := by simp [hq]
      rw [this]; simp
  · rw [List.pairwise_append, List.pairwise_append]
    refine ⟨⟨p1, List.pairwise_singleton _ _, fun a ha b hb => ?_⟩, p2, fun a ha b hb => ?_⟩
    · rw [List.mem_singleton] at hb; rw [hb]; exact hA a ha
    · rcases List.mem_append.1 ha with c | c
      · exact hAB a c b hb
      · rw [List.mem_singleton] at c; rw [c]; have := hB b hb; omega

end Go.Proofs.YtlaeaeciomkababDoor
