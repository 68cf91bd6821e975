/-
  Plain facts: there is just one such order; what a sort keeps.
-/
import Derived.Test.YtlaeaeciomkababDoorSrts
namespace Go.Proofs.YtlaeaeciomkababDoor
open Go.RowKit Go.Sort Go.Proofs

theorem stEq_unique : ∀ (l l' : List (Int × Int)), l.Pairwise (fun x y => x.1 ≤ y.1) → l'.Pairwise (fun x y => x.1 ≤ y.1) → StEq l l' → l = l'
  | [], [], _, _, _ => rfl
  | [], y :: s, _, _, h => by have := h y.1; simp at this
  | x :: r, [], _, _, h => by have := h x.1; simp at this
  | x :: r, y :: s, h1, h2, h => by
    have k1 : x.1 = y.1 := by
      have a1 : ∃ z ∈ (y :: s), z.1 = x.1 := by
        have := h x.1
        have hm : x ∈ (x :: r).filter (fun z => z.1 == x.1) := by simp
        rw [this, List.mem_filter] at hm
        exact ⟨x, hm.1, rfl⟩
      have a2 : ∃ z ∈ (x :: r), z.1 = y.1 := by
        have := h y.1
        have hm : y ∈ (y :: s).filter (fun z => z.1 == y.1) := by simp
        rw [← this, List.mem_filter] at hm
        exact ⟨y, hm.1, rfl⟩
      obtain ⟨z1, m1, e1⟩ := a1
      obtain ⟨z2, m2, e2⟩ := a2
      have b1 : y.1 ≤ z1.1 := by
        rcases List.mem_cons.1 m1 with rfl | m
        · exact Int.le_refl _
        · exact (List.pairwise_cons.1 h2).1 z1 m
      have b2 : x.1 ≤ z2.1 := by
        rcases List.mem_cons.1 m2 with rfl | m
        · exact Int.le_refl _
        · exact (List.pairwise_cons.1 h1).1 z2 m
      omega
    have k2 : x = y := by
      have := h x.1
      rw [List.filter_cons_of_pos (by simp), List.filter_cons_of_pos (by simp [k1])] at this
      exact (List.cons.inj this).1
    subst k2
    rw [stEq_unique r s (List.pairwise_cons.1 h1).2 (List.pairwise_cons.1 h2).2 fun k => by
      have := h k
      rw [List.filter_cons, List.filter_cons] at this
      split at this
      · exact (List.cons.inj this).2
      · exact this]

theorem srt_pairwise {xs : Array (Int × Int)} (h : Srt 0 xs.size xs) : xs.toList.Pairwise (fun x y => x.1 ≤ y.1) := by
  rw [List.pairwise_iff_getElem]
  intro i j hi hj hij
  rw [getD_toList, getD_toList]
  exact h i j (Nat.zero_le _) (by omega) (by simpa using hj)
theorem sorted_unique {ys zs : Array (Int × Int)} (h1 : Srt 0 ys.size ys) (h2 : Srt 0 zs.size zs) (h : StEq ys.toList zs.toList) : ys = zs := by
  have := stEq_unique _ _ (srt_pairwise h1) (srt_pairwise h2) h
  exact Array.toList_inj.1 this
theorem StEq.symm {l l' : List (Int × Int)} (h : StEq l l') : StEq l' l := fun k => (h k).symm
theorem StEq.trans {l l' l'' : List (Int × Int)} (h : StEq l l') (g : StEq l' l'') : StEq l l'' := fun k => (h k).trans (g k)
theorem Sorts.unique {xs ys zs : Array (Int × Int)} (h1 : Sorts xs ys) (h2 : Sorts xs zs) : ys = zs := sorted_unique h1.srt h2.srt (h1.st.symm.trans h2.st)
theorem StEq.count {l l' : List (Int × Int)} (h : StEq l l') (z : Int × Int) : l.count z = l'.count z := by
  have e : ∀ m : List (Int × Int), m.count z = (m.filter (fun x => x.1 == z.1)).count z := fun m => by rw [List.count_filter (by simp)]
  rw [e l, e l', h z.1]
theorem StEq.perm {l l' : List (Int × Int)} (h : StEq l l') : l.Perm l' := List.perm_iff_count.2 h.count
theorem any_perm {l l' : List (Int × Int)} (h : l.Perm l') (f : Int × Int → Bool) : l.any f = l'.any f := by
  rw [Bool.eq_iff_iff, List.any_eq_true, List.any_eq_true]
  exact ⟨fun ⟨x, m, e⟩ => ⟨x, h.mem_iff.1 m, e⟩, fun ⟨x, m, e⟩ => ⟨x, h.mem_iff.2 m, e⟩⟩
theorem Sorts.wrong {xs ys : Array (Int × Int)} (h : Sorts xs ys) : wrong ys = wrong xs := by
  have : anyOut ys = anyOut xs := any_perm h.st.perm.symm outB
  simp only [YtlaeaeciomkababDoor.wrong, h.size, this]
end Go.Proofs.YtlaeaeciomkababDoor
