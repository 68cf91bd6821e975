/-
  What is popped one by one.
-/
import Derived.Test.YtcjfbenbdjlodabHeapO
import Derived.Test.YtcjfbenbdjlodabKeysS
namespace Go.Proofs.Ytcjfbenbdjlodab
open Go.RowKit Go.Sort Go.Proofs

/-- Of xs the items os were popped, one by one, and the heap D is left. -/
structure Pops (xs : Array (Int × Int)) (os : List (Int × Int)) (D : Array (Int × Int)) : Prop where
  perm : (os ++ D.toList).Perm xs.toList
  heap : HeapFrom 0 D
  srt : os.Pairwise (fun x y => x.1 ≤ y.1)
  le : ∀ o ∈ os, ∀ d ∈ D.toList, o.1 ≤ d.1
theorem Pops.start {xs : Array (Int × Int)} : Pops xs [] (hmake xs) := ⟨by simpa using hmake_perm xs, hmake_heap xs, List.Pairwise.nil, fun _ h => by cases h⟩
theorem root_mem {D : Array (Int × Int)} (h : HeapFrom 0 D) : ∀ d ∈ D.toList, D[0]!.1 ≤ d.1 := by
  intro d hd
  obtain ⟨t, ht, rfl⟩ := List.getElem_of_mem hd
  have ht' : t < D.size := by simpa using ht
  have := h.root t ht'
  rw [getElem!_pos D t ht'] at this
  simpa using this
theorem Pops.pop {xs D : Array (Int × Int)} {os : List (Int × Int)} (h : Pops xs os D) (h0 : 0 < D.size) : Pops xs (os ++ [D[0]!]) (hpop D) := by
  have hp := hpop_perm h0
  have hm : D[0]! ∈ D.toList := by rw [getElem!_pos D 0 h0]; simp
  have sub : ∀ d, d ∈ (hpop D).toList → d ∈ D.toList := fun d hd => hp.mem_iff.1 (List.mem_cons_of_mem _ hd)
  refine ⟨?_, hpop_heap h.heap, ?_, ?_⟩
  · rw [List.append_assoc]
    exact (List.Perm.append_left os hp).trans h.perm
  · rw [List.pairwise_append]
    exact ⟨h.srt, List.pairwise_singleton _ _, fun a ha b hb => by rw [List.mem_singleton.1 hb]; exact h.le a ha _ hm⟩
  · intro o ho d hd
    rcases List.mem_append.1 ho with q | q
    · exact h.le o q d (sub d hd)
    · rw [List.mem_singleton.1 q]; exact root_mem h.heap d (sub d hd)
theorem Pops.wrongO {xs D : Array (Int × Int)} {os : List (Int × Int)} (h : Pops xs os D) (h0 : 0 < D.size) (hx : wrong xs = 0) : wrongO D = 0 := by
  have hl := h.perm.length_eq
  have hs : D.size ≤ xs.size := by simp at hl; omega
  have hw : wrong D = 0 := by
    have h60 := wrong_le hx
    have ha : anyOut xs = false := by
      unfold Ytcjfbenbdjlodab.wrong at hx
      rw [if_neg (by omega)] at hx
      cases e : anyOut xs
      · rfl
      · rw [e] at hx; simp at hx
    have hd : anyOut D = false := by
      unfold anyOut at ha ⊢
      rw [List.any_eq_false] at ha ⊢
      exact fun x hm => ha x (h.perm.mem_iff.1 (List.mem_append_right _ hm))
    unfold Ytcjfbenbdjlodab.wrong; rw [if_neg (by omega), hd]; rfl
  unfold Ytcjfbenbdjlodab.wrongO; rw [if_pos (wrongH_of hw h.heap), if_neg (by omega)]
end Go.Proofs.Ytcjfbenbdjlodab
