/-
  A closed fact that the statements on heaps ask first: two items make a heap.
-/
import Derived.Test.YtcjfbenbdjlodaaDoorHeapM
namespace Go.Proofs.YtcjfbenbdjlodaaDoor
open Go.RowKit Go.Sort Go.Proofs

theorem rd_two (w : World) (x0 x1 y0 y1 : Int) : RdAt (w.alloc (.cells #[.int .i64 x0, .int .i64 x1, .int .i64 y0, .int .i64 y1] 24)) w.heap.size 0 #[(x0, x1), (y0, y1)] := by
  refine ⟨by simp, fun i hi => ?_⟩
  match i, hi with
  | 0, _ => exact ⟨by simp, by simp⟩
  | 1, _ => exact ⟨by simp, by simp⟩
  | i + 2, hi => exact absurd hi (by simp)
theorem hmake_two : hmake #[(5, 1), (3, 2)] = #[(3, 2), (5, 1)] := by
  have e1 : sinkA #[(5, 1), (3, 2)] 1 = #[(5, 1), (3, 2)] := sinkA_leaf (by decide)
  have k : kid #[(5, 1), (3, 2)] 0 = 1 := by decide
  have e2 : swp #[((5 : Int), (1 : Int)), (3, 2)] 0 1 = #[(3, 2), (5, 1)] := by decide
  have e3 : sinkA #[(3, 2), (5, 1)] 1 = #[(3, 2), (5, 1)] := sinkA_leaf (by decide)
  have e4 : sinkA #[(5, 1), (3, 2)] 0 = #[(3, 2), (5, 1)] := by rw [sinkA_go (by rw [k]; decide), k, e2, e3]
  show mkTo 2 #[(5, 1), (3, 2)] = _
  rw [mkTo_succ, e1, mkTo_succ, e4]; rfl
theorem twoOf (a b : Int) (w : World) : Calls Tryd.prog 27 #[.int .i64 a, .int .i64 b] w fun e w' =>
    e = .returned (.slice (some ⟨w.heap.size, 0, none⟩) 2 2) ∧ w' = w.alloc (.cells #[.int .i64 a, .int .i64 1, .int .i64 b, .int .i64 2] 24) := by
  go_enter Tryd.func27, Tryd.ntmps27
  go_wp2
  go_ret
  exact ⟨rfl, rfl⟩
set_option maxHeartbeats 2000000 in
theorem heapFact_any (w : World) : Calls Tryd.prog 16 #[] w fun e w' => e = .returned (.bool true) ∧ Below w.heap.size w w' := by
  have hc := heapMake_good _ #[(5, 1), (3, 2)] _ (Sl.of_rd (cap := 2) (rd_two w 5 1 3 2) (by decide)) (by decide)
  rw [hmake_two] at hc
  change Calls Tryd.prog 7 #[.slice (some ⟨w.heap.size, 0, none⟩) 2 2] _ (fun e w' => ∃ g, e = .returned (.tuple #[.slice (some ⟨g, 0, none⟩) 2 2, .nilIface]) ∧ _) at hc
  go_enter Tryd.func16, Tryd.ntmps16
  go_wp2_with (first | (go_at_call 27; refine (twoOf 5 3 _).mono ?_; rintro e w1 ⟨rfl, rfl⟩))
  refine hc.mono ?_
  rintro e w2 ⟨g, rfl, hrd, hb⟩
  obtain ⟨c0, c1⟩ := hrd.2 0 (by decide)
  simp at c0 c1
  clear hrd hc
  go_wp2
  go_ret
  exact ⟨rfl, ((Below.refl _ _).alloc (Nat.le_refl _) _).trans (hb.mono (by simp))⟩

/-- What is made is right. -/
theorem perm_wrong {xs ys : Array (Int × Int)} (h : ys.toList.Perm xs.toList) : wrong ys = wrong xs := by
  have hs : ys.size = xs.size := by simpa using h.length_eq
  have ha : anyOut ys = anyOut xs := by
    unfold anyOut
    rw [Bool.eq_iff_iff, List.any_eq_true, List.any_eq_true]
    exact ⟨fun ⟨x, m, e⟩ => ⟨x, h.mem_iff.1 m, e⟩, fun ⟨x, m, e⟩ => ⟨x, h.mem_iff.2 m, e⟩⟩
  unfold wrong; rw [hs, ha]
theorem wrongH_make {xs : Array (Int × Int)} (h : wrong xs = 0) : wrongH (hmake xs) = 0 := wrongH_of (by rw [perm_wrong (hmake_perm xs)]; exact h) (hmake_heap xs)
end Go.Proofs.YtcjfbenbdjlodaaDoor
