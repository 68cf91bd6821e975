/-
  The statements' own With: a list and one item more.
-/
import Derived.Test.YtcjfbenbdjlodaaDoorOwnA
import Derived.Test.YtcjfbenbdjlodaaDoorBag
namespace Go.Proofs.YtcjfbenbdjlodaaDoor
open Go.RowKit Go.Sort Go.Proofs

theorem own_with {w : World} {base : Nat} {v : Value} {xs : Array (Int × Int)} {x : Int × Int} (h : OwnI w base v ([] ++ xs.toList ++ [x])) : Sl w v (xs.push x) := by
  have h2 := h.sl
  have e : ([] ++ xs.toList ++ [x]).toArray = xs.push x := by apply Array.ext' <;> simp
  rw [e] at h2
  exact h2
set_option maxHeartbeats 4000000 in
theorem with_any (p : Option Addr) (n cap : Nat) (x0 x1 : Int) (xs : Array (Int × Int)) (w : World) (HN : Hid (xs.size = n)) (hn : n ≤ 1000) (HS : Hid (Sl w (.slice p n cap) xs)) :
    Calls Tryd.prog 18 #[.slice p n cap, .agg #[.int .i64 x0, .int .i64 x1]] w fun e w' => ∃ u, e = .returned u ∧ Sl w' u (xs.push (x0, x1)) ∧ Below w.heap.size w w' := by
  have HS0 : Hid (Sl (w.alloc (.cells #[.int .i64 x0, .int .i64 x1] 24)) (.slice p n cap) xs) := HS.out.below ((Below.refl _ _).alloc (Nat.le_refl _) _)
  have hlen : xs.toList.length ≤ 1000 := by rw [Array.length_toList, HN.out]; exact hn
  go_enter Tryd.func18, Tryd.ntmps18
  go_wp2_with (first | (at_builtin; refine wpList_append_sl rfl (.tmp 6) (.tmp 7) rfl w.heap.size (.slice none 0 0) (.slice p n cap) [] xs rfl rfl (OwnI.nil _ _) HS0.out (by rw [HN.out]; simp; omega) (by simp) ?_; intro v1 w1 hA1 hg1; have k0 := (World.cell?_of_block (a := ⟨w.heap.size, 0, none⟩) (hg1.block w.heap.size (by simp) (by simp [Value.ownBlock]))).trans (show (w.alloc (.cells #[.int .i64 x0, .int .i64 x1] 24)).cell? ⟨w.heap.size, 0, none⟩ = some (.int .i64 x0) by simp); have k1 := (World.cell?_of_block (a := ⟨w.heap.size, 1, none⟩) (hg1.block w.heap.size (by simp) (by simp [Value.ownBlock]))).trans (show (w.alloc (.cells #[.int .i64 x0, .int .i64 x1] 24)).cell? ⟨w.heap.size, 1, none⟩ = some (.int .i64 x1) by simp); have hz1 : w.heap.size ≤ w1.heap.size := Nat.le_trans (by simp) hg1.size; have hbb1 : Below w.heap.size w w1 := ((Below.refl _ _).alloc (Nat.le_refl _) _).grown hg1 (by simp) (fun k e => by cases e); clear hg1) | (at_builtin; refine wpList_append_item rfl (.tmp 9) (.tmp 11) rfl w.heap.size v1 ([] ++ xs.toList) (x0, x1) ⟨w1.heap.size, 0, none⟩ 1 rfl (hA1.alloc _) rfl (by simp) (by simp [Addr.add]) (by simp; rw [HN.out]; omega) (by simp; omega) ?_; intro v2 w2 hA2 hg2 hk2; have hb2 : Below w.heap.size w w2 := (hbb1.alloc hz1 _).trans (below_of_grown (hA1.alloc _) hg2 (Nat.le_refl _) (by simp; omega)); have HS2 : Hid (Sl w2 v2 (xs.push (x0, x1))) := own_with hA2; clear hg2 hk2 hA2))
  go_ret
  exact ⟨_, rfl, HS2.out, hb2⟩
#print axioms with_any
end Go.Proofs.YtcjfbenbdjlodaaDoor
