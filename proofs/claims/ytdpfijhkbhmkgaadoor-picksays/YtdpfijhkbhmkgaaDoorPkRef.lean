/-
  The document's Part: what is below a key, what is it, or what is above it.
-/
import Derived.Test.YtdpfijhkbhmkgaaDoorHide
import Derived.Test.YtdpfijhkbhmkgaaDoorPkM
import Derived.Test.YtdpfijhkbhmkgaaDoorOwnA
namespace Go.Proofs.YtdpfijhkbhmkgaaDoor
open Go.RowKit Go.Sort Go.Proofs

/-- On which side of a key an item is. -/
def sideB (key s : Int) (x : Int × Int) : Bool := (if x.1 < key then -1 else if key < x.1 then 1 else 0) == s
theorem side_lt {key s x0 x1 : Int} (h : x0 < key) : sideB key s (x0, x1) = ((-1 : Int) == s) := by unfold sideB; rw [if_pos h]
theorem side_eq {key s x0 x1 : Int} (h : x0 = key) : sideB key s (x0, x1) = ((0 : Int) == s) := by unfold sideB; rw [if_neg (by simp only; omega), if_neg (by simp only; omega)]
theorem side_gt {key s x0 x1 : Int} (h : key < x0) : sideB key s (x0, x1) = ((1 : Int) == s) := by unfold sideB; rw [if_neg (by simp only; omega), if_pos h]
theorem side_blw (key : Int) : sideB key (-1) = blwB key := by
  funext ⟨x0, x1⟩
  rcases Int.lt_trichotomy x0 key with h | h | h
  · rw [side_lt h, (tri_lt h).1]; rfl
  · rw [side_eq h, (tri_eq h).1]; rfl
  · rw [side_gt h, (tri_gt h).1]; rfl
theorem side_sme (key : Int) : sideB key 0 = smeB key := by
  funext ⟨x0, x1⟩
  rcases Int.lt_trichotomy x0 key with h | h | h
  · rw [side_lt h, (tri_lt h).2.1]; rfl
  · rw [side_eq h, (tri_eq h).2.1]; rfl
  · rw [side_gt h, (tri_gt h).2.1]; rfl
theorem side_abv (key : Int) : sideB key 1 = abvB key := by
  funext ⟨x0, x1⟩
  rcases Int.lt_trichotomy x0 key with h | h | h
  · rw [side_lt h, (tri_lt h).2.2]; rfl
  · rw [side_eq h, (tri_eq h).2.2]; rfl
  · rw [side_gt h, (tri_gt h).2.2]; rfl

set_option maxHeartbeats 8000000 in
theorem part_some (blk off N cap : Nat) (key s : Int) (xs : Array (Int × Int)) (w : World) (h : RdAt w blk off xs) (hN : xs.size = N) (h60 : N ≤ 60) :
    Calls Tryd.prog 17 #[.slice (some ⟨blk, off, none⟩) N cap, .int .i64 key, .int .i64 s] w fun e w' => ∃ v, e = .returned v ∧ OwnI w' w.heap.size v (xs.toList.filter (sideB key s)) ∧ Below w.heap.size w w' := by
  have HX := hidp h
  have HN := hidp hN
  clear h hN
  go_enter Tryd.func17, Tryd.ntmps17
  go_wp2
  go_loopg [7, 8] N (fun gg va vi wr => ∃ i : Nat, vi = .int .i64 i ∧ i + gg = N ∧ OwnI wr w.heap.size va (pk (sideB key s) xs i) ∧ Below w.heap.size w wr)
  case atStart => exact ⟨0, rfl, by omega, by rw [pk_zero]; exact OwnI.nil _ _, Below.refl _ _⟩
  case round =>
    obtain ⟨i, rfl, hg, HA, hbr⟩ := hrel
    have hB4 : w.heap.size ≤ wr.heap.size := hbr.size
    by_cases hlt : i < N
    · have hlz : (i : Int) < (N : Int) := by omega
      obtain ⟨x0, x1, hx⟩ : ∃ x y, xs[i]! = (x, y) := ⟨_, _, rfl⟩
      obtain ⟨cx0, cx1⟩ := (RdAt.below HX.out hbr HX.out.1).2 i (by rw [HN.out]; exact hlt)
      rw [hx] at cx0 cx1
      have HXX := hidp hx
      clear hx
      rcases Int.lt_trichotomy x0 key with hk | hk | hk
      · have hs := side_lt (s := s) (x1 := x1) hk
        have hk2 : ¬ key < x0 := by omega
        cases hr : ((-1 : Int) == s)
        · rw [hr] at hs
          have EA := hidp (pk_out (by rw [HN.out]; exact hlt) HXX.out hs)
          clear hs
          go_wp2
          go_roundg (N - (i + 1))
          case measure => omega
          case rel => exact ⟨i + 1, by go_num, by omega, by rw [EA.out]; exact HA, hbr⟩
        · rw [hr] at hs
          have EA := hidp (pk_in (by rw [HN.out]; exact hlt) HXX.out hs)
          clear hs
          go_wp2_with (at_builtin; refine wpList_append_item rfl (.tmp 33) (.tmp 38) rfl w.heap.size u7 (pk (sideB key s) xs i) (x0, x1) ⟨wr.heap.size, 0, none⟩ 1 rfl (HA.alloc _) rfl (by simp) (by simp [Addr.add]) (by have := pk_len (sideB key s) xs i; omega) (by simp; omega) ?_; intro vn wa hN' hgA hkA; have hbA : Below w.heap.size w wa := (hbr.alloc hB4 _).trans (below_of_grown (HA.alloc _) hgA (Nat.le_refl _) (by simp; omega)); clear hgA hkA)
          go_roundg (N - (i + 1))
          case measure => omega
          case rel => exact ⟨i + 1, by go_num, by omega, by rw [EA.out]; exact hN', hbA⟩
      · have hs := side_eq (s := s) (x1 := x1) hk
        have hk1 : ¬ x0 < key := by omega
        have hk2 : ¬ key < x0 := by omega
        cases hr : ((0 : Int) == s)
        · rw [hr] at hs
          have EA := hidp (pk_out (by rw [HN.out]; exact hlt) HXX.out hs)
          clear hs hk
          go_wp2
          go_roundg (N - (i + 1))
          case measure => omega
          case rel => exact ⟨i + 1, by go_num, by omega, by rw [EA.out]; exact HA, hbr⟩
        · rw [hr] at hs
          have EA := hidp (pk_in (by rw [HN.out]; exact hlt) HXX.out hs)
          clear hs hk
          go_wp2_with (at_builtin; refine wpList_append_item rfl (.tmp 33) (.tmp 38) rfl w.heap.size u7 (pk (sideB key s) xs i) (x0, x1) ⟨wr.heap.size, 0, none⟩ 1 rfl (HA.alloc _) rfl (by simp) (by simp [Addr.add]) (by have := pk_len (sideB key s) xs i; omega) (by simp; omega) ?_; intro vn wa hN' hgA hkA; have hbA : Below w.heap.size w wa := (hbr.alloc hB4 _).trans (below_of_grown (HA.alloc _) hgA (Nat.le_refl _) (by simp; omega)); clear hgA hkA)
          go_roundg (N - (i + 1))
          case measure => omega
          case rel => exact ⟨i + 1, by go_num, by omega, by rw [EA.out]; exact hN', hbA⟩
      · have hs := side_gt (s := s) (x1 := x1) hk
        have hk1 : ¬ x0 < key := by omega
        cases hr : ((1 : Int) == s)
        · rw [hr] at hs
          have EA := hidp (pk_out (by rw [HN.out]; exact hlt) HXX.out hs)
          clear hs
          go_wp2
          go_roundg (N - (i + 1))
          case measure => omega
          case rel => exact ⟨i + 1, by go_num, by omega, by rw [EA.out]; exact HA, hbr⟩
        · rw [hr] at hs
          have EA := hidp (pk_in (by rw [HN.out]; exact hlt) HXX.out hs)
          clear hs
          go_wp2_with (at_builtin; refine wpList_append_item rfl (.tmp 33) (.tmp 38) rfl w.heap.size u7 (pk (sideB key s) xs i) (x0, x1) ⟨wr.heap.size, 0, none⟩ 1 rfl (HA.alloc _) rfl (by simp) (by simp [Addr.add]) (by have := pk_len (sideB key s) xs i; omega) (by simp; omega) ?_; intro vn wa hN' hgA hkA; have hbA : Below w.heap.size w wa := (hbr.alloc hB4 _).trans (below_of_grown (HA.alloc _) hgA (Nat.le_refl _) (by simp; omega)); clear hgA hkA)
          go_roundg (N - (i + 1))
          case measure => omega
          case rel => exact ⟨i + 1, by go_num, by omega, by rw [EA.out]; exact hN', hbA⟩
    · have hlz : ¬ (i : Int) < (N : Int) := by omega
      obtain rfl : i = N := by omega
      rw [pk_all _ _ _ HN.out] at HA
      go_wp2
      go_ret
      exact ⟨_, rfl, HA, hbr⟩
set_option maxHeartbeats 2000000 in
theorem part_none (p : Option Addr) (cap : Nat) (key s : Int) (w : World) :
    Calls Tryd.prog 17 #[.slice p 0 cap, .int .i64 key, .int .i64 s] w fun e w' => e = .returned (.slice none 0 0) ∧ Below w.heap.size w w' := by
  go_enter Tryd.func17, Tryd.ntmps17
  go_wp2
  go_loopg [7, 8] 0 (fun gg va vi wr => vi = .int .i64 0 ∧ va = .slice none 0 0 ∧ Below w.heap.size w wr)
  case atStart => exact ⟨rfl, rfl, Below.refl _ _⟩
  case round =>
    obtain ⟨rfl, rfl, hbr⟩ := hrel
    go_wp2
    go_ret
    exact ⟨rfl, hbr⟩
theorem part_any (v : Value) (key s : Int) (xs : Array (Int × Int)) (w : World) (h : Sl w v xs) (h60 : xs.size ≤ 60) :
    Calls Tryd.prog 17 #[v, .int .i64 key, .int .i64 s] w fun e w' => ∃ u, e = .returned u ∧ OwnI w' w.heap.size u (xs.toList.filter (sideB key s)) ∧ Below w.heap.size w w' := by
  obtain ⟨p, cap, rfl, hcap, hp⟩ := id h
  rcases hp with hp | ⟨blk, off, rfl, hr⟩
  · have e0 : xs = #[] := Array.eq_empty_of_size_eq_zero hp
    subst e0
    refine (part_none p cap key s w).mono ?_
    rintro e w' ⟨rfl, hb⟩
    exact ⟨_, rfl, OwnI.nil _ _, hb⟩
  · exact part_some blk off xs.size cap key s xs w hr rfl h60
#print axioms part_any
end Go.Proofs.YtdpfijhkbhmkgaaDoor
