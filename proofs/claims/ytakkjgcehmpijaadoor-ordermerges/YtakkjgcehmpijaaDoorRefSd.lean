/-
  The document's answer whether items are sorted.
-/
import Derived.Test.YtakkjgcehmpijaaDoorRef1
import Derived.Test.YtakkjgcehmpijaaDoorSortedW
namespace Go.Proofs.YtakkjgcehmpijaaDoor
open Go.RowKit Go.Sort Go.Proofs

theorem refSorted_none (p : Option Addr) (cap : Nat) (w : World) :
    Calls Tryd.prog 32 #[.slice p 0 cap] w fun e w' => e = .returned (.bool true) ∧ ∃ q, w' = w.drewN q := by
  go_enter Tryd.func32, Tryd.ntmps32
  go_wp2
  go_loop [3] (fun i => i = .int .i64 0) (fun _ => 0)
  case atStart => rfl
  case round =>
    subst hrel
    go_wp2
    go_ret
    exact ⟨rfl, 0, rfl⟩
set_option maxHeartbeats 2000000 in
theorem refSorted_some (blk off cap n : Nat) (xs : Array (Int × Int)) (w : World) (hx : RdAt w blk off xs) (hn : Hid (xs.size = n)) (hsz : n ≤ 60) :
    Calls Tryd.prog 32 #[.slice (some ⟨blk, off, none⟩) n cap] w fun e w' => e = .returned (.bool (srtB xs)) ∧ ∃ q, w' = w.drewN q := by
  have HX : Aside _ := hx
  clear hx
  go_enter Tryd.func32, Tryd.ntmps32
  go_wp2
  go_loopg [3] n (fun g vi wr => ∃ i q : Nat, vi = .int .i64 i ∧ i + g = n ∧ wr = w.drewN q ∧ Aside (∀ j, j < i → j + 1 < n → xs[j]!.1 ≤ xs[j + 1]!.1))
  case atStart => exact ⟨0, 0, rfl, by omega, rfl, (show Aside _ from fun j h1 h2 => by omega)⟩
  case round =>
    obtain ⟨i, q, rfl, hg, rfl, HO⟩ := hrel
    by_cases hlt : i + 1 < n
    · have hlz : (i : Int) + 1 < (n : Int) := by omega
      have hlz0 : (i : Int) < (n : Int) := by omega
      have p0 : (0 : Int) ≤ (i : Int) + 1 := by omega
      have e0 : ((i : Int) + 1).toNat = i + 1 := by omega
      obtain ⟨x0, x1, hx⟩ : ∃ x y, xs[i]! = (x, y) := ⟨_, _, rfl⟩
      obtain ⟨y0, y1, hy⟩ : ∃ x y, xs[i + 1]! = (x, y) := ⟨_, _, rfl⟩
      obtain ⟨cx0, cx1⟩ := HX.out.2 i (by rw [hn.out]; omega)
      obtain ⟨cy0, cy1⟩ := HX.out.2 (i + 1) (by rw [hn.out]; exact hlt)
      rw [hx] at cx0 cx1
      rw [hy] at cy0 cy1
      have HXX : Hid (xs[i]! = (x0, x1)) := hx
      have HYY : Hid (xs[i + 1]! = (y0, y1)) := hy
      clear hx hy
      by_cases hyx : y0 < x0
      · have hd : decide (y0 < x0) = true := decide_eq_true hyx
        have EF : Hid (srtB xs = false) := srtB_false (i := i) (by rw [hn.out]; exact hlt) (by rw [HXX.out, HYY.out]; exact hyx)
        go_wp2_with fail
        go_quiet (fail)
        go_wp2
        go_ret
        exact ⟨ret_b EF.out, q + nq, by first | rfl | rw [World.drewN_drewN]⟩
      · have hd : decide (y0 < x0) = false := decide_eq_false hyx
        have HLE : Hid (x0 ≤ y0) := by show _ ≤ _; omega
        go_wp2_with fail
        go_quiet (fail)
        go_wp2
        go_roundg (n - (i + 1))
        case measure => omega
        case rel =>
          refine ⟨i + 1, q + nq, by go_num, by omega, by first | rfl | rw [World.drewN_drewN], (show Aside _ from fun j h1 h2 => ?_)⟩
          rcases Nat.lt_or_ge j i with c | c
          · exact HO.out j c h2
          · obtain rfl : j = i := by omega
            rw [HXX.out, HYY.out]; exact HLE.out
    · have hlz : ¬ (i : Int) + 1 < (n : Int) := by omega
      have EF : Hid (srtB xs = true) := srtB_true fun j hj => HO.out j (by rw [hn.out] at hj; omega) (by rw [hn.out] at hj; exact hj)
      go_wp2
      go_ret
      exact ⟨ret_b EF.out, q, rfl⟩
theorem refSorted_any (v : Value) (xs : Array (Int × Int)) (w : World) (h : Sl w v xs) (h60 : xs.size ≤ 60) :
    Calls Tryd.prog 32 #[v] w fun e w' => e = .returned (.bool (srtB xs)) ∧ ∃ q, w' = w.drewN q := by
  obtain ⟨p, cap, rfl, _, hp | ⟨blk, off, rfl, hr⟩⟩ := h
  · rw [hp, srtB_true fun i hi => by omega]; exact refSorted_none p cap w
  · exact refSorted_some blk off cap xs.size xs w hr rfl h60
end Go.Proofs.YtakkjgcehmpijaaDoor
