/-
  The document's Inversions.
-/
import Derived.Test.YtakkjgcehmpijaaDoorRefSortW
import Derived.Test.YtakkjgcehmpijaaDoorInvW
namespace Go.Proofs.YtakkjgcehmpijaaDoor
open Go.RowKit Go.Sort Go.Proofs

theorem refInv_none (p : Option Addr) (cap : Nat) (w : World) : Calls Tryd.prog 8 #[.slice p 0 cap] w fun e w' => e = .returned (.int .i64 0) ∧ Below w.heap.size w w' := by
  go_enter Tryd.func8, Tryd.ntmps8
  go_wp2
  go_loop [3, 4] (fun n i => n = .int .i64 0 ∧ i = .int .i64 0) (fun _ _ => 0)
  case atStart => exact ⟨rfl, rfl⟩
  case round =>
    obtain ⟨rfl, rfl⟩ := hrel
    go_wp2
    go_ret
    exact ⟨rfl, Below.refl _ _⟩

set_option maxHeartbeats 4000000 in
set_option maxRecDepth 4000 in
theorem refInv_some (blk off cap n : Nat) (xs : Array (Int × Int)) (w : World) (hx : RdAt w blk off xs) (hn : Hid (xs.size = n)) (hsz : n ≤ 60) :
    Calls Tryd.prog 8 #[.slice (some ⟨blk, off, none⟩) n cap] w fun e w' => e = .returned (.int .i64 (invTo xs n)) ∧ Below w.heap.size w w' := by
  have HX : Hid (RdAt w blk off xs) := hx
  clear hx
  go_enter Tryd.func8, Tryd.ntmps8
  go_wp2
  go_loopg [3, 4] n (fun g vm vi wr => ∃ i : Nat, vi = .int .i64 i ∧ vm = .int .i64 (invTo xs i) ∧ i + g = n ∧ Drawn w wr)
  case atStart => exact ⟨0, rfl, rfl, by omega, Drawn.refl _⟩
  case round =>
    obtain ⟨i, rfl, rfl, hg, HD⟩ := hrel
    have hil := invTo_le xs i (by omega)
    by_cases hlt : i < n
    · have hlz : (i : Int) < (n : Int) := by omega
      obtain ⟨M, hM⟩ : ∃ M, invTo xs i = M := ⟨_, rfl⟩
      rw [hM] at hil
      rw [hM]
      have HM : Hid (invTo xs i = M) := hM
      clear hM
      obtain ⟨x0, x1, hx⟩ : ∃ x y, xs[i]! = (x, y) := ⟨_, _, rfl⟩
      have HXX : Hid (xs[i]! = (x0, x1)) := hx
      clear hx
      go_wp2
      go_loopg [3, 5] i (fun g vm vj wr => ∃ j : Nat, vj = .int .i64 j ∧ vm = .int .i64 ((M : Int) + (rowInv xs i j : Int)) ∧ j + g = i ∧ Drawn w wr)
      case atStart => exact ⟨0, rfl, by simp [rowInv], by omega, HD⟩
      case round =>
        obtain ⟨j, rfl, rfl, hgj, HDJ⟩ := hrel
        have hjl := rowInv_le xs i j
        by_cases hjt : j < i
        · have hjz : (j : Int) < (i : Int) := by omega
          have hjn : (j : Int) < (n : Int) := by omega
          obtain ⟨y0, y1, hy⟩ : ∃ x y, xs[j]! = (x, y) := ⟨_, _, rfl⟩
          obtain ⟨cx0, cx1⟩ := HX.out.2 i (by rw [hn.out]; exact hlt)
          obtain ⟨cy0, cy1⟩ := HX.out.2 j (by rw [hn.out]; omega)
          rw [HXX.out] at cx0 cx1
          rw [hy] at cy0 cy1
          have cx0 := (HDJ.cell _).trans cx0
          have cy0 := (HDJ.cell _).trans cy0
          have hrow : rowInv xs i (j + 1) = rowInv xs i j + if x0 < y0 then 1 else 0 := by rw [rowInv, HXX.out, hy]
          clear hy cx1 cy1
          obtain ⟨R, hR⟩ : ∃ R, rowInv xs i j = R := ⟨_, rfl⟩
          rw [hR] at hjl hrow
          rw [hR]
          clear hR
          by_cases hxy : x0 < y0
          · have e1 : rowInv xs i (j + 1) = R + 1 := by rw [hrow, if_pos hxy]
            have E1 : Hid (rowInv xs i (j + 1) = R + 1) := e1
            have hd : decide (x0 < y0) = true := decide_eq_true hxy
            clear e1 hrow
            go_wp2_with fail
            go_quiet (fail)
            go_wp2
            go_roundg (i - (j + 1))
            case measure => omega
            case rel => exact ⟨j + 1, by go_num, by rw [E1.out]; go_num, by omega, HDJ.drewN nq⟩
          · have e1 : rowInv xs i (j + 1) = R := by rw [hrow, if_neg hxy]; rfl
            have E1 : Hid (rowInv xs i (j + 1) = R) := e1
            have hd : decide (x0 < y0) = false := decide_eq_false hxy
            clear e1 hrow
            go_wp2_with fail
            go_quiet (fail)
            go_wp2
            go_roundg (i - (j + 1))
            case measure => omega
            case rel => exact ⟨j + 1, by go_num, by rw [E1.out], by omega, HDJ.drewN nq⟩
        · have hjz : ¬ (j : Int) < (i : Int) := by omega
          obtain rfl : j = i := by omega
          go_wp2
          go_roundg (n - (j + 1))
          case measure => omega
          case rel => exact ⟨j + 1, by go_num, by rw [invTo, HM.out]; go_num, by omega, HDJ⟩
    · have hlz : ¬ (i : Int) < (n : Int) := by omega
      obtain rfl : i = n := by omega
      go_wp2
      go_ret
      exact ⟨rfl, HD.below (Below.refl _ _)⟩
theorem refInv_any (v : Value) (xs : Array (Int × Int)) (w : World) (h : Sl w v xs) (h60 : xs.size ≤ 60) :
    Calls Tryd.prog 8 #[v] w fun e w' => e = .returned (.int .i64 (invTo xs xs.size)) ∧ Below w.heap.size w w' := by
  obtain ⟨p, cap, rfl, _, hp | ⟨blk, off, rfl, hr⟩⟩ := h
  · rw [hp]; exact refInv_none p cap w
  · exact refInv_some blk off cap xs.size xs w hr rfl h60
#print axioms refInv_any
end Go.Proofs.YtakkjgcehmpijaaDoor
