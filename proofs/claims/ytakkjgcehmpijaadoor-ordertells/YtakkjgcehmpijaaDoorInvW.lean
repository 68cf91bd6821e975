/-
  order.Inversions: how many pairs stand the wrong way round.
-/
import Derived.Test.YtakkjgcehmpijaaDoorSortedW
namespace Go.Proofs.YtakkjgcehmpijaaDoor
open Go.RowKit Go.Sort Go.Proofs

/-- Of the first j items those whose key is greater than that of the one at i. -/
def rowInv (xs : Array (Int × Int)) (i : Nat) : Nat → Nat
  | 0 => 0
  | j + 1 => rowInv xs i j + if xs[i]!.1 < xs[j]!.1 then 1 else 0
def invTo (xs : Array (Int × Int)) : Nat → Nat
  | 0 => 0
  | i + 1 => invTo xs i + rowInv xs i i
theorem rowInv_le (xs : Array (Int × Int)) (i : Nat) : ∀ j, rowInv xs i j ≤ j
  | 0 => Nat.le_refl _
  | j + 1 => by have := rowInv_le xs i j; rw [rowInv]; split <;> omega
theorem invTo_le (xs : Array (Int × Int)) : ∀ i, i ≤ 60 → invTo xs i ≤ 60 * i
  | 0, _ => Nat.le_refl _
  | i + 1, h => by have := invTo_le xs i (by omega); have := rowInv_le xs i i; rw [invTo]; omega

set_option maxHeartbeats 4000000 in
theorem inversions_good (blk off cap n : Nat) (xs : Array (Int × Int)) (w : World) (hx : RdAt w blk off xs) (hn : Hid (xs.size = n)) (hsz : n ≤ 60) (hcap : n ≤ cap)
    (hcon : Calls Tryd.prog 29 #[.slice (some ⟨blk, off, none⟩) n cap] w fun e w' => e = .returned .nilIface ∧ Below w.heap.size w w') :
    Calls Tryd.prog 9 #[.slice (some ⟨blk, off, none⟩) n cap] w fun e w' => e = .returned (.tuple #[.int .i64 (invTo xs n), .nilIface]) ∧ Below w.heap.size w w' := by
  have HX : Aside _ := hx
  clear hx
  have hcz : (n : Int) ≤ (cap : Int) := by omega
  go_enter Tryd.func9, Tryd.ntmps9
  go_wp2_with (go_at_call 29; refine hcon.mono ?_; rintro e w1 ⟨rfl, hb⟩)
  go_loopg [5, 17] n (fun g vm vi wr => ∃ i : Nat, vi = .int .i64 i ∧ vm = .int .i64 (invTo xs i) ∧ i + g = n ∧ Below w.heap.size w wr)
  case atStart => exact ⟨0, rfl, rfl, by omega, hb⟩
  case round =>
    obtain ⟨i, rfl, rfl, hg, hbr⟩ := hrel
    have hil := invTo_le xs i (by omega)
    by_cases hlt : i < n
    · have hlz : (i : Int) < (n : Int) := by omega
      have hic : (i : Int) ≤ (cap : Int) := by omega
      obtain ⟨M, hM⟩ : ∃ M, invTo xs i = M := ⟨_, rfl⟩
      rw [hM] at hil
      rw [hM]
      have hrd := RdAt.below HX.out hbr HX.out.1
      obtain ⟨x, hx⟩ : ∃ x, xs[i]! = x := ⟨_, rfl⟩
      obtain ⟨cx0, cx1⟩ := hrd.2 i (by rw [hn.out]; exact hlt)
      rw [hx] at cx0 cx1
      have HXX : Hid _ := hx
      have HM : Hid _ := hM
      clear hx hM hrd
      have hlb : blk < wr.heap.size := Nat.lt_of_lt_of_le HX.out.1 hbr.size
      obtain ⟨wo, rfl⟩ : ∃ wo : World, wo = wr := ⟨_, rfl⟩
      go_wp2
      go_loopg [5, 26] i (fun g vm vj wr => ∃ j : Nat, vj = .int .i64 j ∧ vm = .int .i64 ((M : Int) + (rowInv xs i j : Int)) ∧ j + g = i ∧ Below w.heap.size w wr ∧ wo.heap.size < wr.heap.size ∧
        wr.cell? ⟨wo.heap.size, 0, none⟩ = some (.int .i64 x.1) ∧ wr.cell? ⟨wo.heap.size, 1, none⟩ = some (.int .i64 x.2))
      case atStart => exact ⟨0, rfl, by simp [rowInv], by omega, hbr.alloc hbr.size _, by simp, by simp, by simp⟩
      case round =>
        obtain ⟨j, rfl, rfl, hgj, hbj, hsj, cb0, cb1⟩ := hrel
        have hjl := rowInv_le xs i j
        by_cases hjt : j < i
        · have hjz : (j : Int) < (i : Int) := by omega
          have hrd := RdAt.below HX.out hbj HX.out.1
          obtain ⟨y, hy⟩ : ∃ y, xs[j]! = y := ⟨_, rfl⟩
          obtain ⟨cy0, cy1⟩ := hrd.2 j (by rw [hn.out]; omega)
          rw [hy] at cy0 cy1
          have hlbj : blk < wr.heap.size := hrd.1
          have hrow : rowInv xs i (j + 1) = rowInv xs i j + if x.1 < y.1 then 1 else 0 := by rw [rowInv, HXX.out, hy]
          clear hy hrd
          obtain ⟨R, hR⟩ : ∃ R, rowInv xs i j = R := ⟨_, rfl⟩
          rw [hR] at hjl hrow
          rw [hR]
          clear hR
          have HROW : Hid _ := hrow
          clear hrow
          have hcg := fun W => byKey_any x y W
          have hcn := cmpI_neg x.1 y.1
          generalize cmpI x.1 y.1 = r at hcg hcn
          have HCN : Hid _ := hcn
          have HCG : Aside _ := hcg
          clear hcn hcg
          by_cases hr : r < 0
          · have e1 : rowInv xs i (j + 1) = R + 1 := by rw [HROW.out, if_pos (HCN.out.1 hr)]
            have E1 : Hid _ := e1
            clear e1
            go_wp2_with fail
            refine (HCG.out _).mono ?_
            rintro e w2 ⟨rfl, q2, os2, hw2⟩
            obtain ⟨hb2, hs2, d0, d1⟩ : Below w.heap.size w w2 ∧ wo.heap.size < w2.heap.size ∧ w2.cell? ⟨wo.heap.size, 0, none⟩ = some (.int .i64 x.1) ∧ w2.cell? ⟨wo.heap.size, 1, none⟩ = some (.int .i64 x.2) := by
              have hal : wo.heap.size < (wr.alloc (Obj.cells #[.int .i64 y.1, .int .i64 y.2] 38)).heap.size := by simp; omega
              refine ⟨?_, ?_, ?_, ?_⟩
              · rw [hw2]; exact (hbj.alloc hbj.size _).trans ((below_grown _ _ q2 os2 (Nat.le_refl _)).mono (by have := hbj.size; simp; omega))
              · rw [hw2, size_grow]; exact Nat.lt_of_lt_of_le hal (Nat.le_add_right _ _)
              · rw [hw2]; refine cell_grown (a := ⟨wo.heap.size, 0, none⟩) hal ?_ q2 os2; exact (((Below.refl wr.heap.size wr).alloc (Nat.le_refl _) _).cell (p := ⟨wo.heap.size, 0, none⟩) hsj).trans cb0
              · rw [hw2]; refine cell_grown (a := ⟨wo.heap.size, 1, none⟩) hal ?_ q2 os2; exact (((Below.refl wr.heap.size wr).alloc (Nat.le_refl _) _).cell (p := ⟨wo.heap.size, 1, none⟩) hsj).trans cb1
            clear hw2 cb0 cb1 cy0 cy1 HCG
            go_wp2
            go_roundg (i - (j + 1))
            case measure => omega
            case rel => exact ⟨j + 1, by go_num, by rw [E1.out]; go_num, by omega, hb2, hs2, d0, d1⟩
          · have e1 : rowInv xs i (j + 1) = R := by rw [HROW.out, if_neg (mt HCN.out.2 hr)]; rfl
            have E1 : Hid _ := e1
            clear e1
            go_wp2_with fail
            refine (HCG.out _).mono ?_
            rintro e w2 ⟨rfl, q2, os2, hw2⟩
            obtain ⟨hb2, hs2, d0, d1⟩ : Below w.heap.size w w2 ∧ wo.heap.size < w2.heap.size ∧ w2.cell? ⟨wo.heap.size, 0, none⟩ = some (.int .i64 x.1) ∧ w2.cell? ⟨wo.heap.size, 1, none⟩ = some (.int .i64 x.2) := by
              have hal : wo.heap.size < (wr.alloc (Obj.cells #[.int .i64 y.1, .int .i64 y.2] 38)).heap.size := by simp; omega
              refine ⟨?_, ?_, ?_, ?_⟩
              · rw [hw2]; exact (hbj.alloc hbj.size _).trans ((below_grown _ _ q2 os2 (Nat.le_refl _)).mono (by have := hbj.size; simp; omega))
              · rw [hw2, size_grow]; exact Nat.lt_of_lt_of_le hal (Nat.le_add_right _ _)
              · rw [hw2]; refine cell_grown (a := ⟨wo.heap.size, 0, none⟩) hal ?_ q2 os2; exact (((Below.refl wr.heap.size wr).alloc (Nat.le_refl _) _).cell (p := ⟨wo.heap.size, 0, none⟩) hsj).trans cb0
              · rw [hw2]; refine cell_grown (a := ⟨wo.heap.size, 1, none⟩) hal ?_ q2 os2; exact (((Below.refl wr.heap.size wr).alloc (Nat.le_refl _) _).cell (p := ⟨wo.heap.size, 1, none⟩) hsj).trans cb1
            clear hw2 cb0 cb1 cy0 cy1 HCG
            go_wp2
            go_roundg (i - (j + 1))
            case measure => omega
            case rel => exact ⟨j + 1, by go_num, by rw [E1.out], by omega, hb2, hs2, d0, d1⟩
        · have hjz : ¬ (j : Int) < (i : Int) := by omega
          obtain rfl : j = i := by omega
          go_wp2
          go_roundg (n - (j + 1))
          case measure => omega
          case rel => exact ⟨j + 1, by go_num, by rw [invTo, HM.out]; go_num, by omega, hbj⟩
    · have hlz : ¬ (i : Int) < (n : Int) := by omega
      obtain rfl : i = n := by omega
      go_wp2
      go_ret2
      exact ⟨rfl, hbr⟩

set_option maxHeartbeats 1000000 in
theorem inversions_none (p : Option Addr) (cap : Nat) (w : World)
    (hcon : Calls Tryd.prog 29 #[.slice p 0 cap] w fun e w' => e = .returned .nilIface ∧ Below w.heap.size w w') :
    Calls Tryd.prog 9 #[.slice p 0 cap] w fun e w' => e = .returned (.tuple #[.int .i64 0, .nilIface]) ∧ Below w.heap.size w w' := by
  go_enter Tryd.func9, Tryd.ntmps9
  go_wp2_with (go_at_call 29; refine hcon.mono ?_; rintro e w1 ⟨rfl, hb⟩)
  go_loopg [5, 17] 0 (fun g vm vi wr => vm = .int .i64 0 ∧ vi = .int .i64 0 ∧ Below w.heap.size w wr)
  case atStart => exact ⟨rfl, rfl, hb⟩
  case round =>
    obtain ⟨rfl, rfl, hbr⟩ := hrel
    go_wp2
    go_ret2
    exact ⟨rfl, hbr⟩

/-- How many pairs stand the wrong way round; 0 where the items are wrong. -/
def invI (xs : Array (Int × Int)) : Nat := if wrong xs = 0 then invTo xs xs.size else 0
theorem inversions_any (v : Value) (xs : Array (Int × Int)) (w : World) (h : Sl w v xs) (hbig : xs.size ≤ 9223372036854775807) :
    Calls Tryd.prog 9 #[v] w fun e w' => e = .returned (.tuple #[.int .i64 (invI xs), errV (wrong xs)]) ∧ Below w.heap.size w w' := by
  have hcon := check_any v xs w h hbig
  by_cases hk : wrong xs = 0
  · have h60 : xs.size ≤ 60 := by
      unfold wrong at hk
      by_cases c : 60 < xs.size
      · rw [if_pos c] at hk; omega
      · omega
    have e1 : invI xs = invTo xs xs.size := if_pos hk
    rw [hk] at hcon ⊢
    rw [e1]
    obtain ⟨p, cap, rfl, hcap, h | ⟨blk, off, rfl, hr⟩⟩ := h
    · rw [h] at hcon ⊢
      exact inversions_none p cap w hcon
    · exact inversions_good blk off cap xs.size xs w hr rfl h60 hcap hcon
  · have e1 : errV (wrong xs) = .iface 48 (.int .i64 (wrong xs : Nat)) := if_neg hk
    have e2 : invI xs = 0 := if_neg hk
    rw [e1] at hcon ⊢
    rw [e2]
    clear e1 e2 hk
    generalize wrong xs = k at hcon ⊢
    obtain ⟨p, cap, rfl, _⟩ := h
    go_enter Tryd.func9, Tryd.ntmps9
    go_wp2_with (first | (go_at_call 29; refine hcon.mono ?_; rintro e w1 ⟨rfl, hb⟩))
    go_ret2
    exact ⟨rfl, hb⟩
#print axioms inversions_any
end Go.Proofs.YtakkjgcehmpijaaDoor
