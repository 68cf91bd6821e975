/-
  The document's Merge.
-/
import Derived.Test.YtakkjgcehmpijaaDoorMrgE
namespace Go.Proofs.YtakkjgcehmpijaaDoor
open Go.RowKit Go.Sort Go.Proofs

set_option maxHeartbeats 2000000 in
theorem refMerge_1 (p q : Option Addr) (ca cb A B : Nat) (w : World) (_hA : A ≤ 9223372036854775807) (_hB : B ≤ 9223372036854775807) (k : Nat) (hk : ((k : Int) == 0) = false) (C1 : Hid (∀ w1, Below w.heap.size w w1 → Calls Tryd.prog 7 #[.slice p A ca] w1 fun e w' => e = .returned (.int .i64 k) ∧ w' = w1)) :
    Calls Tryd.prog 11 #[.slice p A ca, .slice q B cb] w fun e w' => e = .returned (.tuple #[.slice none 0 0, .int .i64 k]) ∧ Below w.heap.size w w' := by
  go_enter Tryd.func11, Tryd.ntmps11
  go_wp2_with fail
  refine (C1.out w (Below.refl _ _)).mono ?_
  rintro e w1 ⟨rfl, hw1⟩
  have hb1 : Below w.heap.size w w1 := by rw [hw1]; exact (Below.refl _ _)
  clear hw1
  go_wp2
  go_ret2
  exact ⟨rfl, hb1⟩

set_option maxHeartbeats 2000000 in
theorem refMerge_2 (p q : Option Addr) (ca cb A B : Nat) (w : World) (_hA : A ≤ 9223372036854775807) (_hB : B ≤ 9223372036854775807) (C1 : Hid (∀ w1, Below w.heap.size w w1 → Calls Tryd.prog 7 #[.slice p A ca] w1 fun e w' => e = .returned (.int .i64 0) ∧ w' = w1)) (C2 : Hid (∀ w1, Below w.heap.size w w1 → Calls Tryd.prog 32 #[.slice p A ca] w1 fun e w' => e = .returned (.bool false) ∧ ∃ q, w' = w1.drewN q)) :
    Calls Tryd.prog 11 #[.slice p A ca, .slice q B cb] w fun e w' => e = .returned (.tuple #[.slice none 0 0, .int .i64 3]) ∧ Below w.heap.size w w' := by
  go_enter Tryd.func11, Tryd.ntmps11
  go_wp2_with fail
  refine (C1.out w (Below.refl _ _)).mono ?_
  rintro e w1 ⟨rfl, hw1⟩
  have hb1 : Below w.heap.size w w1 := by rw [hw1]; exact (Below.refl _ _)
  clear hw1
  go_wp2_with fail
  refine (C2.out w1 hb1).mono ?_
  rintro e w2 ⟨rfl, q2, hw2⟩
  have hb2 : Below w.heap.size w w2 := by rw [hw2]; exact below_drewN hb1 q2
  clear hw2
  go_wp2
  go_ret2
  exact ⟨rfl, hb2⟩

set_option maxHeartbeats 2000000 in
theorem refMerge_3 (p q : Option Addr) (ca cb A B : Nat) (w : World) (_hA : A ≤ 9223372036854775807) (_hB : B ≤ 9223372036854775807) (k : Nat) (hk : ((k : Int) == 0) = false) (C1 : Hid (∀ w1, Below w.heap.size w w1 → Calls Tryd.prog 7 #[.slice p A ca] w1 fun e w' => e = .returned (.int .i64 0) ∧ w' = w1)) (C2 : Hid (∀ w1, Below w.heap.size w w1 → Calls Tryd.prog 32 #[.slice p A ca] w1 fun e w' => e = .returned (.bool true) ∧ ∃ q, w' = w1.drewN q)) (C3 : Hid (∀ w1, Below w.heap.size w w1 → Calls Tryd.prog 7 #[.slice q B cb] w1 fun e w' => e = .returned (.int .i64 k) ∧ w' = w1)) :
    Calls Tryd.prog 11 #[.slice p A ca, .slice q B cb] w fun e w' => e = .returned (.tuple #[.slice none 0 0, .int .i64 k]) ∧ Below w.heap.size w w' := by
  go_enter Tryd.func11, Tryd.ntmps11
  go_wp2_with fail
  refine (C1.out w (Below.refl _ _)).mono ?_
  rintro e w1 ⟨rfl, hw1⟩
  have hb1 : Below w.heap.size w w1 := by rw [hw1]; exact (Below.refl _ _)
  clear hw1
  go_wp2_with fail
  refine (C2.out w1 hb1).mono ?_
  rintro e w2 ⟨rfl, q2, hw2⟩
  have hb2 : Below w.heap.size w w2 := by rw [hw2]; exact below_drewN hb1 q2
  clear hw2
  go_wp2_with fail
  refine (C3.out w2 hb2).mono ?_
  rintro e w3 ⟨rfl, hw3⟩
  have hb3 : Below w.heap.size w w3 := by rw [hw3]; exact hb2
  clear hw3
  go_wp2
  go_ret2
  exact ⟨rfl, hb3⟩

set_option maxHeartbeats 2000000 in
theorem refMerge_4 (p q : Option Addr) (ca cb A B : Nat) (w : World) (_hA : A ≤ 9223372036854775807) (_hB : B ≤ 9223372036854775807) (C1 : Hid (∀ w1, Below w.heap.size w w1 → Calls Tryd.prog 7 #[.slice p A ca] w1 fun e w' => e = .returned (.int .i64 0) ∧ w' = w1)) (C2 : Hid (∀ w1, Below w.heap.size w w1 → Calls Tryd.prog 32 #[.slice p A ca] w1 fun e w' => e = .returned (.bool true) ∧ ∃ q, w' = w1.drewN q)) (C3 : Hid (∀ w1, Below w.heap.size w w1 → Calls Tryd.prog 7 #[.slice q B cb] w1 fun e w' => e = .returned (.int .i64 0) ∧ w' = w1)) (C4 : Hid (∀ w1, Below w.heap.size w w1 → Calls Tryd.prog 32 #[.slice q B cb] w1 fun e w' => e = .returned (.bool false) ∧ ∃ q, w' = w1.drewN q)) :
    Calls Tryd.prog 11 #[.slice p A ca, .slice q B cb] w fun e w' => e = .returned (.tuple #[.slice none 0 0, .int .i64 3]) ∧ Below w.heap.size w w' := by
  go_enter Tryd.func11, Tryd.ntmps11
  go_wp2_with fail
  refine (C1.out w (Below.refl _ _)).mono ?_
  rintro e w1 ⟨rfl, hw1⟩
  have hb1 : Below w.heap.size w w1 := by rw [hw1]; exact (Below.refl _ _)
  clear hw1
  go_wp2_with fail
  refine (C2.out w1 hb1).mono ?_
  rintro e w2 ⟨rfl, q2, hw2⟩
  have hb2 : Below w.heap.size w w2 := by rw [hw2]; exact below_drewN hb1 q2
  clear hw2
  go_wp2_with fail
  refine (C3.out w2 hb2).mono ?_
  rintro e w3 ⟨rfl, hw3⟩
  have hb3 : Below w.heap.size w w3 := by rw [hw3]; exact hb2
  clear hw3
  go_wp2_with fail
  refine (C4.out w3 hb3).mono ?_
  rintro e w4 ⟨rfl, q4, hw4⟩
  have hb4 : Below w.heap.size w w4 := by rw [hw4]; exact below_drewN hb3 q4
  clear hw4
  go_wp2
  go_ret2
  exact ⟨rfl, hb4⟩

set_option maxHeartbeats 2000000 in
theorem refMerge_5 (p q : Option Addr) (ca cb A B : Nat) (w : World) (_hA : A ≤ 9223372036854775807) (_hB : B ≤ 9223372036854775807) (l1 : A ≤ 60) (l2 : B ≤ 60) (h60 : 60 < A + B) (C1 : Hid (∀ w1, Below w.heap.size w w1 → Calls Tryd.prog 7 #[.slice p A ca] w1 fun e w' => e = .returned (.int .i64 0) ∧ w' = w1)) (C2 : Hid (∀ w1, Below w.heap.size w w1 → Calls Tryd.prog 32 #[.slice p A ca] w1 fun e w' => e = .returned (.bool true) ∧ ∃ q, w' = w1.drewN q)) (C3 : Hid (∀ w1, Below w.heap.size w w1 → Calls Tryd.prog 7 #[.slice q B cb] w1 fun e w' => e = .returned (.int .i64 0) ∧ w' = w1)) (C4 : Hid (∀ w1, Below w.heap.size w w1 → Calls Tryd.prog 32 #[.slice q B cb] w1 fun e w' => e = .returned (.bool true) ∧ ∃ q, w' = w1.drewN q)) :
    Calls Tryd.prog 11 #[.slice p A ca, .slice q B cb] w fun e w' => e = .returned (.tuple #[.slice none 0 0, .int .i64 4]) ∧ Below w.heap.size w w' := by
  have hwr : IntKind.i64.wrap ((A : Int) + (B : Int)) = (A : Int) + (B : Int) := by rw [IntKind.wrap_i64]; omega
  have hz : (60 : Int) < (A : Int) + (B : Int) := by omega
  go_enter Tryd.func11, Tryd.ntmps11
  go_wp2_with fail
  refine (C1.out w (Below.refl _ _)).mono ?_
  rintro e w1 ⟨rfl, hw1⟩
  have hb1 : Below w.heap.size w w1 := by rw [hw1]; exact (Below.refl _ _)
  clear hw1
  go_wp2_with fail
  refine (C2.out w1 hb1).mono ?_
  rintro e w2 ⟨rfl, q2, hw2⟩
  have hb2 : Below w.heap.size w w2 := by rw [hw2]; exact below_drewN hb1 q2
  clear hw2
  go_wp2_with fail
  refine (C3.out w2 hb2).mono ?_
  rintro e w3 ⟨rfl, hw3⟩
  have hb3 : Below w.heap.size w w3 := by rw [hw3]; exact hb2
  clear hw3
  go_wp2_with fail
  refine (C4.out w3 hb3).mono ?_
  rintro e w4 ⟨rfl, q4, hw4⟩
  have hb4 : Below w.heap.size w w4 := by rw [hw4]; exact below_drewN hb3 q4
  clear hw4
  go_wp2
  go_ret2
  exact ⟨rfl, hb4⟩

theorem refMerge_bad (p q : Option Addr) (ca cb : Nat) (xs ys : Array (Int × Int)) (w : World) (hx : Sl w (.slice p xs.size ca) xs) (hy : Sl w (.slice q ys.size cb) ys) (h1 : xs.size ≤ 9223372036854775807) (h2 : ys.size ≤ 9223372036854775807) (h0 : wrongM xs ys ≠ 0) :
    Calls Tryd.prog 11 #[.slice p xs.size ca, .slice q ys.size cb] w fun e w' => e = .returned (.tuple #[.slice none 0 0, .int .i64 (wrongM xs ys : Nat)]) ∧ Below w.heap.size w w' := by
  have c1 := fun w1 (hb : Below w.heap.size w w1) => refItems_any _ xs w1 (hx.below hb) h1
  have c2 := fun (h : xs.size ≤ 60) w1 (hb : Below w.heap.size w w1) => refSorted_any _ xs w1 (hx.below hb) h
  have c3 := fun w1 (hb : Below w.heap.size w w1) => refItems_any _ ys w1 (hy.below hb) h2
  have c4 := fun (h : ys.size ≤ 60) w1 (hb : Below w.heap.size w w1) => refSorted_any _ ys w1 (hy.below hb) h
  unfold wrongM at h0 ⊢
  by_cases a1 : wrong xs = 0
  · have l1 := wrong_le a1
    have c2 := c2 l1
    rw [a1] at c1
    cases b1 : srtB xs with
    | false =>
      have e : wrongS xs = 3 := by unfold wrongS; rw [if_pos a1, b1]; rfl
      rw [e]
      rw [b1] at c2
      exact refMerge_2 p q ca cb xs.size ys.size w h1 h2 c1 c2
    | true =>
      have e : wrongS xs = 0 := by unfold wrongS; rw [if_pos a1, b1]; rfl
      rw [e] at h0 ⊢
      rw [b1] at c2
      by_cases a2 : wrong ys = 0
      · have l2 := wrong_le a2
        have c4 := c4 l2
        rw [a2] at c3
        cases b2 : srtB ys with
        | false =>
          have e : wrongS ys = 3 := by unfold wrongS; rw [if_pos a2, b2]; rfl
          rw [e]
          rw [b2] at c4
          exact refMerge_4 p q ca cb xs.size ys.size w h1 h2 c1 c2 c3 c4
        | true =>
          have e : wrongS ys = 0 := by unfold wrongS; rw [if_pos a2, b2]; rfl
          rw [e] at h0 ⊢
          rw [b2] at c4
          have h60 : 60 < xs.size + ys.size := by
            rcases Nat.lt_or_ge 60 (xs.size + ys.size) with h | h
            · exact h
            · rw [if_pos rfl, if_pos rfl, if_neg (by omega)] at h0; exact absurd rfl h0
          rw [if_pos rfl, if_pos rfl, if_pos h60]
          exact refMerge_5 p q ca cb xs.size ys.size w h1 h2 l1 l2 h60 c1 c2 c3 c4
      · have e : wrongS ys = wrong ys := by unfold wrongS; rw [if_neg a2]
        rw [e, if_pos rfl, if_neg a2]
        exact refMerge_3 p q ca cb xs.size ys.size w h1 h2 (wrong ys) (beq_eq_false_iff_ne.2 (by omega)) c1 c2 c3
  · have e : wrongS xs = wrong xs := by unfold wrongS; rw [if_neg a1]
    rw [e, if_neg a1]
    exact refMerge_1 p q ca cb xs.size ys.size w h1 h2 (wrong xs) (beq_eq_false_iff_ne.2 (by omega)) c1

set_option maxHeartbeats 2000000 in
theorem refMerge_good (p q : Option Addr) (ca cb : Nat) (xs ys : Array (Int × Int)) (w : World) (hx : Sl w (.slice p xs.size ca) xs) (hy : Sl w (.slice q ys.size cb) ys) (h0 : wrongM xs ys = 0) :
    Calls Tryd.prog 11 #[.slice p xs.size ca, .slice q ys.size cb] w fun e w' => ∃ u, e = .returned (.tuple #[u, .int .i64 0]) ∧ ∃ os, OwnI w' w.heap.size u os ∧ Sorts (xs ++ ys) os.toArray ∧ Below w.heap.size w w' := by
  obtain ⟨hs1, hs2, h60⟩ := wrongM_zero h0
  obtain ⟨a1, b1⟩ := wrongS_zero hs1
  obtain ⟨a2, b2⟩ := wrongS_zero hs2
  have c1 := fun w1 (hb : Below w.heap.size w w1) => refItems_any _ xs w1 (hx.below hb) (by omega)
  have c2 := fun w1 (hb : Below w.heap.size w w1) => refSorted_any _ xs w1 (hx.below hb) (by omega)
  have c3 := fun w1 (hb : Below w.heap.size w w1) => refItems_any _ ys w1 (hy.below hb) (by omega)
  have c4 := fun w1 (hb : Below w.heap.size w w1) => refSorted_any _ ys w1 (hy.below hb) (by omega)
  rw [a1] at c1
  rw [b1] at c2
  rw [a2] at c3
  rw [b2] at c4
  have HX : Hid (Sl w (.slice p xs.size ca) xs) := hx
  have HY : Hid (Sl w (.slice q ys.size cb) ys) := hy
  have hl : Hid ((xs.toList ++ ys.toList).toArray = xs ++ ys) := by show _ = _; simp
  clear hs1 hs2 a1 a2 b1 b2 h0 hx hy
  obtain ⟨A, hA⟩ : ∃ A, xs.size = A := ⟨_, rfl⟩
  obtain ⟨B, hB⟩ : ∃ B, ys.size = B := ⟨_, rfl⟩
  rw [hA] at c1 c2 h60 HX ⊢
  rw [hB] at c3 c4 h60 HY ⊢
  have HA : Hid (xs.size = A) := hA
  have HB : Hid (ys.size = B) := hB
  clear hA hB
  have C1 : Hid (∀ w1, Below w.heap.size w w1 → Calls Tryd.prog 7 #[.slice p A ca] w1 fun e w' => e = .returned (.int .i64 0) ∧ w' = w1) := c1
  have C2 : Hid (∀ w1, Below w.heap.size w w1 → Calls Tryd.prog 32 #[.slice p A ca] w1 fun e w' => e = .returned (.bool true) ∧ ∃ q, w' = w1.drewN q) := c2
  have C3 : Hid (∀ w1, Below w.heap.size w w1 → Calls Tryd.prog 7 #[.slice q B cb] w1 fun e w' => e = .returned (.int .i64 0) ∧ w' = w1) := c3
  have C4 : Hid (∀ w1, Below w.heap.size w w1 → Calls Tryd.prog 32 #[.slice q B cb] w1 fun e w' => e = .returned (.bool true) ∧ ∃ q, w' = w1.drewN q) := c4
  clear c1 c2 c3 c4
  have hwr : IntKind.i64.wrap ((A : Int) + (B : Int)) = (A : Int) + (B : Int) := by rw [IntKind.wrap_i64]; omega
  have hz : ¬ (60 : Int) < (A : Int) + (B : Int) := by omega
  go_enter Tryd.func11, Tryd.ntmps11
  go_wp2_with fail
  refine (C1.out w (Below.refl _ _)).mono ?_
  rintro e w1 ⟨rfl, hw1⟩
  have hb1 : Below w.heap.size w w1 := by rw [hw1]; exact (Below.refl _ _)
  clear hw1
  go_wp2_with fail
  refine (C2.out w1 hb1).mono ?_
  rintro e w2 ⟨rfl, q2, hw2⟩
  have hb2 : Below w.heap.size w w2 := by rw [hw2]; exact below_drewN hb1 q2
  clear hw2
  go_wp2_with fail
  refine (C3.out w2 hb2).mono ?_
  rintro e w3 ⟨rfl, hw3⟩
  have hb3 : Below w.heap.size w w3 := by rw [hw3]; exact hb2
  clear hw3
  go_wp2_with fail
  refine (C4.out w3 hb3).mono ?_
  rintro e w4 ⟨rfl, q4, hw4⟩
  have hb4 : Below w.heap.size w w4 := by rw [hw4]; exact below_drewN hb3 q4
  clear hw4
  go_wp2_with (first | (at_builtin; refine wpList_append_sl rfl (.tmp 41) (.tmp 42) rfl w.heap.size (.slice none 0 0) _ [] xs rfl rfl (OwnI.nil _ _) (HX.out.below hb4) (by simp; have := HA.out; omega) hb4.size ?_; intro v5 w5 h5 hg5; have hb5 := hb4.trans (below_of_grown (v := .slice none 0 0) (OwnI.nil _ w.heap.size) hg5 (Nat.le_refl _) hb4.size); clear hg5) | (at_builtin; refine wpList_append_sl rfl (.tmp 44) (.tmp 45) rfl w.heap.size v5 _ _ ys rfl rfl h5 (HY.out.below hb5) (by simp; have := HA.out; have := HB.out; omega) hb5.size ?_; intro v6 w6 h6 hg6; have hb6 := hb5.trans (below_of_grown h5 hg6 (Nat.le_refl _) hb5.size); clear hg6))
  have h7 : OwnI w6 w.heap.size v6 (xs.toList ++ ys.toList) := by simpa using h6
  have s7 : Sl w6 v6 (xs ++ ys) := by have := h7.sl; rw [hl.out] at this; exact this
  refine (refSort_any v6 (xs ++ ys) w6 s7 (by simp; have := HA.out; have := HB.out; omega)).mono ?_
  rintro e w8 ⟨u, rfl, os, ho, hso, hb8⟩
  have HSO : Hid (Sorts (xs ++ ys) os.toArray) := hso
  clear hso
  go_wp2
  go_ret2
  exact ⟨_, rfl, os, ho.weak hb6.size, HSO.out, hb6.trans (hb8.mono hb6.size)⟩
end Go.Proofs.YtakkjgcehmpijaaDoor
