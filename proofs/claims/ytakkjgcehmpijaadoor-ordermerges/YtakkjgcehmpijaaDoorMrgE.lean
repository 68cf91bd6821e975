/-
  What is wrong with two lists that are to be merged; order.checkSorted, order.Merge, the document's Merge.
-/
import Derived.Test.YtakkjgcehmpijaaDoorMrgW
import Derived.Test.YtakkjgcehmpijaaDoorSame
import Derived.Test.YtakkjgcehmpijaaDoorRefSortW
namespace Go.Proofs.YtakkjgcehmpijaaDoor
open Go.RowKit Go.Sort Go.Proofs

/-- What is wrong with items that are to be sorted. -/
def wrongS (xs : Array (Int × Int)) : Nat := if wrong xs = 0 then (if srtB xs then 0 else 3) else wrong xs
/-- What is wrong with two lists that are to be merged. -/
def wrongM (xs ys : Array (Int × Int)) : Nat := if wrongS xs = 0 then (if wrongS ys = 0 then (if 60 < xs.size + ys.size then 4 else 0) else wrongS ys) else wrongS xs
theorem wrongS_zero {xs : Array (Int × Int)} (h : wrongS xs = 0) : wrong xs = 0 ∧ srtB xs = true := by
  unfold wrongS at h
  by_cases c : wrong xs = 0
  · rw [if_pos c] at h
    cases hb : srtB xs
    · rw [hb] at h; simp at h
    · exact ⟨c, rfl⟩
  · rw [if_neg c] at h; omega
theorem wrongM_zero {xs ys : Array (Int × Int)} (h : wrongM xs ys = 0) : wrongS xs = 0 ∧ wrongS ys = 0 ∧ xs.size + ys.size ≤ 60 := by
  unfold wrongM at h
  by_cases c : wrongS xs = 0
  · rw [if_pos c] at h
    by_cases d : wrongS ys = 0
    · rw [if_pos d] at h
      by_cases f : 60 < xs.size + ys.size
      · rw [if_pos f] at h; omega
      · exact ⟨c, d, by omega⟩
    · rw [if_neg d] at h; omega
  · rw [if_neg c] at h; omega

set_option maxHeartbeats 1000000 in
theorem checkSorted_any (v : Value) (xs : Array (Int × Int)) (w : World) (h : Sl w v xs) (hbig : xs.size ≤ 9223372036854775807) :
    Calls Tryd.prog 34 #[v] w fun e w' => e = .returned (errV (wrongS xs)) ∧ Below w.heap.size w w' := by
  have c := sorted_any v xs w h hbig
  by_cases h0 : wrong xs = 0
  · unfold wrongS
    rw [if_pos h0]
    rw [h0, errV_zero] at c
    simp only [decide_true, Bool.true_and] at c
    clear h h0
    generalize srtB xs = b at c ⊢
    cases b
    · show Calls Tryd.prog 34 #[v] w fun e w' => e = .returned (.iface 48 (.int .i64 3)) ∧ Below w.heap.size w w'
      go_enter Tryd.func34, Tryd.ntmps34
      go_wp2_with (go_at_call 46; refine c.mono ?_; rintro e w' ⟨rfl, hb⟩)
      go_ret
      exact ⟨rfl, hb⟩
    · show Calls Tryd.prog 34 #[v] w fun e w' => e = .returned .nilIface ∧ Below w.heap.size w w'
      go_enter Tryd.func34, Tryd.ntmps34
      go_wp2_with (go_at_call 46; refine c.mono ?_; rintro e w' ⟨rfl, hb⟩)
      go_ret
      exact ⟨rfl, hb⟩
  · unfold wrongS
    rw [if_neg h0]
    rw [errV_pos h0] at c ⊢
    have e4 : (decide (wrong xs = 0) && srtB xs) = false := by simp [h0]
    rw [e4] at c
    clear h h0 e4
    generalize wrong xs = k at c ⊢
    go_enter Tryd.func34, Tryd.ntmps34
    go_wp2_with (go_at_call 46; refine c.mono ?_; rintro e w' ⟨rfl, hb⟩)
    go_ret
    exact ⟨rfl, hb⟩

set_option maxHeartbeats 2000000 in
theorem merge_bad (p q : Option Addr) (ca cb : Nat) (xs ys : Array (Int × Int)) (w : World) (hx : Sl w (.slice p xs.size ca) xs) (hy : Sl w (.slice q ys.size cb) ys) (h1 : xs.size ≤ 9223372036854775807) (h2 : ys.size ≤ 9223372036854775807) (h0 : wrongM xs ys ≠ 0) :
    Calls Tryd.prog 12 #[.slice p xs.size ca, .slice q ys.size cb] w fun e w' => e = .returned (.tuple #[.slice none 0 0, .iface 48 (.int .i64 (wrongM xs ys : Nat))]) ∧ Below w.heap.size w w' := by
  have c1 := checkSorted_any _ xs w hx h1
  have c2 := fun w1 (hb : Below w.heap.size w w1) => checkSorted_any _ ys w1 (hy.below hb) h2
  unfold wrongM at h0 ⊢
  by_cases hs1 : wrongS xs = 0
  · rw [if_pos hs1] at h0 ⊢
    rw [hs1, errV_zero] at c1
    by_cases hs2 : wrongS ys = 0
    · rw [if_pos hs2] at h0 ⊢
      simp only [hs2, errV_zero] at c2
      have l1 := wrong_le (wrongS_zero hs1).1
      have l2 := wrong_le (wrongS_zero hs2).1
      have h60 : 60 < xs.size + ys.size := by
        rcases Nat.lt_or_ge 60 (xs.size + ys.size) with h | h
        · exact h
        · rw [if_neg (by omega)] at h0; exact absurd rfl h0
      rw [if_pos h60]
      clear h0 hs1 hs2 hx hy
      generalize xs.size = A at *
      generalize ys.size = B at *
      have hwr : IntKind.i64.wrap ((A : Int) + (B : Int)) = (A : Int) + (B : Int) := by rw [IntKind.wrap_i64]; omega
      have hz : (60 : Int) < (A : Int) + (B : Int) := by omega
      have C2 : Hid (∀ w1, Below w.heap.size w w1 → Calls Tryd.prog 34 #[.slice q B cb] w1 fun e w' => e = .returned .nilIface ∧ Below w1.heap.size w1 w') := c2
      clear c2
      go_enter Tryd.func12, Tryd.ntmps12
      go_wp2_with fail
      refine c1.mono ?_
      rintro e w1 ⟨rfl, hb1⟩
      go_wp2_with fail
      refine (C2.out w1 hb1).mono ?_
      rintro e w2 ⟨rfl, hb2⟩
      go_wp2
      go_ret2
      exact ⟨rfl, hb1.trans (hb2.mono hb1.size)⟩
    · rw [if_neg hs2] at h0 ⊢
      simp only [errV_pos hs2] at c2
      generalize wrongS ys = k at c2 ⊢
      clear h0 hs1 hs2 hx hy
      generalize xs.size = A at *
      generalize ys.size = B at *
      have C2 : Hid (∀ w1, Below w.heap.size w w1 → Calls Tryd.prog 34 #[.slice q B cb] w1 fun e w' => e = .returned (.iface 48 (.int .i64 k)) ∧ Below w1.heap.size w1 w') := c2
      clear c2
      go_enter Tryd.func12, Tryd.ntmps12
      go_wp2_with fail
      refine c1.mono ?_
      rintro e w1 ⟨rfl, hb1⟩
      go_wp2_with fail
      refine (C2.out w1 hb1).mono ?_
      rintro e w2 ⟨rfl, hb2⟩
      go_wp2
      go_ret2
      exact ⟨rfl, hb1.trans (hb2.mono hb1.size)⟩
  · rw [if_neg hs1] at h0 ⊢
    rw [errV_pos hs1] at c1
    generalize wrongS xs = k at c1 ⊢
    clear h0 hs1 hx hy c2
    generalize xs.size = A at *
    generalize ys.size = B at *
    go_enter Tryd.func12, Tryd.ntmps12
    go_wp2_with fail
    refine c1.mono ?_
    rintro e w1 ⟨rfl, hb1⟩
    go_wp2
    go_ret2
    exact ⟨rfl, hb1⟩

set_option maxHeartbeats 2000000 in
theorem merge_good (p q : Option Addr) (ca cb : Nat) (xs ys : Array (Int × Int)) (w : World) (hx : Sl w (.slice p xs.size ca) xs) (hy : Sl w (.slice q ys.size cb) ys) (h0 : wrongM xs ys = 0) :
    Calls Tryd.prog 12 #[.slice p xs.size ca, .slice q ys.size cb] w fun e w' => ∃ u, e = .returned (.tuple #[u, .nilIface]) ∧ ∃ os, OwnI w' w.heap.size u os ∧ Sorts (xs ++ ys) os.toArray ∧ Below w.heap.size w w' := by
  obtain ⟨hs1, hs2, h60⟩ := wrongM_zero h0
  have c1 := checkSorted_any _ xs w hx (by omega)
  have c2 := fun w1 (hb : Below w.heap.size w w1) => checkSorted_any _ ys w1 (hy.below hb) (by omega)
  have c3 := fun w1 (hb : Below w.heap.size w w1) => merged_any p q ca cb xs.size ys.size xs ys w1 (hx.below hb) (hy.below hb) rfl rfl h60
  have hS : Hid (Sorts (xs ++ ys) (mrg xs.toList ys.toList).toArray) := mrg_sorts (wrongS_zero hs1).2 (wrongS_zero hs2).2
  rw [hs1, errV_zero] at c1
  simp only [hs2, errV_zero] at c2
  clear h0 hs1 hs2 hx hy
  generalize mrg xs.toList ys.toList = M at c3 hS
  obtain ⟨zs, hzs⟩ : ∃ zs, xs ++ ys = zs := ⟨_, rfl⟩
  rw [hzs] at hS
  rw [hzs]
  clear hzs
  generalize xs.size = A at *
  generalize ys.size = B at *
  have hwr : IntKind.i64.wrap ((A : Int) + (B : Int)) = (A : Int) + (B : Int) := by rw [IntKind.wrap_i64]; omega
  have hz : ¬ (60 : Int) < (A : Int) + (B : Int) := by omega
  have C2 : Hid (∀ w1, Below w.heap.size w w1 → Calls Tryd.prog 34 #[.slice q B cb] w1 fun e w' => e = .returned .nilIface ∧ Below w1.heap.size w1 w') := c2
  have C3 : Hid (∀ w1, Below w.heap.size w w1 → Calls Tryd.prog 35 #[.slice p A ca, .slice q B cb] w1 fun e w' => ∃ u, e = .returned u ∧ OwnI w' w1.heap.size u M ∧ Below w1.heap.size w1 w') := c3
  clear c2 c3
  go_enter Tryd.func12, Tryd.ntmps12
  go_wp2_with fail
  refine c1.mono ?_
  rintro e w1 ⟨rfl, hb1⟩
  go_wp2_with fail
  refine (C2.out w1 hb1).mono ?_
  rintro e w2 ⟨rfl, hb2'⟩
  have hb2 := hb1.trans (hb2'.mono hb1.size)
  go_wp2_with fail
  refine (C3.out w2 hb2).mono ?_
  rintro e w3 ⟨u, rfl, ho, hb3⟩
  go_wp2
  go_ret2
  exact ⟨_, rfl, M, ho.weak hb2.size, hS.out, hb2.trans (hb3.mono hb2.size)⟩
end Go.Proofs.YtakkjgcehmpijaaDoor
