/-
  The document's heaps of trees: two trees linked.
-/
import Derived.Test.YtmkjalpgeljnkaaDoorRefB3
namespace Go.Proofs.YtmkjalpgeljnkaaDoor
open Go.RowKit Go.Sort Go.Proofs

set_option maxHeartbeats 4000000 in
theorem link_S1 (ba oa na ca bb ob nb cb : Nat) (x0 x1 y0 y1 : Int) (a b : List (Int × Int)) (w : World) (ha60 : na ≤ 1000) (hb60 : nb ≤ 1000) (hna : 0 < na) (hnb : 0 < nb) (hone : cb = 1) (hx : y0 < x0) (HNA : Hid (a.length + 1 = na)) (HNB : Hid (b.length + 1 = nb)) (hca : na ≤ ca) (hcb : nb ≤ cb)
    (HA : Hid (RdAt w ba oa ((x0, x1) :: a).toArray)) (HB : Hid (RdAt w bb ob ((y0, y1) :: b).toArray)) :
    Calls Tryd.prog 33 #[.slice (some ⟨ba, oa, none⟩) na ca, .slice (some ⟨bb, ob, none⟩) nb cb] w fun e w' => ∃ u, e = .returned u ∧ OwnI w' w.heap.size u ((y0, y1) :: (((x0, x1) :: a) ++ b)) ∧ Below w.heap.size w w' := by
  subst hone
  obtain rfl : nb = 1 := by omega
  have hzA : (0 : Int) < (na : Int) := by omega
  have hzB : (0 : Int) < (1 : Int) := by omega
  have hz1 : (1 : Int) ≤ (1 : Int) := by omega
  have hd : decide (y0 < x0) = true := decide_eq_true hx
  obtain ⟨a0, a1⟩ := HA.out.2 0 (by simp)
  obtain ⟨b0, b1⟩ := HB.out.2 0 (by simp)
  simp only [Nat.zero_mul, Nat.add_zero] at a0 a1 b0 b1
  have a0' : w.cell? ⟨ba, oa, none⟩ = some (.int .i64 x0) := a0
  have a1' : w.cell? ⟨ba, oa + 1, none⟩ = some (.int .i64 x1) := a1
  have b0' : w.cell? ⟨bb, ob, none⟩ = some (.int .i64 y0) := b0
  have b1' : w.cell? ⟨bb, ob + 1, none⟩ = some (.int .i64 y1) := b1
  clear a0 a1 b0 b1
  have HSA : Hid (Sl w (.slice (some ⟨ba, oa, none⟩) na ca) ((x0, x1) :: a).toArray) := by
    show Sl _ _ _; have := Sl.of_rd (cap := ca) HA.out (by rw [List.size_toArray, List.length_cons, HNA.out]; omega); rw [show ((x0, x1) :: a).toArray.size = na by rw [List.size_toArray, List.length_cons]; exact HNA.out] at this; exact this
  have HSB : Hid (Sl w (.slice (some ⟨bb, ob, none⟩) 1 1) ((y0, y1) :: b).toArray) := by
    show Sl _ _ _; have := Sl.of_rd (cap := 1) HB.out (by rw [List.size_toArray, List.length_cons, HNB.out]; omega); rw [show ((y0, y1) :: b).toArray.size = 1 by rw [List.size_toArray, List.length_cons]; exact HNB.out] at this; exact this
  have HT : Hid (Sl w (.slice (some ⟨bb, ob, none⟩) 0 0) b.toArray) := Sl.empty w _ _ _ b (by have := HNB.out; omega) (by omega)
  go_enter Tryd.func33, Tryd.ntmps33
  go_wp2_with fail
  go_quiet (fail)
  have hq : Below w.heap.size w (w.drewN nq) := below_drewN (Below.refl _ _) nq
  have k0 : (w.drewN nq).cell? ⟨bb, ob, none⟩ = some (.int .i64 y0) := b0'
  have k1 : (w.drewN nq).cell? ⟨bb, ob + 1, none⟩ = some (.int .i64 y1) := b1'
  have hsq : w.heap.size ≤ (w.drewN nq).heap.size := Nat.le_refl _
  clear a0' a1' b0' b1'
  generalize w.drewN nq = wq at hq k0 k1 hsq ⊢
  have hal : Below w.heap.size w (wq.alloc (.cells #[.int .i64 y0, .int .i64 y1] 24)) := hq.alloc hsq _
  go_wp2_with (first | (at_builtin; refine wpList_append_item rfl (.tmp 15) (.tmp 19) rfl w.heap.size (.slice none 0 0) [] (y0, y1) ⟨wq.heap.size, 0, none⟩ 1 rfl (OwnI.nil _ _) rfl (by simp) (by simp [Addr.add]) (by simp) (by simp; omega) ?_; intro v1 w1 hA1 hg1 _; have hb1 : Below w.heap.size w w1 := hal.trans (below_of_grown (OwnI.nil _ _) hg1 (Nat.le_refl _) (by simp; omega)); have HA1 : Hid (OwnI w1 w.heap.size v1 ([] ++ [(y0, y1)])) := hA1; clear hA1 hg1) | (at_builtin; refine wpList_append_sl rfl (.tmp 21) (.tmp 22) rfl w.heap.size v1 _ _ ((x0, x1) :: a).toArray rfl rfl HA1.out (HSA.out.below hb1) (by simp; have h1 := HNA.out; have h2 := HNB.out; omega) hb1.size ?_; intro v2 w2 hA2 hg2; have hb2 : Below w.heap.size w w2 := hb1.trans (below_of_grown HA1.out hg2 (Nat.le_refl _) hb1.size); have HA2 : Hid (OwnI w2 w.heap.size v2 (([] ++ [(y0, y1)]) ++ ((x0, x1) :: a).toArray.toList)) := hA2; clear hA2 hg2) | (at_builtin; refine wpList_append_sl rfl (.tmp 24) (.tmp 26) rfl w.heap.size v2 _ _ b.toArray rfl rfl HA2.out (HT.out.below hb2) (by simp; have h1 := HNA.out; have h2 := HNB.out; omega) hb2.size ?_; intro v3 w3 hA3 hg3; have hb3 : Below w.heap.size w w3 := hb2.trans (below_of_grown HA2.out hg3 (Nat.le_refl _) hb2.size); have HA3 : Hid (OwnI w3 w.heap.size v3 ((([] ++ [(y0, y1)]) ++ ((x0, x1) :: a).toArray.toList) ++ b.toArray.toList)) := hA3; clear hA3 hg3))
  go_ret
  exact ⟨_, rfl, by simpa using HA3.out, hb3⟩
set_option maxHeartbeats 4000000 in
theorem link_S2 (ba oa na ca bb ob nb cb : Nat) (x0 x1 y0 y1 : Int) (a b : List (Int × Int)) (w : World) (ha60 : na ≤ 1000) (hb60 : nb ≤ 1000) (hna : 0 < na) (hnb : 0 < nb) (hone : cb ≠ 1) (hx : y0 < x0) (HNA : Hid (a.length + 1 = na)) (HNB : Hid (b.length + 1 = nb)) (hca : na ≤ ca) (hcb : nb ≤ cb)
    (HA : Hid (RdAt w ba oa ((x0, x1) :: a).toArray)) (HB : Hid (RdAt w bb ob ((y0, y1) :: b).toArray)) :
    Calls Tryd.prog 33 #[.slice (some ⟨ba, oa, none⟩) na ca, .slice (some ⟨bb, ob, none⟩) nb cb] w fun e w' => ∃ u, e = .returned u ∧ OwnI w' w.heap.size u ((y0, y1) :: (((x0, x1) :: a) ++ b)) ∧ Below w.heap.size w w' := by
  have hzA : (0 : Int) < (na : Int) := by omega
  have hzB : (0 : Int) < (nb : Int) := by omega
  have hz1 : (1 : Int) ≤ (nb : Int) := by omega
  have hd : decide (y0 < x0) = true := decide_eq_true hx
  obtain ⟨a0, a1⟩ := HA.out.2 0 (by simp)
  obtain ⟨b0, b1⟩ := HB.out.2 0 (by simp)
  simp only [Nat.zero_mul, Nat.add_zero] at a0 a1 b0 b1
  have a0' : w.cell? ⟨ba, oa, none⟩ = some (.int .i64 x0) := a0
  have a1' : w.cell? ⟨ba, oa + 1, none⟩ = some (.int .i64 x1) := a1
  have b0' : w.cell? ⟨bb, ob, none⟩ = some (.int .i64 y0) := b0
  have b1' : w.cell? ⟨bb, ob + 1, none⟩ = some (.int .i64 y1) := b1
  clear a0 a1 b0 b1
  have HSA : Hid (Sl w (.slice (some ⟨ba, oa, none⟩) na ca) ((x0, x1) :: a).toArray) := by
    show Sl _ _ _; have := Sl.of_rd (cap := ca) HA.out (by rw [List.size_toArray, List.length_cons, HNA.out]; omega); rw [show ((x0, x1) :: a).toArray.size = na by rw [List.size_toArray, List.length_cons]; exact HNA.out] at this; exact this
  have HSB : Hid (Sl w (.slice (some ⟨bb, ob, none⟩) nb cb) ((y0, y1) :: b).toArray) := by
    show Sl _ _ _; have := Sl.of_rd (cap := cb) HB.out (by rw [List.size_toArray, List.length_cons, HNB.out]; omega); rw [show ((y0, y1) :: b).toArray.size = nb by rw [List.size_toArray, List.length_cons]; exact HNB.out] at this; exact this
  have HT : Hid (Sl w (.slice (some ⟨bb, ob + 2, none⟩) (nb - 1) (cb - 1)) b.toArray) := Sl.tail HB.out HNB.out hcb
  go_enter Tryd.func33, Tryd.ntmps33
  go_wp2_with fail
  go_quiet (fail)
  have hq : Below w.heap.size w (w.drewN nq) := below_drewN (Below.refl _ _) nq
  have k0 : (w.drewN nq).cell? ⟨bb, ob, none⟩ = some (.int .i64 y0) := b0'
  have k1 : (w.drewN nq).cell? ⟨bb, ob + 1, none⟩ = some (.int .i64 y1) := b1'
  have hsq : w.heap.size ≤ (w.drewN nq).heap.size := Nat.le_refl _
  clear a0' a1' b0' b1'
  generalize w.drewN nq = wq at hq k0 k1 hsq ⊢
  have hal : Below w.heap.size w (wq.alloc (.cells #[.int .i64 y0, .int .i64 y1] 24)) := hq.alloc hsq _
  go_wp2_with (first | (at_builtin; refine wpList_append_item rfl (.tmp 15) (.tmp 19) rfl w.heap.size (.slice none 0 0) [] (y0, y1) ⟨wq.heap.size, 0, none⟩ 1 rfl (OwnI.nil _ _) rfl (by simp) (by simp [Addr.add]) (by simp) (by simp; omega) ?_; intro v1 w1 hA1 hg1 _; have hb1 : Below w.heap.size w w1 := hal.trans (below_of_grown (OwnI.nil _ _) hg1 (Nat.le_refl _) (by simp; omega)); have HA1 : Hid (OwnI w1 w.heap.size v1 ([] ++ [(y0, y1)])) := hA1; clear hA1 hg1) | (at_builtin; refine wpList_append_sl rfl (.tmp 21) (.tmp 22) rfl w.heap.size v1 _ _ ((x0, x1) :: a).toArray rfl rfl HA1.out (HSA.out.below hb1) (by simp; have h1 := HNA.out; have h2 := HNB.out; omega) hb1.size ?_; intro v2 w2 hA2 hg2; have hb2 : Below w.heap.size w w2 := hb1.trans (below_of_grown HA1.out hg2 (Nat.le_refl _) hb1.size); have HA2 : Hid (OwnI w2 w.heap.size v2 (([] ++ [(y0, y1)]) ++ ((x0, x1) :: a).toArray.toList)) := hA2; clear hA2 hg2) | (at_builtin; refine wpList_append_sl rfl (.tmp 24) (.tmp 26) rfl w.heap.size v2 _ _ b.toArray rfl rfl HA2.out (HT.out.below hb2) (by simp; have h1 := HNA.out; have h2 := HNB.out; omega) hb2.size ?_; intro v3 w3 hA3 hg3; have hb3 : Below w.heap.size w w3 := hb2.trans (below_of_grown HA2.out hg3 (Nat.le_refl _) hb2.size); have HA3 : Hid (OwnI w3 w.heap.size v3 ((([] ++ [(y0, y1)]) ++ ((x0, x1) :: a).toArray.toList) ++ b.toArray.toList)) := hA3; clear hA3 hg3))
  go_ret
  exact ⟨_, rfl, by simpa using HA3.out, hb3⟩
set_option maxHeartbeats 4000000 in
theorem link_F1 (ba oa na ca bb ob nb cb : Nat) (x0 x1 y0 y1 : Int) (a b : List (Int × Int)) (w : World) (ha60 : na ≤ 1000) (hb60 : nb ≤ 1000) (hna : 0 < na) (hnb : 0 < nb) (hone : ca = 1) (hx : ¬ y0 < x0) (HNA : Hid (a.length + 1 = na)) (HNB : Hid (b.length + 1 = nb)) (hca : na ≤ ca) (hcb : nb ≤ cb)
    (HA : Hid (RdAt w ba oa ((x0, x1) :: a).toArray)) (HB : Hid (RdAt w bb ob ((y0, y1) :: b).toArray)) :
    Calls Tryd.prog 33 #[.slice (some ⟨ba, oa, none⟩) na ca, .slice (some ⟨bb, ob, none⟩) nb cb] w fun e w' => ∃ u, e = .returned u ∧ OwnI w' w.heap.size u ((x0, x1) :: (((y0, y1) :: b) ++ a)) ∧ Below w.heap.size w w' := by
  subst hone
  obtain rfl : na = 1 := by omega
  have hzA : (0 : Int) < (1 : Int) := by omega
  have hzB : (0 : Int) < (nb : Int) := by omega
  have hz1 : (1 : Int) ≤ (1 : Int) := by omega
  have hd : decide (y0 < x0) = false := decide_eq_false hx
  obtain ⟨a0, a1⟩ := HA.out.2 0 (by simp)
  obtain ⟨b0, b1⟩ := HB.out.2 0 (by simp)
  simp only [Nat.zero_mul, Nat.add_zero] at a0 a1 b0 b1
  have a0' : w.cell? ⟨ba, oa, none⟩ = some (.int .i64 x0) := a0
  have a1' : w.cell? ⟨ba, oa + 1, none⟩ = some (.int .i64 x1) := a1
  have b0' : w.cell? ⟨bb, ob, none⟩ = some (.int .i64 y0) := b0
  have b1' : w.cell? ⟨bb, ob + 1, none⟩ = some (.int .i64 y1) := b1
  clear a0 a1 b0 b1
  have HSA : Hid (Sl w (.slice (some ⟨ba, oa, none⟩) 1 1) ((x0, x1) :: a).toArray) := by
    show Sl _ _ _; have := Sl.of_rd (cap := 1) HA.out (by rw [List.size_toArray, List.length_cons, HNA.out]; omega); rw [show ((x0, x1) :: a).toArray.size = 1 by rw [List.size_toArray, List.length_cons]; exact HNA.out] at this; exact this
  have HSB : Hid (Sl w (.slice (some ⟨bb, ob, none⟩) nb cb) ((y0, y1) :: b).toArray) := by
    show Sl _ _ _; have := Sl.of_rd (cap := cb) HB.out (by rw [List.size_toArray, List.length_cons, HNB.out]; omega); rw [show ((y0, y1) :: b).toArray.size = nb by rw [List.size_toArray, List.length_cons]; exact HNB.out] at this; exact this
  have HT : Hid (Sl w (.slice (some ⟨ba, oa, none⟩) 0 0) a.toArray) := Sl.empty w _ _ _ a (by have := HNA.out; omega) (by omega)
  go_enter Tryd.func33, Tryd.ntmps33
  go_wp2_with fail
  go_quiet (fail)
  have hq : Below w.heap.size w (w.drewN nq) := below_drewN (Below.refl _ _) nq
  have k0 : (w.drewN nq).cell? ⟨ba, oa, none⟩ = some (.int .i64 x0) := a0'
  have k1 : (w.drewN nq).cell? ⟨ba, oa + 1, none⟩ = some (.int .i64 x1) := a1'
  have hsq : w.heap.size ≤ (w.drewN nq).heap.size := Nat.le_refl _
  clear a0' a1' b0' b1'
  generalize w.drewN nq = wq at hq k0 k1 hsq ⊢
  have hal : Below w.heap.size w (wq.alloc (.cells #[.int .i64 x0, .int .i64 x1] 24)) := hq.alloc hsq _
  go_wp2_with (first | (at_builtin; refine wpList_append_item rfl (.tmp 28) (.tmp 32) rfl w.heap.size (.slice none 0 0) [] (x0, x1) ⟨wq.heap.size, 0, none⟩ 1 rfl (OwnI.nil _ _) rfl (by simp) (by simp [Addr.add]) (by simp) (by simp; omega) ?_; intro v1 w1 hA1 hg1 _; have hb1 : Below w.heap.size w w1 := hal.trans (below_of_grown (OwnI.nil _ _) hg1 (Nat.le_refl _) (by simp; omega)); have HA1 : Hid (OwnI w1 w.heap.size v1 ([] ++ [(x0, x1)])) := hA1; clear hA1 hg1) | (at_builtin; refine wpList_append_sl rfl (.tmp 34) (.tmp 35) rfl w.heap.size v1 _ _ ((y0, y1) :: b).toArray rfl rfl HA1.out (HSB.out.below hb1) (by simp; have h1 := HNA.out; have h2 := HNB.out; omega) hb1.size ?_; intro v2 w2 hA2 hg2; have hb2 : Below w.heap.size w w2 := hb1.trans (below_of_grown HA1.out hg2 (Nat.le_refl _) hb1.size); have HA2 : Hid (OwnI w2 w.heap.size v2 (([] ++ [(x0, x1)]) ++ ((y0, y1) :: b).toArray.toList)) := hA2; clear hA2 hg2) | (at_builtin; refine wpList_append_sl rfl (.tmp 37) (.tmp 39) rfl w.heap.size v2 _ _ a.toArray rfl rfl HA2.out (HT.out.below hb2) (by simp; have h1 := HNA.out; have h2 := HNB.out; omega) hb2.size ?_; intro v3 w3 hA3 hg3; have hb3 : Below w.heap.size w w3 := hb2.trans (below_of_grown HA2.out hg3 (Nat.le_refl _) hb2.size); have HA3 : Hid (OwnI w3 w.heap.size v3 ((([] ++ [(x0, x1)]) ++ ((y0, y1) :: b).toArray.toList) ++ a.toArray.toList)) := hA3; clear hA3 hg3))
  go_ret
  exact ⟨_, rfl, by simpa using HA3.out, hb3⟩
set_option maxHeartbeats 4000000 in
theorem link_F2 (ba oa na ca bb ob nb cb : Nat) (x0 x1 y0 y1 : Int) (a b : List (Int × Int)) (w : World) (ha60 : na ≤ 1000) (hb60 : nb ≤ 1000) (hna : 0 < na) (hnb : 0 < nb) (hone : ca ≠ 1) (hx : ¬ y0 < x0) (HNA : Hid (a.length + 1 = na)) (HNB : Hid (b.length + 1 = nb)) (hca : na ≤ ca) (hcb : nb ≤ cb)
    (HA : Hid (RdAt w ba oa ((x0, x1) :: a).toArray)) (HB : Hid (RdAt w bb ob ((y0, y1) :: b).toArray)) :
    Calls Tryd.prog 33 #[.slice (some ⟨ba, oa, none⟩) na ca, .slice (some ⟨bb, ob, none⟩) nb cb] w fun e w' => ∃ u, e = .returned u ∧ OwnI w' w.heap.size u ((x0, x1) :: (((y0, y1) :: b) ++ a)) ∧ Below w.heap.size w w' := by
  have hzA : (0 : Int) < (na : Int) := by omega
  have hzB : (0 : Int) < (nb : Int) := by omega
  have hz1 : (1 : Int) ≤ (na : Int) := by omega
  have hd : decide (y0 < x0) = false := decide_eq_false hx
  obtain ⟨a0, a1⟩ := HA.out.2 0 (by simp)
  obtain ⟨b0, b1⟩ := HB.out.2 0 (by simp)
  simp only [Nat.zero_mul, Nat.add_zero] at a0 a1 b0 b1
  have a0' : w.cell? ⟨ba, oa, none⟩ = some (.int .i64 x0) := a0
  have a1' : w.cell? ⟨ba, oa + 1, none⟩ = some (.int .i64 x1) := a1
  have b0' : w.cell? ⟨bb, ob, none⟩ = some (.int .i64 y0) := b0
  have b1' : w.cell? ⟨bb, ob + 1, none⟩ = some (.int .i64 y1) := b1
  clear a0 a1 b0 b1
  have HSA : Hid (Sl w (.slice (some ⟨ba, oa, none⟩) na ca) ((x0, x1) :: a).toArray) := by
    show Sl _ _ _; have := Sl.of_rd (cap := ca) HA.out (by rw [List.size_toArray, List.length_cons, HNA.out]; omega); rw [show ((x0, x1) :: a).toArray.size = na by rw [List.size_toArray, List.length_cons]; exact HNA.out] at this; exact this
  have HSB : Hid (Sl w (.slice (some ⟨bb, ob, none⟩) nb cb) ((y0, y1) :: b).toArray) := by
    show Sl _ _ _; have := Sl.of_rd (cap := cb) HB.out (by rw [List.size_toArray, List.length_cons, HNB.out]; omega); rw [show ((y0, y1) :: b).toArray.size = nb by rw [List.size_toArray, List.length_cons]; exact HNB.out] at this; exact this
  have HT : Hid (Sl w (.slice (some ⟨ba, oa + 2, none⟩) (na - 1) (ca - 1)) a.toArray) := Sl.tail HA.out HNA.out hca
  go_enter Tryd.func33, Tryd.ntmps33
  go_wp2_with fail
  go_quiet (fail)
  have hq : Below w.heap.size w (w.drewN nq) := below_drewN (Below.refl _ _) nq
  have k0 : (w.drewN nq).cell? ⟨ba, oa, none⟩ = some (.int .i64 x0) := a0'
  have k1 : (w.drewN nq).cell? ⟨ba, oa + 1, none⟩ = some (.int .i64 x1) := a1'
  have hsq : w.heap.size ≤ (w.drewN nq).heap.size := Nat.le_refl _
  clear a0' a1' b0' b1'
  generalize w.drewN nq = wq at hq k0 k1 hsq ⊢
  have hal : Below w.heap.size w (wq.alloc (.cells #[.int .i64 x0, .int .i64 x1] 24)) := hq.alloc hsq _
  go_wp2_with (first | (at_builtin; refine wpList_append_item rfl (.tmp 28) (.tmp 32) rfl w.heap.size (.slice none 0 0) [] (x0, x1) ⟨wq.heap.size, 0, none⟩ 1 rfl (OwnI.nil _ _) rfl (by simp) (by simp [Addr.add]) (by simp) (by simp; omega) ?_; intro v1 w1 hA1 hg1 _; have hb1 : Below w.heap.size w w1 := hal.trans (below_of_grown (OwnI.nil _ _) hg1 (Nat.le_refl _) (by simp; omega)); have HA1 : Hid (OwnI w1 w.heap.size v1 ([] ++ [(x0, x1)])) := hA1; clear hA1 hg1) | (at_builtin; refine wpList_append_sl rfl (.tmp 34) (.tmp 35) rfl w.heap.size v1 _ _ ((y0, y1) :: b).toArray rfl rfl HA1.out (HSB.out.below hb1) (by simp; have h1 := HNA.out; have h2 := HNB.out; omega) hb1.size ?_; intro v2 w2 hA2 hg2; have hb2 : Below w.heap.size w w2 := hb1.trans (below_of_grown HA1.out hg2 (Nat.le_refl _) hb1.size); have HA2 : Hid (OwnI w2 w.heap.size v2 (([] ++ [(x0, x1)]) ++ ((y0, y1) :: b).toArray.toList)) := hA2; clear hA2 hg2) | (at_builtin; refine wpList_append_sl rfl (.tmp 37) (.tmp 39) rfl w.heap.size v2 _ _ a.toArray rfl rfl HA2.out (HT.out.below hb2) (by simp; have h1 := HNA.out; have h2 := HNB.out; omega) hb2.size ?_; intro v3 w3 hA3 hg3; have hb3 : Below w.heap.size w w3 := hb2.trans (below_of_grown HA2.out hg3 (Nat.le_refl _) hb2.size); have HA3 : Hid (OwnI w3 w.heap.size v3 ((([] ++ [(x0, x1)]) ++ ((y0, y1) :: b).toArray.toList) ++ a.toArray.toList)) := hA3; clear hA3 hg3))
  go_ret
  exact ⟨_, rfl, by simpa using HA3.out, hb3⟩
theorem link_any (va vb : Value) (A B : List (Int × Int)) (w : World) (hA : A ≠ []) (hB : B ≠ []) (hla : A.length ≤ 1000) (hlb : B.length ≤ 1000) (ha : Sl w va A.toArray) (hb : Sl w vb B.toArray) :
    Calls Tryd.prog 33 #[va, vb] w fun e w' => ∃ u, e = .returned u ∧ OwnI w' w.heap.size u (linkL A B) ∧ Below w.heap.size w w' := by
  obtain ⟨pa, ca, rfl, hca, h0 | ⟨ba, oa, rfl, hra⟩⟩ := ha
  · simp at h0; exact absurd h0 hA
  obtain ⟨pb, cb, rfl, hcb, h0 | ⟨bb, ob, rfl, hrb⟩⟩ := hb
  · simp at h0; exact absurd h0 hB
  cases A with
  | nil => exact absurd rfl hA
  | cons x a =>
    cases B with
    | nil => exact absurd rfl hB
    | cons y b =>
      obtain ⟨x0, x1⟩ := x
      obtain ⟨y0, y1⟩ := y
      simp only [List.size_toArray, List.length_cons] at hca hcb hla hlb ⊢
      unfold linkL
      by_cases h : y0 < x0
      · simp only [if_pos h]
        by_cases hc : cb = 1
        · exact link_S1 ba oa _ ca bb ob _ cb x0 x1 y0 y1 a b w hla hlb (by omega) (by omega) hc h rfl rfl hca hcb hra hrb
        · exact link_S2 ba oa _ ca bb ob _ cb x0 x1 y0 y1 a b w hla hlb (by omega) (by omega) hc h rfl rfl hca hcb hra hrb
      · simp only [if_neg h]
        by_cases hc : ca = 1
        · exact link_F1 ba oa _ ca bb ob _ cb x0 x1 y0 y1 a b w hla hlb (by omega) (by omega) hc h rfl rfl hca hcb hra hrb
        · exact link_F2 ba oa _ ca bb ob _ cb x0 x1 y0 y1 a b w hla hlb (by omega) (by omega) hc h rfl rfl hca hcb hra hrb
#print axioms link_any
end Go.Proofs.YtmkjalpgeljnkaaDoor
