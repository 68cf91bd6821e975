/-
  bino.linked: one tree of two.
-/
import Derived.Test.YtmkjalpgeljnkaaDoorRefB3
import Derived.Test.YtmkjalpgeljnkaaDoorCopy
namespace Go.Proofs.YtmkjalpgeljnkaaDoor
open Go.RowKit Go.Sort Go.Proofs

set_option maxHeartbeats 4000000 in
theorem linked_S1 (ba oa na ca bb ob nb cb : Nat) (x0 x1 y0 y1 : Int) (a b : List (Int × Int)) (w : World) (ha60 : na ≤ 1000) (hb60 : nb ≤ 1000) (hna : 0 < na) (hnb : 0 < nb) (hone : cb = 1) (hx : y0 < x0) (HNA : Hid (a.length + 1 = na)) (HNB : Hid (b.length + 1 = nb)) (hca : na ≤ ca) (hcb : nb ≤ cb)
    (HA : Hid (RdAt w ba oa ((x0, x1) :: a).toArray)) (HB : Hid (RdAt w bb ob ((y0, y1) :: b).toArray)) :
    Calls Tryd.prog 55 #[.slice (some ⟨ba, oa, none⟩) na ca, .slice (some ⟨bb, ob, none⟩) nb cb] w fun e w' => ∃ u, e = .returned u ∧ OwnI w' w.heap.size u ((y0, y1) :: (((x0, x1) :: a) ++ b)) ∧ Below w.heap.size w w' := by
  subst hone
  obtain rfl : nb = 1 := by omega
  have hzA : (0 : Int) < (na : Int) := by omega
  have hzB : (0 : Int) < (1 : Int) := by omega
  have hz1 : (1 : Int) ≤ (1 : Int) := by omega
  have hw : IntKind.i64.wrap ((1 : Int) + (na : Int)) = (1 : Int) + (na : Int) := by rw [IntKind.wrap_i64]; omega
  have hd : decide (y0 < x0) = true := decide_eq_true hx
  obtain ⟨i0, hi, hi0, hi1, hi2⟩ := info_parts info_item
  obtain ⟨a0, a1⟩ := HA.out.2 0 (by simp)
  obtain ⟨b0, b1⟩ := HB.out.2 0 (by simp)
  simp only [Nat.zero_mul, Nat.add_zero] at a0 a1 b0 b1
  have a0' : w.cell? ⟨ba, oa, none⟩ = some (.int .i64 x0) := a0
  have a1' : w.cell? ⟨ba, oa + 1, none⟩ = some (.int .i64 x1) := a1
  have b0' : w.cell? ⟨bb, ob, none⟩ = some (.int .i64 y0) := b0
  have b1' : w.cell? ⟨bb, ob + 1, none⟩ = some (.int .i64 y1) := b1
  clear a0 a1 b0 b1
  have HSU : Hid (Sl w (.slice (some ⟨ba, oa, none⟩) na ca) ((x0, x1) :: a).toArray) := by
    show Sl _ _ _; have := Sl.of_rd (cap := ca) HA.out (by rw [List.size_toArray, List.length_cons, HNA.out]; omega); rw [show ((x0, x1) :: a).toArray.size = na by rw [List.size_toArray, List.length_cons]; exact HNA.out] at this; exact this
  have HT : Hid (Sl w (.slice (some ⟨bb, ob, none⟩) 0 0) b.toArray) := Sl.empty w _ _ _ b (by have := HNB.out; omega) (by omega)
  go_enter Tryd.func55, Tryd.ntmps55
  go_wp2_with fail
  go_quiet (fail)
  have hq : Below w.heap.size w (w.drewN nq) := below_drewN (Below.refl _ _) nq
  have hltq : bb < (w.drewN nq).heap.size := HB.out.1
  have k0 : (w.drewN nq).cell? ⟨bb, ob, none⟩ = some (.int .i64 y0) := b0'
  have k1 : (w.drewN nq).cell? ⟨bb, ob + 1, none⟩ = some (.int .i64 y1) := b1'
  have hsq : w.heap.size ≤ (w.drewN nq).heap.size := Nat.le_refl _
  clear a0' a1' b0' b1'
  generalize w.drewN nq = wq at hq k0 k1 hsq hltq ⊢
  go_wp2_with (first | (at_make; refine wpList_make_own _ rfl _ (.tmp 25) 35 rfl w.heap.size 24 i0 (.agg #[.int .i64 0, .int .i64 0]) 2 Tryd.underlying35 hi hi0 hi1 .i64 .i64 _ (1 + na) rfl rfl (by omega) (by rw [hi2]; omega) (by unfold maxLen; omega) hsq ?_; intro w0 hown hgr; have hB0 : Below wq.heap.size wq w0 := (Below.refl _ _).grown hgr (Nat.le_refl _) (fun k e => by cases e); have hb0 : Below w.heap.size w w0 := hq.trans (hB0.mono hsq); have hO0 : OwnI w0 w.heap.size (.slice (some ⟨wq.heap.size, 0, none⟩) 0 (1 + na)) [] := hown; have HO0 : Hid (OwnI w0 w.heap.size (.slice (some ⟨wq.heap.size, 0, none⟩) 0 (1 + na)) []) := hO0; have l0 : w0.cell? ⟨bb, ob, none⟩ = some (.int .i64 y0) := (hB0.cell (p := ⟨bb, ob, none⟩) hltq).trans k0; have l1 : w0.cell? ⟨bb, ob + 1, none⟩ = some (.int .i64 y1) := (hB0.cell (p := ⟨bb, ob + 1, none⟩) hltq).trans k1; have hal : Below w.heap.size w (w0.alloc (.cells #[.int .i64 y0, .int .i64 y1] 24)) := hb0.alloc hb0.size _; clear hown hgr hO0 hB0 k0 k1) | (at_builtin; refine wpList_append_item rfl (.tmp 27) (.tmp 31) rfl w.heap.size _ [] (y0, y1) ⟨w0.heap.size, 0, none⟩ 1 rfl (HO0.out.alloc _) rfl (by simp) (by simp [Addr.add]) (by simp) hal.size ?_; intro v1 w1 hA1 hg1 _; have hb1 : Below w.heap.size w w1 := hal.trans (below_of_grown (HO0.out.alloc _) hg1 (Nat.le_refl _) hal.size); have HA1 : Hid (OwnI w1 w.heap.size v1 ([] ++ [(y0, y1)])) := hA1; clear hA1 hg1) | (at_builtin; refine wpList_append_sl rfl (.tmp 33) (.tmp 34) rfl w.heap.size v1 _ _ ((x0, x1) :: a).toArray rfl rfl HA1.out (HSU.out.below hb1) (by simp; have h1 := HNA.out; have h2 := HNB.out; omega) hb1.size ?_; intro v2 w2 hA2 hg2; have hb2 : Below w.heap.size w w2 := hb1.trans (below_of_grown HA1.out hg2 (Nat.le_refl _) hb1.size); have HA2 : Hid (OwnI w2 w.heap.size v2 (([] ++ [(y0, y1)]) ++ ((x0, x1) :: a).toArray.toList)) := hA2; clear hA2 hg2) | (at_builtin; refine wpList_append_sl rfl (.tmp 36) (.tmp 38) rfl w.heap.size v2 _ _ b.toArray rfl rfl HA2.out (HT.out.below hb2) (by simp; have h1 := HNA.out; have h2 := HNB.out; omega) hb2.size ?_; intro v3 w3 hA3 hg3; have hb3 : Below w.heap.size w w3 := hb2.trans (below_of_grown HA2.out hg3 (Nat.le_refl _) hb2.size); have HA3 : Hid (OwnI w3 w.heap.size v3 ((([] ++ [(y0, y1)]) ++ ((x0, x1) :: a).toArray.toList) ++ b.toArray.toList)) := hA3; clear hA3 hg3))
  go_ret
  exact ⟨_, rfl, by simpa using HA3.out, hb3⟩
set_option maxHeartbeats 4000000 in
theorem linked_S2 (ba oa na ca bb ob nb cb : Nat) (x0 x1 y0 y1 : Int) (a b : List (Int × Int)) (w : World) (ha60 : na ≤ 1000) (hb60 : nb ≤ 1000) (hna : 0 < na) (hnb : 0 < nb) (hone : cb ≠ 1) (hx : y0 < x0) (HNA : Hid (a.length + 1 = na)) (HNB : Hid (b.length + 1 = nb)) (hca : na ≤ ca) (hcb : nb ≤ cb)
    (HA : Hid (RdAt w ba oa ((x0, x1) :: a).toArray)) (HB : Hid (RdAt w bb ob ((y0, y1) :: b).toArray)) :
    Calls Tryd.prog 55 #[.slice (some ⟨ba, oa, none⟩) na ca, .slice (some ⟨bb, ob, none⟩) nb cb] w fun e w' => ∃ u, e = .returned u ∧ OwnI w' w.heap.size u ((y0, y1) :: (((x0, x1) :: a) ++ b)) ∧ Below w.heap.size w w' := by
  have hzA : (0 : Int) < (na : Int) := by omega
  have hzB : (0 : Int) < (nb : Int) := by omega
  have hz1 : (1 : Int) ≤ (nb : Int) := by omega
  have hw : IntKind.i64.wrap ((nb : Int) + (na : Int)) = (nb : Int) + (na : Int) := by rw [IntKind.wrap_i64]; omega
  have hd : decide (y0 < x0) = true := decide_eq_true hx
  obtain ⟨i0, hi, hi0, hi1, hi2⟩ := info_parts info_item
  obtain ⟨a0, a1⟩ := HA.out.2 0 (by simp)
  obtain ⟨b0, b1⟩ := HB.out.2 0 (by simp)
  simp only [Nat.zero_mul, Nat.add_zero] at a0 a1 b0 b1
  have a0' : w.cell? ⟨ba, oa, none⟩ = some (.int .i64 x0) := a0
  have a1' : w.cell? ⟨ba, oa + 1, none⟩ = some (.int .i64 x1) := a1
  have b0' : w.cell? ⟨bb, ob, none⟩ = some (.int .i64 y0) := b0
  have b1' : w.cell? ⟨bb, ob + 1, none⟩ = some (.int .i64 y1) := b1
  clear a0 a1 b0 b1
  have HSU : Hid (Sl w (.slice (some ⟨ba, oa, none⟩) na ca) ((x0, x1) :: a).toArray) := by
    show Sl _ _ _; have := Sl.of_rd (cap := ca) HA.out (by rw [List.size_toArray, List.length_cons, HNA.out]; omega); rw [show ((x0, x1) :: a).toArray.size = na by rw [List.size_toArray, List.length_cons]; exact HNA.out] at this; exact this
  have HT : Hid (Sl w (.slice (some ⟨bb, ob + 2, none⟩) (nb - 1) (cb - 1)) b.toArray) := Sl.tail HB.out HNB.out hcb
  go_enter Tryd.func55, Tryd.ntmps55
  go_wp2_with fail
  go_quiet (fail)
  have hq : Below w.heap.size w (w.drewN nq) := below_drewN (Below.refl _ _) nq
  have hltq : bb < (w.drewN nq).heap.size := HB.out.1
  have k0 : (w.drewN nq).cell? ⟨bb, ob, none⟩ = some (.int .i64 y0) := b0'
  have k1 : (w.drewN nq).cell? ⟨bb, ob + 1, none⟩ = some (.int .i64 y1) := b1'
  have hsq : w.heap.size ≤ (w.drewN nq).heap.size := Nat.le_refl _
  clear a0' a1' b0' b1'
  generalize w.drewN nq = wq at hq k0 k1 hsq hltq ⊢
  go_wp2_with (first | (at_make; refine wpList_make_own _ rfl _ (.tmp 25) 35 rfl w.heap.size 24 i0 (.agg #[.int .i64 0, .int .i64 0]) 2 Tryd.underlying35 hi hi0 hi1 .i64 .i64 _ (nb + na) rfl rfl (by omega) (by rw [hi2]; omega) (by unfold maxLen; omega) hsq ?_; intro w0 hown hgr; have hB0 : Below wq.heap.size wq w0 := (Below.refl _ _).grown hgr (Nat.le_refl _) (fun k e => by cases e); have hb0 : Below w.heap.size w w0 := hq.trans (hB0.mono hsq); have hO0 : OwnI w0 w.heap.size (.slice (some ⟨wq.heap.size, 0, none⟩) 0 (nb + na)) [] := hown; have HO0 : Hid (OwnI w0 w.heap.size (.slice (some ⟨wq.heap.size, 0, none⟩) 0 (nb + na)) []) := hO0; have l0 : w0.cell? ⟨bb, ob, none⟩ = some (.int .i64 y0) := (hB0.cell (p := ⟨bb, ob, none⟩) hltq).trans k0; have l1 : w0.cell? ⟨bb, ob + 1, none⟩ = some (.int .i64 y1) := (hB0.cell (p := ⟨bb, ob + 1, none⟩) hltq).trans k1; have hal : Below w.heap.size w (w0.alloc (.cells #[.int .i64 y0, .int .i64 y1] 24)) := hb0.alloc hb0.size _; clear hown hgr hO0 hB0 k0 k1) | (at_builtin; refine wpList_append_item rfl (.tmp 27) (.tmp 31) rfl w.heap.size _ [] (y0, y1) ⟨w0.heap.size, 0, none⟩ 1 rfl (HO0.out.alloc _) rfl (by simp) (by simp [Addr.add]) (by simp) hal.size ?_; intro v1 w1 hA1 hg1 _; have hb1 : Below w.heap.size w w1 := hal.trans (below_of_grown (HO0.out.alloc _) hg1 (Nat.le_refl _) hal.size); have HA1 : Hid (OwnI w1 w.heap.size v1 ([] ++ [(y0, y1)])) := hA1; clear hA1 hg1) | (at_builtin; refine wpList_append_sl rfl (.tmp 33) (.tmp 34) rfl w.heap.size v1 _ _ ((x0, x1) :: a).toArray rfl rfl HA1.out (HSU.out.below hb1) (by simp; have h1 := HNA.out; have h2 := HNB.out; omega) hb1.size ?_; intro v2 w2 hA2 hg2; have hb2 : Below w.heap.size w w2 := hb1.trans (below_of_grown HA1.out hg2 (Nat.le_refl _) hb1.size); have HA2 : Hid (OwnI w2 w.heap.size v2 (([] ++ [(y0, y1)]) ++ ((x0, x1) :: a).toArray.toList)) := hA2; clear hA2 hg2) | (at_builtin; refine wpList_append_sl rfl (.tmp 36) (.tmp 38) rfl w.heap.size v2 _ _ b.toArray rfl rfl HA2.out (HT.out.below hb2) (by simp; have h1 := HNA.out; have h2 := HNB.out; omega) hb2.size ?_; intro v3 w3 hA3 hg3; have hb3 : Below w.heap.size w w3 := hb2.trans (below_of_grown HA2.out hg3 (Nat.le_refl _) hb2.size); have HA3 : Hid (OwnI w3 w.heap.size v3 ((([] ++ [(y0, y1)]) ++ ((x0, x1) :: a).toArray.toList) ++ b.toArray.toList)) := hA3; clear hA3 hg3))
  go_ret
  exact ⟨_, rfl, by simpa using HA3.out, hb3⟩
set_option maxHeartbeats 4000000 in
theorem linked_F1 (ba oa na ca bb ob nb cb : Nat) (x0 x1 y0 y1 : Int) (a b : List (Int × Int)) (w : World) (ha60 : na ≤ 1000) (hb60 : nb ≤ 1000) (hna : 0 < na) (hnb : 0 < nb) (hone : ca = 1) (hx : ¬ y0 < x0) (HNA : Hid (a.length + 1 = na)) (HNB : Hid (b.length + 1 = nb)) (hca : na ≤ ca) (hcb : nb ≤ cb)
    (HA : Hid (RdAt w ba oa ((x0, x1) :: a).toArray)) (HB : Hid (RdAt w bb ob ((y0, y1) :: b).toArray)) :
    Calls Tryd.prog 55 #[.slice (some ⟨ba, oa, none⟩) na ca, .slice (some ⟨bb, ob, none⟩) nb cb] w fun e w' => ∃ u, e = .returned u ∧ OwnI w' w.heap.size u ((x0, x1) :: (((y0, y1) :: b) ++ a)) ∧ Below w.heap.size w w' := by
  subst hone
  obtain rfl : na = 1 := by omega
  have hzA : (0 : Int) < (1 : Int) := by omega
  have hzB : (0 : Int) < (nb : Int) := by omega
  have hz1 : (1 : Int) ≤ (1 : Int) := by omega
  have hw : IntKind.i64.wrap ((1 : Int) + (nb : Int)) = (1 : Int) + (nb : Int) := by rw [IntKind.wrap_i64]; omega
  have hd : decide (y0 < x0) = false := decide_eq_false hx
  obtain ⟨i0, hi, hi0, hi1, hi2⟩ := info_parts info_item
  obtain ⟨a0, a1⟩ := HA.out.2 0 (by simp)
  obtain ⟨b0, b1⟩ := HB.out.2 0 (by simp)
  simp only [Nat.zero_mul, Nat.add_zero] at a0 a1 b0 b1
  have a0' : w.cell? ⟨ba, oa, none⟩ = some (.int .i64 x0) := a0
  have a1' : w.cell? ⟨ba, oa + 1, none⟩ = some (.int .i64 x1) := a1
  have b0' : w.cell? ⟨bb, ob, none⟩ = some (.int .i64 y0) := b0
  have b1' : w.cell? ⟨bb, ob + 1, none⟩ = some (.int .i64 y1) := b1
  clear a0 a1 b0 b1
  have HSU : Hid (Sl w (.slice (some ⟨bb, ob, none⟩) nb cb) ((y0, y1) :: b).toArray) := by
    show Sl _ _ _; have := Sl.of_rd (cap := cb) HB.out (by rw [List.size_toArray, List.length_cons, HNB.out]; omega); rw [show ((y0, y1) :: b).toArray.size = nb by rw [List.size_toArray, List.length_cons]; exact HNB.out] at this; exact this
  have HT : Hid (Sl w (.slice (some ⟨ba, oa, none⟩) 0 0) a.toArray) := Sl.empty w _ _ _ a (by have := HNA.out; omega) (by omega)
  go_enter Tryd.func55, Tryd.ntmps55
  go_wp2_with fail
  go_quiet (fail)
  have hq : Below w.heap.size w (w.drewN nq) := below_drewN (Below.refl _ _) nq
  have hltq : ba < (w.drewN nq).heap.size := HA.out.1
  have k0 : (w.drewN nq).cell? ⟨ba, oa, none⟩ = some (.int .i64 x0) := a0'
  have k1 : (w.drewN nq).cell? ⟨ba, oa + 1, none⟩ = some (.int .i64 x1) := a1'
  have hsq : w.heap.size ≤ (w.drewN nq).heap.size := Nat.le_refl _
  clear a0' a1' b0' b1'
  generalize w.drewN nq = wq at hq k0 k1 hsq hltq ⊢
  go_wp2_with (first | (at_make; refine wpList_make_own _ rfl _ (.tmp 25) 35 rfl w.heap.size 24 i0 (.agg #[.int .i64 0, .int .i64 0]) 2 Tryd.underlying35 hi hi0 hi1 .i64 .i64 _ (1 + nb) rfl rfl (by omega) (by rw [hi2]; omega) (by unfold maxLen; omega) hsq ?_; intro w0 hown hgr; have hB0 : Below wq.heap.size wq w0 := (Below.refl _ _).grown hgr (Nat.le_refl _) (fun k e => by cases e); have hb0 : Below w.heap.size w w0 := hq.trans (hB0.mono hsq); have hO0 : OwnI w0 w.heap.size (.slice (some ⟨wq.heap.size, 0, none⟩) 0 (1 + nb)) [] := hown; have HO0 : Hid (OwnI w0 w.heap.size (.slice (some ⟨wq.heap.size, 0, none⟩) 0 (1 + nb)) []) := hO0; have l0 : w0.cell? ⟨ba, oa, none⟩ = some (.int .i64 x0) := (hB0.cell (p := ⟨ba, oa, none⟩) hltq).trans k0; have l1 : w0.cell? ⟨ba, oa + 1, none⟩ = some (.int .i64 x1) := (hB0.cell (p := ⟨ba, oa + 1, none⟩) hltq).trans k1; have hal : Below w.heap.size w (w0.alloc (.cells #[.int .i64 x0, .int .i64 x1] 24)) := hb0.alloc hb0.size _; clear hown hgr hO0 hB0 k0 k1) | (at_builtin; refine wpList_append_item rfl (.tmp 27) (.tmp 31) rfl w.heap.size _ [] (x0, x1) ⟨w0.heap.size, 0, none⟩ 1 rfl (HO0.out.alloc _) rfl (by simp) (by simp [Addr.add]) (by simp) hal.size ?_; intro v1 w1 hA1 hg1 _; have hb1 : Below w.heap.size w w1 := hal.trans (below_of_grown (HO0.out.alloc _) hg1 (Nat.le_refl _) hal.size); have HA1 : Hid (OwnI w1 w.heap.size v1 ([] ++ [(x0, x1)])) := hA1; clear hA1 hg1) | (at_builtin; refine wpList_append_sl rfl (.tmp 33) (.tmp 34) rfl w.heap.size v1 _ _ ((y0, y1) :: b).toArray rfl rfl HA1.out (HSU.out.below hb1) (by simp; have h1 := HNA.out; have h2 := HNB.out; omega) hb1.size ?_; intro v2 w2 hA2 hg2; have hb2 : Below w.heap.size w w2 := hb1.trans (below_of_grown HA1.out hg2 (Nat.le_refl _) hb1.size); have HA2 : Hid (OwnI w2 w.heap.size v2 (([] ++ [(x0, x1)]) ++ ((y0, y1) :: b).toArray.toList)) := hA2; clear hA2 hg2) | (at_builtin; refine wpList_append_sl rfl (.tmp 36) (.tmp 38) rfl w.heap.size v2 _ _ a.toArray rfl rfl HA2.out (HT.out.below hb2) (by simp; have h1 := HNA.out; have h2 := HNB.out; omega) hb2.size ?_; intro v3 w3 hA3 hg3; have hb3 : Below w.heap.size w w3 := hb2.trans (below_of_grown HA2.out hg3 (Nat.le_refl _) hb2.size); have HA3 : Hid (OwnI w3 w.heap.size v3 ((([] ++ [(x0, x1)]) ++ ((y0, y1) :: b).toArray.toList) ++ a.toArray.toList)) := hA3; clear hA3 hg3))
  go_ret
  exact ⟨_, rfl, by simpa using HA3.out, hb3⟩
set_option maxHeartbeats 4000000 in
theorem linked_F2 (ba oa na ca bb ob nb cb : Nat) (x0 x1 y0 y1 : Int) (a b : List (Int × Int)) (w : World) (ha60 : na ≤ 1000) (hb60 : nb ≤ 1000) (hna : 0 < na) (hnb : 0 < nb) (hone : ca ≠ 1) (hx : ¬ y0 < x0) (HNA : Hid (a.length + 1 = na)) (HNB : Hid (b.length + 1 = nb)) (hca : na ≤ ca) (hcb : nb ≤ cb)
    (HA : Hid (RdAt w ba oa ((x0, x1) :: a).toArray)) (HB : Hid (RdAt w bb ob ((y0, y1) :: b).toArray)) :
    Calls Tryd.prog 55 #[.slice (some ⟨ba, oa, none⟩) na ca, .slice (some ⟨bb, ob, none⟩) nb cb] w fun e w' => ∃ u, e = .returned u ∧ OwnI w' w.heap.size u ((x0, x1) :: (((y0, y1) :: b) ++ a)) ∧ Below w.heap.size w w' := by
  have hzA : (0 : Int) < (na : Int) := by omega
  have hzB : (0 : Int) < (nb : Int) := by omega
  have hz1 : (1 : Int) ≤ (na : Int) := by omega
  have hw : IntKind.i64.wrap ((na : Int) + (nb : Int)) = (na : Int) + (nb : Int) := by rw [IntKind.wrap_i64]; omega
  have hd : decide (y0 < x0) = false := decide_eq_false hx
  obtain ⟨i0, hi, hi0, hi1, hi2⟩ := info_parts info_item
  obtain ⟨a0, a1⟩ := HA.out.2 0 (by simp)
  obtain ⟨b0, b1⟩ := HB.out.2 0 (by simp)
  simp only [Nat.zero_mul, Nat.add_zero] at a0 a1 b0 b1
  have a0' : w.cell? ⟨ba, oa, none⟩ = some (.int .i64 x0) := a0
  have a1' : w.cell? ⟨ba, oa + 1, none⟩ = some (.int .i64 x1) := a1
  have b0' : w.cell? ⟨bb, ob, none⟩ = some (.int .i64 y0) := b0
  have b1' : w.cell? ⟨bb, ob + 1, none⟩ = some (.int .i64 y1) := b1
  clear a0 a1 b0 b1
  have HSU : Hid (Sl w (.slice (some ⟨bb, ob, none⟩) nb cb) ((y0, y1) :: b).toArray) := by
    show Sl _ _ _; have := Sl.of_rd (cap := cb) HB.out (by rw [List.size_toArray, List.length_cons, HNB.out]; omega); rw [show ((y0, y1) :: b).toArray.size = nb by rw [List.size_toArray, List.length_cons]; exact HNB.out] at this; exact this
  have HT : Hid (Sl w (.slice (some ⟨ba, oa + 2, none⟩) (na - 1) (ca - 1)) a.toArray) := Sl.tail HA.out HNA.out hca
  go_enter Tryd.func55, Tryd.ntmps55
  go_wp2_with fail
  go_quiet (fail)
  have hq : Below w.heap.size w (w.drewN nq) := below_drewN (Below.refl _ _) nq
  have hltq : ba < (w.drewN nq).heap.size := HA.out.1
  have k0 : (w.drewN nq).cell? ⟨ba, oa, none⟩ = some (.int .i64 x0) := a0'
  have k1 : (w.drewN nq).cell? ⟨ba, oa + 1, none⟩ = some (.int .i64 x1) := a1'
  have hsq : w.heap.size ≤ (w.drewN nq).heap.size := Nat.le_refl _
  clear a0' a1' b0' b1'
  generalize w.drewN nq = wq at hq k0 k1 hsq hltq ⊢
  go_wp2_with (first | (at_make; refine wpList_make_own _ rfl _ (.tmp 25) 35 rfl w.heap.size 24 i0 (.agg #[.int .i64 0, .int .i64 0]) 2 Tryd.underlying35 hi hi0 hi1 .i64 .i64 _ (na + nb) rfl rfl (by omega) (by rw [hi2]; omega) (by unfold maxLen; omega) hsq ?_; intro w0 hown hgr; have hB0 : Below wq.heap.size wq w0 := (Below.refl _ _).grown hgr (Nat.le_refl _) (fun k e => by cases e); have hb0 : Below w.heap.size w w0 := hq.trans (hB0.mono hsq); have hO0 : OwnI w0 w.heap.size (.slice (some ⟨wq.heap.size, 0, none⟩) 0 (na + nb)) [] := hown; have HO0 : Hid (OwnI w0 w.heap.size (.slice (some ⟨wq.heap.size, 0, none⟩) 0 (na + nb)) []) := hO0; have l0 : w0.cell? ⟨ba, oa, none⟩ = some (.int .i64 x0) := (hB0.cell (p := ⟨ba, oa, none⟩) hltq).trans k0; have l1 : w0.cell? ⟨ba, oa + 1, none⟩ = some (.int .i64 x1) := (hB0.cell (p := ⟨ba, oa + 1, none⟩) hltq).trans k1; have hal : Below w.heap.size w (w0.alloc (.cells #[.int .i64 x0, .int .i64 x1] 24)) := hb0.alloc hb0.size _; clear hown hgr hO0 hB0 k0 k1) | (at_builtin; refine wpList_append_item rfl (.tmp 27) (.tmp 31) rfl w.heap.size _ [] (x0, x1) ⟨w0.heap.size, 0, none⟩ 1 rfl (HO0.out.alloc _) rfl (by simp) (by simp [Addr.add]) (by simp) hal.size ?_; intro v1 w1 hA1 hg1 _; have hb1 : Below w.heap.size w w1 := hal.trans (below_of_grown (HO0.out.alloc _) hg1 (Nat.le_refl _) hal.size); have HA1 : Hid (OwnI w1 w.heap.size v1 ([] ++ [(x0, x1)])) := hA1; clear hA1 hg1) | (at_builtin; refine wpList_append_sl rfl (.tmp 33) (.tmp 34) rfl w.heap.size v1 _ _ ((y0, y1) :: b).toArray rfl rfl HA1.out (HSU.out.below hb1) (by simp; have h1 := HNA.out; have h2 := HNB.out; omega) hb1.size ?_; intro v2 w2 hA2 hg2; have hb2 : Below w.heap.size w w2 := hb1.trans (below_of_grown HA1.out hg2 (Nat.le_refl _) hb1.size); have HA2 : Hid (OwnI w2 w.heap.size v2 (([] ++ [(x0, x1)]) ++ ((y0, y1) :: b).toArray.toList)) := hA2; clear hA2 hg2) | (at_builtin; refine wpList_append_sl rfl (.tmp 36) (.tmp 38) rfl w.heap.size v2 _ _ a.toArray rfl rfl HA2.out (HT.out.below hb2) (by simp; have h1 := HNA.out; have h2 := HNB.out; omega) hb2.size ?_; intro v3 w3 hA3 hg3; have hb3 : Below w.heap.size w w3 := hb2.trans (below_of_grown HA2.out hg3 (Nat.le_refl _) hb2.size); have HA3 : Hid (OwnI w3 w.heap.size v3 ((([] ++ [(x0, x1)]) ++ ((y0, y1) :: b).toArray.toList) ++ a.toArray.toList)) := hA3; clear hA3 hg3))
  go_ret
  exact ⟨_, rfl, by simpa using HA3.out, hb3⟩
theorem linked_any (va vb : Value) (a b : List (Int × Int)) (w : World) (ha : Sl w va a.toArray) (hb : Sl w vb b.toArray) (na : a ≠ []) (nb : b ≠ []) (la : a.length ≤ 1000) (lb : b.length ≤ 1000) :
    Calls Tryd.prog 55 #[va, vb] w fun e w' => ∃ u, e = .returned u ∧ OwnI w' w.heap.size u (linkL a b) ∧ Below w.heap.size w w' := by
  obtain ⟨⟨x0, x1⟩, a, rfl⟩ := List.exists_cons_of_ne_nil na
  obtain ⟨⟨y0, y1⟩, b, rfl⟩ := List.exists_cons_of_ne_nil nb
  obtain ⟨pa, ca, rfl, hca, h0 | ⟨ba, oa, rfl, hra⟩⟩ := ha
  · simp at h0
  obtain ⟨pb, cb, rfl, hcb, h0 | ⟨bb, ob, rfl, hrb⟩⟩ := hb
  · simp at h0
  simp only [List.size_toArray] at hca hcb ⊢
  unfold linkL
  by_cases hx : y0 < x0
  · simp only [if_pos hx]
    by_cases h1 : cb = 1
    · exact linked_S1 ba oa _ ca bb ob _ cb x0 x1 y0 y1 a b w la lb (by simp) (by simp) h1 hx rfl rfl hca hcb hra hrb
    · exact linked_S2 ba oa _ ca bb ob _ cb x0 x1 y0 y1 a b w la lb (by simp) (by simp) h1 hx rfl rfl hca hcb hra hrb
  · simp only [if_neg hx]
    by_cases h1 : ca = 1
    · exact linked_F1 ba oa _ ca bb ob _ cb x0 x1 y0 y1 a b w la lb (by simp) (by simp) h1 hx rfl rfl hca hcb hra hrb
    · exact linked_F2 ba oa _ ca bb ob _ cb x0 x1 y0 y1 a b w la lb (by simp) (by simp) h1 hx rfl rfl hca hcb hra hrb
#print axioms linked_any
end Go.Proofs.YtmkjalpgeljnkaaDoor
