/-
  Texts that the proof leans on, packed: RefB3, RefB4, Wr, RefB5, RefB6, Ref1.
-/
import Derived.Test.YtmkjalpgeljnkaaDoorPack1
import Derived.Deep.RegionHeld3

/-
  The document's heaps of trees: the size; two trees linked.
-/
namespace Go.Proofs.YtmkjalpgeljnkaaDoor
open Go.RowKit Go.Sort Go.Proofs

/-- How many items there are in all. -/
def sizeZ (h : List (Int × List (Int × Int))) : Nat := (h.map fun t => t.2.length).sum
theorem sizeZ_take_succ {h : List (Int × List (Int × Int))} {i : Nat} {r : Int} {l : List (Int × Int)} (hi : h[i]? = some (r, l)) : sizeZ (h.take (i + 1)) = sizeZ (h.take i) + l.length := by
  obtain ⟨hlt, e⟩ := List.getElem?_eq_some_iff.1 hi
  unfold sizeZ
  rw [List.take_succ_eq_append_getElem hlt, List.map_append, List.sum_append, e]
  simp
theorem sizeZ_take_le (h : List (Int × List (Int × Int))) (i : Nat) : sizeZ (h.take i) ≤ sizeZ h := by
  have e : sizeZ h = sizeZ (h.take i) + sizeZ (h.drop i) := by
    unfold sizeZ
    rw [← List.sum_append, ← List.map_append, List.take_append_drop]
  omega
set_option maxHeartbeats 2000000 in
theorem size_any (p : Option Addr) (n cap : Nat) (h : List (Int × List (Int × Int))) (w : World) (hs : sizeZ h ≤ 1000) (hn : n ≤ 1000) (HN : Hid (h.length = n)) (HH : Hid (HpAt w (.slice p n cap) h)) :
    Calls Tryd.prog 10 #[.slice p n cap] w fun e w' => e = .returned (.int .i64 (sizeZ h : Nat)) ∧ w' = w := by
  go_enter Tryd.func10, Tryd.ntmps10
  go_wp2
  go_loopg [3, 4] n (fun g vn vi wr => ∃ i m : Nat, vi = .int .i64 i ∧ vn = .int .i64 m ∧ i ≤ n ∧ n - i ≤ g ∧ m ≤ 1000 ∧ Hid (m = sizeZ (h.take i)) ∧ Hid (w = wr))
  case atStart => exact ⟨0, 0, rfl, rfl, Nat.zero_le _, by omega, by omega, (show _ = _ by simp [sizeZ]), rfl⟩
  case round =>
    obtain ⟨i, m, rfl, rfl, hin, hg, hm, HM, HW⟩ := hrel
    by_cases hlt : i < n
    · have hlz : (i : Int) < (n : Int) := by omega
      obtain ⟨⟨r, l⟩, hx⟩ : ∃ x, h[i]? = some x := ⟨h[i]'(by rw [HN.out]; omega), by simp⟩
      obtain ⟨blk, off, q, c, rfl, hb, c0, c1, _⟩ := HH.out.tree hx
      rw [HW.out] at c0 c1
      have HM' : Hid (m + l.length = sizeZ (h.take (i + 1))) := by show _ = _; rw [sizeZ_take_succ hx, HM.out]
      have hml : m + l.length ≤ 1000 := by rw [HM'.out]; exact Nat.le_trans (sizeZ_take_le h _) hs
      generalize l.length = len at *
      have hw1 : IntKind.i64.wrap ((m : Int) + (len : Int)) = (m : Int) + (len : Int) := by rw [IntKind.wrap_i64]; omega
      clear hx HM
      go_wp2
      go_roundg (n - (i + 1))
      case measure => omega
      case rel => exact ⟨i + 1, m + len, by go_num, by go_num, by omega, Nat.le_refl _, hml, HM', HW⟩
    · have hlz : ¬ (i : Int) < (n : Int) := by omega
      have HE : Hid (m = sizeZ h) := by show _ = _; rw [HM.out, List.take_of_length_le (by rw [HN.out]; omega)]
      go_wp2
      go_ret
      exact ⟨by rw [← HE.out]; rfl, HW.out.symm⟩
#print axioms size_any
end Go.Proofs.YtmkjalpgeljnkaaDoor

/-
  The document's heaps of trees: two trees linked.
-/
namespace Go.Proofs.YtmkjalpgeljnkaaDoor
open Go.RowKit Go.Sort Go.Proofs

set_option maxHeartbeats 4000000 in
theorem link_S1 (ba oa na ca bb ob nb cb : Nat) (x0 x1 y0 y1 : Int) (a b : List (Int × Int)) (w : World) (ha60 : na ≤ 1000) (hb60 : nb ≤ 1000) (hna : 0 < na) (hnb : 0 < nb) (hone : cb = 1) (hx : y0 < x0) (HNA : Hid (a.length + 1 = na)) (HNB : Hid (b.length + 1 = nb)) (hca : na ≤ ca) (hcb : nb ≤ cb)
    (HA : Hid (RdAt w ba oa ((x0, x1) :: a).toArray)) (HB : Hid (RdAt w bb ob ((y0, y1) :: b).toArray)) :
    Calls Tryd.prog 33 #[.slice (some ⟨ba, oa, none⟩) na ca, .slice (some ⟨bb, ob, none⟩) nb cb] w fun e w' => ∃ u, e = .returned u ∧ OwnI w' w.heap.size u ((y0, y1) :: (((x0, x1) :: a) ++ b)) ∧ Below w.heap.size w w' := by
  subst hone
  obtain rfl : nb = 1 := by omega
  have hzA : (0 : Int) < (na : Int) := by omega
  have hzB : (0 : Int) < (1 : Int) := by omega
  have hz1 : (1 : Int) ≤ (1 : Int) := by omega
  have hd : decide (y0 < x0) = true := decide_eq_true hx
  obtain ⟨a0, a1⟩ := HA.out.2 0 (by simp)
  obtain ⟨b0, b1⟩ := HB.out.2 0 (by simp)
  simp only [Nat.zero_mul, Nat.add_zero] at a0 a1 b0 b1
  have a0' : w.cell? ⟨ba, oa, none⟩ = some (.int .i64 x0) := a0
  have a1' : w.cell? ⟨ba, oa + 1, none⟩ = some (.int .i64 x1) := a1
  have b0' : w.cell? ⟨bb, ob, none⟩ = some (.int .i64 y0) := b0
  have b1' : w.cell? ⟨bb, ob + 1, none⟩ = some (.int .i64 y1) := b1
  clear a0 a1 b0 b1
  have HSA : Hid (Sl w (.slice (some ⟨ba, oa, none⟩) na ca) ((x0, x1) :: a).toArray) := by
    show Sl _ _ _; have := Sl.of_rd (cap := ca) HA.out (by rw [List.size_toArray, List.length_cons, HNA.out]; omega); rw [show ((x0, x1) :: a).toArray.size = na by rw [List.size_toArray, List.length_cons]; exact HNA.out] at this; exact this
  have HSB : Hid (Sl w (.slice (some ⟨bb, ob, none⟩) 1 1) ((y0, y1) :: b).toArray) := by
    show Sl _ _ _; have := Sl.of_rd (cap := 1) HB.out (by rw [List.size_toArray, List.length_cons, HNB.out]; omega); rw [show ((y0, y1) :: b).toArray.size = 1 by rw [List.size_toArray, List.length_cons]; exact HNB.out] at this; exact this
  have HT : Hid (Sl w (.slice (some ⟨bb, ob, none⟩) 0 0) b.toArray) := Sl.empty w _ _ _ b (by have := HNB.out; omega) (by omega)
  go_enter Tryd.func33, Tryd.ntmps33
  go_wp2_with fail
  go_quiet (fail)
  have hq : Below w.heap.size w (w.drewN nq) := below_drewN (Below.refl _ _) nq
  have k0 : (w.drewN nq).cell? ⟨bb, ob, none⟩ = some (.int .i64 y0) := b0'
  have k1 : (w.drewN nq).cell? ⟨bb, ob + 1, none⟩ = some (.int .i64 y1) := b1'
  have hsq : w.heap.size ≤ (w.drewN nq).heap.size := Nat.le_refl _
  clear a0' a1' b0' b1'
  generalize w.drewN nq = wq at hq k0 k1 hsq ⊢
  have hal : Below w.heap.size w (wq.alloc (.cells #[.int .i64 y0, .int .i64 y1] 24)) := hq.alloc hsq _
  go_wp2_with (first | (at_builtin; refine wpList_append_item rfl (.tmp 15) (.tmp 19) rfl w.heap.size (.slice none 0 0) [] (y0, y1) ⟨wq.heap.size, 0, none⟩ 1 rfl (OwnI.nil _ _) rfl (by simp) (by simp [Addr.add]) (by simp) (by simp; omega) ?_; intro v1 w1 hA1 hg1 _; have hb1 : Below w.heap.size w w1 := hal.trans (below_of_grown (OwnI.nil _ _) hg1 (Nat.le_refl _) (by simp; omega)); have HA1 : Hid (OwnI w1 w.heap.size v1 ([] ++ [(y0, y1)])) := hA1; clear hA1 hg1) | (at_builtin; refine wpList_append_sl rfl (.tmp 21) (.tmp 22) rfl w.heap.size v1 _ _ ((x0, x1) :: a).toArray rfl rfl HA1.out (HSA.out.below hb1) (by simp; have h1 := HNA.out; have h2 := HNB.out; omega) hb1.size ?_; intro v2 w2 hA2 hg2; have hb2 : Below w.heap.size w w2 := hb1.trans (below_of_grown HA1.out hg2 (Nat.le_refl _) hb1.size); have HA2 : Hid (OwnI w2 w.heap.size v2 (([] ++ [(y0, y1)]) ++ ((x0, x1) :: a).toArray.toList)) := hA2; clear hA2 hg2) | (at_builtin; refine wpList_append_sl rfl (.tmp 24) (.tmp 26) rfl w.heap.size v2 _ _ b.toArray rfl rfl HA2.out (HT.out.below hb2) (by simp; have h1 := HNA.out; have h2 := HNB.out; omega) hb2.size ?_; intro v3 w3 hA3 hg3; have hb3 : Below w.heap.size w w3 := hb2.trans (below_of_grown HA2.out hg3 (Nat.le_refl _) hb2.size); have HA3 : Hid (OwnI w3 w.heap.size v3 ((([] ++ [(y0, y1)]) ++ ((x0, x1) :: a).toArray.toList) ++ b.toArray.toList)) := hA3; clear hA3 hg3))
  go_ret
  exact ⟨_, rfl, by simpa using HA3.out, hb3⟩
set_option maxHeartbeats 4000000 in
theorem link_S2 (ba oa na ca bb ob nb cb : Nat) (x0 x1 y0 y1 : Int) (a b : List (Int × Int)) (w : World) (ha60 : na ≤ 1000) (hb60 : nb ≤ 1000) (hna : 0 < na) (hnb : 0 < nb) (hone : cb ≠ 1) (hx : y0 < x0) (HNA : Hid (a.length + 1 = na)) (HNB : Hid (b.length + 1 = nb)) (hca : na ≤ ca) (hcb : nb ≤ cb)
    (HA : Hid (RdAt w ba oa ((x0, x1) :: a).toArray)) (HB : Hid (RdAt w bb ob ((y0, y1) :: b).toArray)) :
    Calls Tryd.prog 33 #[.slice (some ⟨ba, oa, none⟩) na ca, .slice (some ⟨bb, ob, none⟩) nb cb] w fun e w' => ∃ u, e = .returned u ∧ OwnI w' w.heap.size u ((y0, y1) :: (((x0, x1) :: a) ++ b)) ∧ Below w.heap.size w w' := by
  have hzA : (0 : Int) < (na : Int) := by omega
  have hzB : (0 : Int) < (nb : Int) := by omega
  have hz1 : (1 : Int) ≤ (nb : Int) := by omega
  have hd : decide (y0 < x0) = true := decide_eq_true hx
  obtain ⟨a0, a1⟩ := HA.out.2 0 (by simp)
  obtain ⟨b0, b1⟩ := HB.out.2 0 (by simp)
  simp only [Nat.zero_mul, Nat.add_zero] at a0 a1 b0 b1
  have a0' : w.cell? ⟨ba, oa, none⟩ = some (.int .i64 x0) := a0
  have a1' : w.cell? ⟨ba, oa + 1, none⟩ = some (.int .i64 x1) := a1
  have b0' : w.cell? ⟨bb, ob, none⟩ = some (.int .i64 y0) := b0
  have b1' : w.cell? ⟨bb, ob + 1, none⟩ = some (.int .i64 y1) := b1
  clear a0 a1 b0 b1
  have HSA : Hid (Sl w (.slice (some ⟨ba, oa, none⟩) na ca) ((x0, x1) :: a).toArray) := by
    show Sl _ _ _; have := Sl.of_rd (cap := ca) HA.out (by rw [List.size_toArray, List.length_cons, HNA.out]; omega); rw [show ((x0, x1) :: a).toArray.size = na by rw [List.size_toArray, List.length_cons]; exact HNA.out] at this; exact this
  have HSB : Hid (Sl w (.slice (some ⟨bb, ob, none⟩) nb cb) ((y0, y1) :: b).toArray) := by
    show Sl _ _ _; have := Sl.of_rd (cap := cb) HB.out (by rw [List.size_toArray, List.length_cons, HNB.out]; omega); rw [show ((y0, y1) :: b).toArray.size = nb by rw [List.size_toArray, List.length_cons]; exact HNB.out] at this; exact this
  have HT : Hid (Sl w (.slice (some ⟨bb, ob + 2, none⟩) (nb - 1) (cb - 1)) b.toArray) := Sl.tail HB.out HNB.out hcb
  go_enter Tryd.func33, Tryd.ntmps33
  go_wp2_with fail
  go_quiet (fail)
  have hq : Below w.heap.size w (w.drewN nq) := below_drewN (Below.refl _ _) nq
  have k0 : (w.drewN nq).cell? ⟨bb, ob, none⟩ = some (.int .i64 y0) := b0'
  have k1 : (w.drewN nq).cell? ⟨bb, ob + 1, none⟩ = some (.int .i64 y1) := b1'
  have hsq : w.heap.size ≤ (w.drewN nq).heap.size := Nat.le_refl _
  clear a0' a1' b0' b1'
  generalize w.drewN nq = wq at hq k0 k1 hsq ⊢
  have hal : Below w.heap.size w (wq.alloc (.cells #[.int .i64 y0, .int .i64 y1] 24)) := hq.alloc hsq _
  go_wp2_with (first | (at_builtin; refine wpList_append_item rfl (.tmp 15) (.tmp 19) rfl w.heap.size (.slice none 0 0) [] (y0, y1) ⟨wq.heap.size, 0, none⟩ 1 rfl (OwnI.nil _ _) rfl (by simp) (by simp [Addr.add]) (by simp) (by simp; omega) ?_; intro v1 w1 hA1 hg1 _; have hb1 : Below w.heap.size w w1 := hal.trans (below_of_grown (OwnI.nil _ _) hg1 (Nat.le_refl _) (by simp; omega)); have HA1 : Hid (OwnI w1 w.heap.size v1 ([] ++ [(y0, y1)])) := hA1; clear hA1 hg1) | (at_builtin; refine wpList_append_sl rfl (.tmp 21) (.tmp 22) rfl w.heap.size v1 _ _ ((x0, x1) :: a).toArray rfl rfl HA1.out (HSA.out.below hb1) (by simp; have h1 := HNA.out; have h2 := HNB.out; omega) hb1.size ?_; intro v2 w2 hA2 hg2; have hb2 : Below w.heap.size w w2 := hb1.trans (below_of_grown HA1.out hg2 (Nat.le_refl _) hb1.size); have HA2 : Hid (OwnI w2 w.heap.size v2 (([] ++ [(y0, y1)]) ++ ((x0, x1) :: a).toArray.toList)) := hA2; clear hA2 hg2) | (at_builtin; refine wpList_append_sl rfl (.tmp 24) (.tmp 26) rfl w.heap.size v2 _ _ b.toArray rfl rfl HA2.out (HT.out.below hb2) (by simp; have h1 := HNA.out; have h2 := HNB.out; omega) hb2.size ?_; intro v3 w3 hA3 hg3; have hb3 : Below w.heap.size w w3 := hb2.trans (below_of_grown HA2.out hg3 (Nat.le_refl _) hb2.size); have HA3 : Hid (OwnI w3 w.heap.size v3 ((([] ++ [(y0, y1)]) ++ ((x0, x1) :: a).toArray.toList) ++ b.toArray.toList)) := hA3; clear hA3 hg3))
  go_ret
  exact ⟨_, rfl, by simpa using HA3.out, hb3⟩
set_option maxHeartbeats 4000000 in
theorem link_F1 (ba oa na ca bb ob nb cb : Nat) (x0 x1 y0 y1 : Int) (a b : List (Int × Int)) (w : World) (ha60 : na ≤ 1000) (hb60 : nb ≤ 1000) (hna : 0 < na) (hnb : 0 < nb) (hone : ca = 1) (hx : ¬ y0 < x0) (HNA : Hid (a.length + 1 = na)) (HNB : Hid (b.length + 1 = nb)) (hca : na ≤ ca) (hcb : nb ≤ cb)
    (HA : Hid (RdAt w ba oa ((x0, x1) :: a).toArray)) (HB : Hid (RdAt w bb ob ((y0, y1) :: b).toArray)) :
    Calls Tryd.prog 33 #[.slice (some ⟨ba, oa, none⟩) na ca, .slice (some ⟨bb, ob, none⟩) nb cb] w fun e w' => ∃ u, e = .returned u ∧ OwnI w' w.heap.size u ((x0, x1) :: (((y0, y1) :: b) ++ a)) ∧ Below w.heap.size w w' := by
  subst hone
  obtain rfl : na = 1 := by omega
  have hzA : (0 : Int) < (1 : Int) := by omega
  have hzB : (0 : Int) < (nb : Int) := by omega
  have hz1 : (1 : Int) ≤ (1 : Int) := by omega
  have hd : decide (y0 < x0) = false := decide_eq_false hx
  obtain ⟨a0, a1⟩ := HA.out.2 0 (by simp)
  obtain ⟨b0, b1⟩ := HB.out.2 0 (by simp)
  simp only [Nat.zero_mul, Nat.add_zero] at a0 a1 b0 b1
  have a0' : w.cell? ⟨ba, oa, none⟩ = some (.int .i64 x0) := a0
  have a1' : w.cell? ⟨ba, oa + 1, none⟩ = some (.int .i64 x1) := a1
  have b0' : w.cell? ⟨bb, ob, none⟩ = some (.int .i64 y0) := b0
  have b1' : w.cell? ⟨bb, ob + 1, none⟩ = some (.int .i64 y1) := b1
  clear a0 a1 b0 b1
  have HSA : Hid (Sl w (.slice (some ⟨ba, oa, none⟩) 1 1) ((x0, x1) :: a).toArray) := by
    show Sl _ _ _; have := Sl.of_rd (cap := 1) HA.out (by rw [List.size_toArray, List.length_cons, HNA.out]; omega); rw [show ((x0, x1) :: a).toArray.size = 1 by rw [List.size_toArray, List.length_cons]; exact HNA.out] at this; exact this
  have HSB : Hid (Sl w (.slice (some ⟨bb, ob, none⟩) nb cb) ((y0, y1) :: b).toArray) := by
    show Sl _ _ _; have := Sl.of_rd (cap := cb) HB.out (by rw [List.size_toArray, List.length_cons, HNB.out]; omega); rw [show ((y0, y1) :: b).toArray.size = nb by rw [List.size_toArray, List.length_cons]; exact HNB.out] at this; exact this
  have HT : Hid (Sl w (.slice (some ⟨ba, oa, none⟩) 0 0) a.toArray) := Sl.empty w _ _ _ a (by have := HNA.out; omega) (by omega)
  go_enter Tryd.func33, Tryd.ntmps33
  go_wp2_with fail
  go_quiet (fail)
  have hq : Below w.heap.size w (w.drewN nq) := below_drewN (Below.refl _ _) nq
  have k0 : (w.drewN nq).cell? ⟨ba, oa, none⟩ = some (.int .i64 x0) := a0'
  have k1 : (w.drewN nq).cell? ⟨ba, oa + 1, none⟩ = some (.int .i64 x1) := a1'
  have hsq : w.heap.size ≤ (w.drewN nq).heap.size := Nat.le_refl _
  clear a0' a1' b0' b1'
  generalize w.drewN nq = wq at hq k0 k1 hsq ⊢
  have hal : Below w.heap.size w (wq.alloc (.cells #[.int .i64 x0, .int .i64 x1] 24)) := hq.alloc hsq _
  go_wp2_with (first | (at_builtin; refine wpList_append_item rfl (.tmp 28) (.tmp 32) rfl w.heap.size (.slice none 0 0) [] (x0, x1) ⟨wq.heap.size, 0, none⟩ 1 rfl (OwnI.nil _ _) rfl (by simp) (by simp [Addr.add]) (by simp) (by simp; omega) ?_; intro v1 w1 hA1 hg1 _; have hb1 : Below w.heap.size w w1 := hal.trans (below_of_grown (OwnI.nil _ _) hg1 (Nat.le_refl _) (by simp; omega)); have HA1 : Hid (OwnI w1 w.heap.size v1 ([] ++ [(x0, x1)])) := hA1; clear hA1 hg1) | (at_builtin; refine wpList_append_sl rfl (.tmp 34) (.tmp 35) rfl w.heap.size v1 _ _ ((y0, y1) :: b).toArray rfl rfl HA1.out (HSB.out.below hb1) (by simp; have h1 := HNA.out; have h2 := HNB.out; omega) hb1.size ?_; intro v2 w2 hA2 hg2; have hb2 : Below w.heap.size w w2 := hb1.trans (below_of_grown HA1.out hg2 (Nat.le_refl _) hb1.size); have HA2 : Hid (OwnI w2 w.heap.size v2 (([] ++ [(x0, x1)]) ++ ((y0, y1) :: b).toArray.toList)) := hA2; clear hA2 hg2) | (at_builtin; refine wpList_append_sl rfl (.tmp 37) (.tmp 39) rfl w.heap.size v2 _ _ a.toArray rfl rfl HA2.out (HT.out.below hb2) (by simp; have h1 := HNA.out; have h2 := HNB.out; omega) hb2.size ?_; intro v3 w3 hA3 hg3; have hb3 : Below w.heap.size w w3 := hb2.trans (below_of_grown HA2.out hg3 (Nat.le_refl _) hb2.size); have HA3 : Hid (OwnI w3 w.heap.size v3 ((([] ++ [(x0, x1)]) ++ ((y0, y1) :: b).toArray.toList) ++ a.toArray.toList)) := hA3; clear hA3 hg3))
  go_ret
  exact ⟨_, rfl, by simpa using HA3.out, hb3⟩
set_option maxHeartbeats 4000000 in
theorem link_F2 (ba oa na ca bb ob nb cb : Nat) (x0 x1 y0 y1 : Int) (a b : List (Int × Int)) (w : World) (ha60 : na ≤ 1000) (hb60 : nb ≤ 1000) (hna : 0 < na) (hnb : 0 < nb) (hone : ca ≠ 1) (hx : ¬ y0 < x0) (HNA : Hid (a.length + 1 = na)) (HNB : Hid (b.length + 1 = nb)) (hca : na ≤ ca) (hcb : nb ≤ cb)
    (HA : Hid (RdAt w ba oa ((x0, x1) :: a).toArray)) (HB : Hid (RdAt w bb ob ((y0, y1) :: b).toArray)) :
    Calls Tryd.prog 33 #[.slice (some ⟨ba, oa, none⟩) na ca, .slice (some ⟨bb, ob, none⟩) nb cb] w fun e w' => ∃ u, e = .returned u ∧ OwnI w' w.heap.size u ((x0, x1) :: (((y0, y1) :: b) ++ a)) ∧ Below w.heap.size w w' := by
  have hzA : (0 : Int) < (na : Int) := by omega
  have hzB : (0 : Int) < (nb : Int) := by omega
  have hz1 : (1 : Int) ≤ (na : Int) := by omega
  have hd : decide (y0 < x0) = false := decide_eq_false hx
  obtain ⟨a0, a1⟩ := HA.out.2 0 (by simp)
  obtain ⟨b0, b1⟩ := HB.out.2 0 (by simp)
  simp only [Nat.zero_mul, Nat.add_zero] at a0 a1 b0 b1
  have a0' : w.cell? ⟨ba, oa, none⟩ = some (.int .i64 x0) := a0
  have a1' : w.cell? ⟨ba, oa + 1, none⟩ = some (.int .i64 x1) := a1
  have b0' : w.cell? ⟨bb, ob, none⟩ = some (.int .i64 y0) := b0
  have b1' : w.cell? ⟨bb, ob + 1, none⟩ = some (.int .i64 y1) := b1
  clear a0 a1 b0 b1
  have HSA : Hid (Sl w (.slice (some ⟨ba, oa, none⟩) na ca) ((x0, x1) :: a).toArray) := by
    show Sl _ _ _; have := Sl.of_rd (cap := ca) HA.out (by rw [List.size_toArray, List.length_cons, HNA.out]; omega); rw [show ((x0, x1) :: a).toArray.size = na by rw [List.size_toArray, List.length_cons]; exact HNA.out] at this; exact this
  have HSB : Hid (Sl w (.slice (some ⟨bb, ob, none⟩) nb cb) ((y0, y1) :: b).toArray) := by
    show Sl _ _ _; have := Sl.of_rd (cap := cb) HB.out (by rw [List.size_toArray, List.length_cons, HNB.out]; omega); rw [show ((y0, y1) :: b).toArray.size = nb by rw [List.size_toArray, List.length_cons]; exact HNB.out] at this; exact this
  have HT : Hid (Sl w (.slice (some ⟨ba, oa + 2, none⟩) (na - 1) (ca - 1)) a.toArray) := Sl.tail HA.out HNA.out hca
  go_enter Tryd.func33, Tryd.ntmps33
  go_wp2_with fail
  go_quiet (fail)
  have hq : Below w.heap.size w (w.drewN nq) := below_drewN (Below.refl _ _) nq
  have k0 : (w.drewN nq).cell? ⟨ba, oa, none⟩ = some (.int .i64 x0) := a0'
  have k1 : (w.drewN nq).cell? ⟨ba, oa + 1, none⟩ = some (.int .i64 x1) := a1'
  have hsq : w.heap.size ≤ (w.drewN nq).heap.size := Nat.le_refl _
  clear a0' a1' b0' b1'
  generalize w.drewN nq = wq at hq k0 k1 hsq ⊢
  have hal : Below w.heap.size w (wq.alloc (.cells #[.int .i64 x0, .int .i64 x1] 24)) := hq.alloc hsq _
  go_wp2_with (first | (at_builtin; refine wpList_append_item rfl (.tmp 28) (.tmp 32) rfl w.heap.size (.slice none 0 0) [] (x0, x1) ⟨wq.heap.size, 0, none⟩ 1 rfl (OwnI.nil _ _) rfl (by simp) (by simp [Addr.add]) (by simp) (by simp; omega) ?_; intro v1 w1 hA1 hg1 _; have hb1 : Below w.heap.size w w1 := hal.trans (below_of_grown (OwnI.nil _ _) hg1 (Nat.le_refl _) (by simp; omega)); have HA1 : Hid (OwnI w1 w.heap.size v1 ([] ++ [(x0, x1)])) := hA1; clear hA1 hg1) | (at_builtin; refine wpList_append_sl rfl (.tmp 34) (.tmp 35) rfl w.heap.size v1 _ _ ((y0, y1) :: b).toArray rfl rfl HA1.out (HSB.out.below hb1) (by simp; have h1 := HNA.out; have h2 := HNB.out; omega) hb1.size ?_; intro v2 w2 hA2 hg2; have hb2 : Below w.heap.size w w2 := hb1.trans (below_of_grown HA1.out hg2 (Nat.le_refl _) hb1.size); have HA2 : Hid (OwnI w2 w.heap.size v2 (([] ++ [(x0, x1)]) ++ ((y0, y1) :: b).toArray.toList)) := hA2; clear hA2 hg2) | (at_builtin; refine wpList_append_sl rfl (.tmp 37) (.tmp 39) rfl w.heap.size v2 _ _ a.toArray rfl rfl HA2.out (HT.out.below hb2) (by simp; have h1 := HNA.out; have h2 := HNB.out; omega) hb2.size ?_; intro v3 w3 hA3 hg3; have hb3 : Below w.heap.size w w3 := hb2.trans (below_of_grown HA2.out hg3 (Nat.le_refl _) hb2.size); have HA3 : Hid (OwnI w3 w.heap.size v3 ((([] ++ [(x0, x1)]) ++ ((y0, y1) :: b).toArray.toList) ++ a.toArray.toList)) := hA3; clear hA3 hg3))
  go_ret
  exact ⟨_, rfl, by simpa using HA3.out, hb3⟩
theorem link_any (va vb : Value) (A B : List (Int × Int)) (w : World) (hA : A ≠ []) (hB : B ≠ []) (hla : A.length ≤ 1000) (hlb : B.length ≤ 1000) (ha : Sl w va A.toArray) (hb : Sl w vb B.toArray) :
    Calls Tryd.prog 33 #[va, vb] w fun e w' => ∃ u, e = .returned u ∧ OwnI w' w.heap.size u (linkL A B) ∧ Below w.heap.size w w' := by
  obtain ⟨pa, ca, rfl, hca, h0 | ⟨ba, oa, rfl, hra⟩⟩ := ha
  · simp at h0; exact absurd h0 hA
  obtain ⟨pb, cb, rfl, hcb, h0 | ⟨bb, ob, rfl, hrb⟩⟩ := hb
  · simp at h0; exact absurd h0 hB
  cases A with
  | nil => exact absurd rfl hA
  | cons x a =>
    cases B with
    | nil => exact absurd rfl hB
    | cons y b =>
      obtain ⟨x0, x1⟩ := x
      obtain ⟨y0, y1⟩ := y
      simp only [List.size_toArray, List.length_cons] at hca hcb hla hlb ⊢
      unfold linkL
      by_cases h : y0 < x0
      · simp only [if_pos h]
        by_cases hc : cb = 1
        · exact link_S1 ba oa _ ca bb ob _ cb x0 x1 y0 y1 a b w hla hlb (by omega) (by omega) hc h rfl rfl hca hcb hra hrb
        · exact link_S2 ba oa _ ca bb ob _ cb x0 x1 y0 y1 a b w hla hlb (by omega) (by omega) hc h rfl rfl hca hcb hra hrb
      · simp only [if_neg h]
        by_cases hc : ca = 1
        · exact link_F1 ba oa _ ca bb ob _ cb x0 x1 y0 y1 a b w hla hlb (by omega) (by omega) hc h rfl rfl hca hcb hra hrb
        · exact link_F2 ba oa _ ca bb ob _ cb x0 x1 y0 y1 a b w hla hlb (by omega) (by omega) hc h rfl rfl hca hcb hra hrb
#print axioms link_any
end Go.Proofs.YtmkjalpgeljnkaaDoor

/-
  Rows of items that are written to, one item at a time.
-/
namespace Go.Proofs.YtmkjalpgeljnkaaDoor
open Go.RowKit Go.Sort Go.Proofs

/-- The items d lie at blk, off, and may be written. -/
structure WrAt (w : World) (blk off : Nat) (d : Array (Int × Int)) : Prop where
  rd : RdAt w blk off d
  fr : ∀ j, j < d.size * 2 → w.frozen? ⟨blk, off + j, none⟩ = false

theorem WrAt.lt {w : World} {blk off : Nat} {d : Array (Int × Int)} (h : WrAt w blk off d) : blk < w.heap.size := h.rd.1
theorem WrAt.block {w w' : World} {blk off : Nat} {d : Array (Int × Int)} (h : WrAt w blk off d) (hs : w.heap.size ≤ w'.heap.size) (hb : w'.heap[blk]? = w.heap[blk]?) : WrAt w' blk off d :=
  ⟨⟨Nat.lt_of_lt_of_le h.rd.1 hs, fun i hi => ⟨(World.cell?_of_block (a := ⟨blk, off + i * 2, none⟩) hb).trans (h.rd.2 i hi).1, (World.cell?_of_block (a := ⟨blk, off + i * 2 + 1, none⟩) hb).trans (h.rd.2 i hi).2⟩⟩,
    fun j hj => (World.frozen?_of_block (a := ⟨blk, off + j, none⟩) hb).trans (h.fr j hj)⟩
theorem WrAt.below {w w' : World} {blk off B : Nat} {d : Array (Int × Int)} (h : WrAt w blk off d) (hb : Below B w w') (hB : blk < B) : WrAt w' blk off d := h.block hb.size (hb.block blk hB)
theorem WrAt.kept {w w' : World} {blk off : Nat} {row : Option Nat} {d : Array (Int × Int)} (h : WrAt w blk off d) (hg : w.grownBy w' row) (hne : some blk ≠ row) : WrAt w' blk off d := h.block hg.size (hg.block blk h.lt hne)
theorem WrAt.alloc {w : World} {blk off : Nat} {d : Array (Int × Int)} (h : WrAt w blk off d) (o : Obj) : WrAt (w.alloc o) blk off d := h.kept (World.grownBy_alloc w o none) (by simp)
theorem WrAt.drewN {w : World} {blk off : Nat} {d : Array (Int × Int)} (h : WrAt w blk off d) (n : Nat) : WrAt (w.drewN n) blk off d := h.block (Nat.le_refl _) rfl
theorem WrAt.drew {w : World} {blk off : Nat} {d : Array (Int × Int)} (h : WrAt w blk off d) : WrAt w.drew blk off d := h.block (Nat.le_refl _) rfl
theorem size_setCell (w : World) (p : Addr) (v : Value) : (w.setCell p v).heap.size = w.heap.size := by
  simp [World.setCell]
theorem WrAt.set {w : World} {blk off : Nat} {d : Array (Int × Int)} (h : WrAt w blk off d) {i : Nat} (hi : i < d.size) (y : Int × Int) :
    WrAt ((w.setCell ⟨blk, off + i * 2, none⟩ (.int .i64 y.1)).setCell ⟨blk, off + i * 2 + 1, none⟩ (.int .i64 y.2)) blk off (d.setIfInBounds i y) := by
  obtain ⟨c0, c1⟩ := h.rd.2 i hi
  refine ⟨⟨by rw [size_setCell, size_setCell]; exact h.lt, fun t ht => ?_⟩, fun j hj => ?_⟩
  · have ht' : t < d.size := by simpa using ht
    have e : (d.setIfInBounds i y)[t]! = if t = i then y else d[t]! := by
      rw [getElem!_pos _ t ht, getElem!_pos d t ht', Array.getElem_setIfInBounds]
      by_cases c : i = t
      · subst c; simp
      · rw [if_neg c, if_neg (by omega)]
    rw [e]
    obtain ⟨t0, t1⟩ := h.rd.2 t ht'
    by_cases c : t = i
    · subst c
      rw [if_pos rfl]
      refine ⟨?_, ?_⟩
      · rw [World.cell?_setCell_other _ _ _ _ (by simp), World.cell?_setCell_same _ _ _ c0]
      · exact World.cell?_setCell_same _ _ _ ((World.cell?_setCell_other _ _ _ _ (by simp)).trans c1)
    · rw [if_neg c]
      refine ⟨?_, ?_⟩
      · rw [World.cell?_setCell_other _ _ _ _ (by simp <;> omega), World.cell?_setCell_other _ _ _ _ (by simp <;> omega)]; exact t0
      · rw [World.cell?_setCell_other _ _ _ _ (by simp <;> omega), World.cell?_setCell_other _ _ _ _ (by simp <;> omega)]; exact t1
  · rw [World.frozen?_setCell, World.frozen?_setCell]
    exact h.fr j (by simpa using hj)
theorem WrAt.cell {w : World} {blk off : Nat} {d : Array (Int × Int)} (h : WrAt w blk off d) {i : Nat} (hi : i < d.size) {x : Int × Int} (hx : d[i]! = x) :
    w.cell? ⟨blk, off + i * 2, none⟩ = some (.int .i64 x.1) ∧ w.cell? ⟨blk, off + i * 2 + 1, none⟩ = some (.int .i64 x.2) ∧ w.frozen? ⟨blk, off + i * 2, none⟩ = false ∧ w.frozen? ⟨blk, off + i * 2 + 1, none⟩ = false := by
  rw [← hx]
  exact ⟨(h.rd.2 i hi).1, (h.rd.2 i hi).2, h.fr _ (by omega), by have := h.fr (i * 2 + 1) (by omega); rw [← Nat.add_assoc] at this; exact this⟩

theorem gb_trans {w w1 w2 : World} {row : Option Nat} (h1 : w.grownBy w1 row) (h2 : w1.grownBy w2 row) : w.grownBy w2 row :=
  ⟨h2.os.trans h1.os, h2.tape.trans h1.tape, h2.output.trans h1.output, Nat.le_trans h1.size h2.size, fun k hk hr => (h2.block k (Nat.lt_of_lt_of_le hk h1.size) hr).trans (h1.block k hk hr)⟩
theorem gb_setCell (w : World) (p : Addr) (v : Value) : w.grownBy (w.setCell p v) (some p.block) :=
  ⟨rfl, rfl, rfl, by rw [size_setCell]; exact Nat.le_refl _, fun k _ hr => heap_setCell_other w p k v (fun e => hr (by rw [e]))⟩
theorem gb_drewN {w w' : World} {row : Option Nat} (h : w.grownBy w' row) (n : Nat) : w.grownBy (w'.drewN n) row := ⟨h.os, h.tape, h.output, h.size, h.block⟩
theorem gb_set {w w' : World} {blk : Nat} (h : w.grownBy w' (some blk)) (o1 o2 : Nat) (u v : Value) : w.grownBy ((w'.setCell ⟨blk, o1, none⟩ u).setCell ⟨blk, o2, none⟩ v) (some blk) :=
  gb_trans (gb_trans h (gb_setCell w' ⟨blk, o1, none⟩ u)) (gb_setCell _ ⟨blk, o2, none⟩ v)
theorem gb_alloc {w w' : World} {row : Option Nat} (h : w.grownBy w' row) (o : Obj) : w.grownBy (w'.alloc o) row := gb_trans h (World.grownBy_alloc w' o row)
theorem gb_below {w w' : World} (h : Below w.heap.size w w') (row : Option Nat) : w.grownBy w' row := ⟨h.os, h.tape, h.output, h.size, fun k hk _ => h.block k hk⟩
theorem below_gb {a w w' : World} {B blk : Nat} (h : Below B a w) (hg : w.grownBy w' (some blk)) (hB : B ≤ blk) (hw : B ≤ w.heap.size) : Below B a w' :=
  h.grown hg hw fun k e => by cases e; exact hB

/-- A list of one's own that holds something may be written. -/
theorem OwnI.wr {w : World} {base n : Nat} {v : Value} {l : List (Int × Int)} (hl : l.length = n) (hn : 0 < n) (h : OwnI w base v l) :
    ∃ g cp, v = .slice (some ⟨g, 0, none⟩) n cp ∧ base ≤ g ∧ n ≤ cp ∧ WrAt w g 0 l.toArray := by
  have hs := h.sl
  obtain ⟨_, ⟨_, h0⟩ | ⟨g, cp, cur, rfl, hb, hg, hc, _, hcs, _⟩⟩ := id h
  · omega
  · obtain ⟨p, c, e, _, h0 | ⟨blk, off, rfl, hr⟩⟩ := hs
    · rw [List.size_toArray] at h0; omega
    · simp only [Value.slice.injEq, Option.some.injEq, Addr.mk.injEq] at e
      obtain ⟨⟨rfl, rfl, _⟩, _, rfl⟩ := e
      exact ⟨g, cp, by rw [hl], hb, by omega, hr, fun j _ => by simp [World.frozen?, hg]⟩
end Go.Proofs.YtmkjalpgeljnkaaDoor

/-
  The document's heaps of trees: what melding leans on: rows of lists, lists that lie apart from a growing one.
-/
namespace Go.Proofs.YtmkjalpgeljnkaaDoor
open Go.RowKit Go.Sort Go.Proofs

/-- A heap as it is written: ranks as whole numbers. -/
def zH (h : List TrL) : List (Int × List (Int × Int)) := h.map fun t => ((t.1 : Int), t.2)
theorem zH_len (h : List TrL) : (zH h).length = h.length := by simp [zH]
theorem zH_get {h : List TrL} {i r : Nat} {l : List (Int × Int)} (e : h[i]? = some (r, l)) : (zH h)[i]? = some ((r : Int), l) := by simp [zH, e]
/-- make([][]api.Item, n): empty lists. -/
theorem made_rows {w : World} {base n g : Nat} (h : w.ownsRow base 35 1 (.slice (some ⟨g, 0, none⟩) n n) n (madeCells (Value.slice none 0 0).cells (n * 1)).toList) (hn : 0 < n) : base ≤ g ∧ WrE ES w g 0 (List.replicate n (none, 0, 0)) := by
  have e : (madeCells (Value.slice none 0 0).cells (n * 1)).toList = ES.flat (List.replicate n (none, 0, 0)) := by
    have h1 : (Value.slice none 0 0).cells = #[.slice none 0 0] := rfl
    rw [h1, toList_madeCells_one, Nat.mul_one]
    have : ∀ m, ES.flat (List.replicate m (none, 0, 0)) = List.replicate m (.slice none 0 0) := fun m => by
      induction m with
      | zero => rfl
      | succ m ih => rw [List.replicate_succ, El.flat_cons, ih, List.replicate_succ]; rfl
    rw [this]
  rw [e] at h
  have ho : OwnE ES w base (.slice (some ⟨g, 0, none⟩) n n) (List.replicate n (none, 0, 0)) := by unfold OwnE; rw [List.length_replicate]; exact h
  obtain ⟨g', cp, e1, hb, _, hr, hf⟩ := ho.some List.length_replicate hn
  simp only [Value.slice.injEq, Option.some.injEq, Addr.mk.injEq] at e1
  obtain ⟨⟨rfl, _⟩, _⟩ := e1
  exact ⟨hb, hr, fun j _ => by rw [Nat.zero_add]; exact hf j⟩
theorem WrE.row {w : World} {blk i : Nat} {d : List SlV} (h : WrE ES w blk 0 d) {s : SlV} (hx : d[i]? = some s) : w.cell? ⟨blk, i, none⟩ = some (.slice s.1 s.2.1 s.2.2) ∧ w.frozen? ⟨blk, i, none⟩ = false := by
  have h1 := h.rd.row hx
  have hi := (List.getElem?_eq_some_iff.1 hx).1
  have h2 := h.fr i (by simpa [ES] using hi)
  rw [Nat.zero_add] at h1 h2
  exact ⟨h1, h2⟩
theorem WrE.setRow {w : World} {blk i : Nat} {d : List SlV} (h : WrE ES w blk 0 d) (hi : i < d.length) (y : SlV) : WrE ES (w.setCell ⟨blk, i, none⟩ (.slice y.1 y.2.1 y.2.2)) blk 0 (d.set i y) := by
  have := h.set hi y
  have e : w.setCells blk (0 + i * ES.K) (ES.enc y) = w.setCell ⟨blk, i, none⟩ (.slice y.1 y.2.1 y.2.2) := by
    show w.setCells blk (0 + i * 1) [.slice y.1 y.2.1 y.2.2] = _
    rw [Nat.zero_add, Nat.mul_one]; rfl
  rw [e] at this
  exact this
/-- Eight rows that hold the trees of a heap, by rank; what lies there is w's. -/
def RowsAt (w : World) (d : List SlV) (f : Nat → List (Int × Int)) : Prop := d.length = 8 ∧ ∀ j, j < 8 → ∃ s, d[j]? = some s ∧ Sl w (.slice s.1 s.2.1 s.2.2) (f j).toArray
theorem RowsAt.start (w : World) : RowsAt w (List.replicate 8 (none, 0, 0)) (digitH []) :=
  ⟨by simp, fun j hj => ⟨(none, 0, 0), by rw [List.getElem?_replicate, if_pos hj], by rw [digitH_nil]; exact Sl.nil w⟩⟩
theorem digitH_snoc {h : List TrL} {r : Nat} {l : List (Int × Int)} (hr : ∀ t ∈ h, t.1 < r) (j : Nat) : digitH (h ++ [(r, l)]) j = if j = r then l else digitH h j := by
  by_cases e : j = r
  · subst e
    rw [if_pos rfl]
    have : ∀ (g : List TrL), (∀ t ∈ g, t.1 < j) → digitH (g ++ [(j, l)]) j = l := by
      intro g
      induction g with
      | nil => intro _; exact digitH_eq l [] j
      | cons t g ih =>
        intro hg
        obtain ⟨q, m⟩ := t
        have := hg (q, m) List.mem_cons_self
        simp only at this
        rw [List.cons_append, digitH_ne m _ (by omega)]
        exact ih fun u hu => hg u (List.mem_cons_of_mem _ hu)
    exact this h hr
  · rw [if_neg e]
    induction h with
    | nil => rw [List.nil_append, digitH_ne l [] (fun q => e q.symm)]
    | cons t g ih =>
      obtain ⟨q, m⟩ := t
      by_cases k : q = j
      · subst k; rw [List.cons_append, digitH_eq, digitH_eq]
      · rw [List.cons_append, digitH_ne m _ k, digitH_ne m _ k]
        exact ih fun u hu => hr u (List.mem_cons_of_mem _ hu)
theorem RowsAt.set {w : World} {d : List SlV} {h : List TrL} {i r : Nat} {l : List (Int × Int)} {s : SlV} (H : RowsAt w d (digitH (h.take i))) (hp : h.Pairwise (fun a b => a.1 < b.1)) (hi : h[i]? = some (r, l)) (hs : Sl w (.slice s.1 s.2.1 s.2.2) l.toArray) : RowsAt w (d.set r s) (digitH (h.take (i + 1))) := by
  obtain ⟨hlt, e⟩ := List.getElem?_eq_some_iff.1 hi
  have et : h.take (i + 1) = h.take i ++ [(r, l)] := by rw [List.take_succ_eq_append_getElem hlt, e]
  have hlow : ∀ t ∈ h.take i, t.1 < r := fun t ht => by
    obtain ⟨j, hj, rfl⟩ := List.getElem_of_mem ht
    rw [List.length_take] at hj
    rw [List.getElem_take]
    have := List.pairwise_iff_getElem.1 hp j i (by omega) hlt (by omega)
    rw [e] at this
    exact this
  refine ⟨by rw [List.length_set]; exact H.1, fun j hj => ?_⟩
  rw [et, digitH_snoc hlow]
  by_cases q : j = r
  · subst q
    rw [if_pos rfl]
    exact ⟨s, by rw [List.getElem?_set_self (by rw [H.1]; exact hj)], hs⟩
  · rw [if_neg q]
    obtain ⟨s', e', hs'⟩ := H.2 j hj
    exact ⟨s', by rw [List.getElem?_set_ne (fun c => q c.symm)]; exact e', hs'⟩

/-- A list that lies neither in the block B nor in the block F. -/
def SlB (F : Nat → Prop) (w : World) (B : Option Nat) (v : Value) (l : List (Int × Int)) : Prop :=
  ∃ p c, v = .slice p l.length c ∧ l.length ≤ c ∧ (l = [] ∨ ∃ blk off, p = some ⟨blk, off, none⟩ ∧ some blk ≠ B ∧ ¬ F blk ∧ RdAt w blk off l.toArray)
theorem SlB.sl {F : Nat → Prop} {w : World} {B : Option Nat} {v : Value} {l : List (Int × Int)} (h : SlB F w B v l) : Sl w v l.toArray := by
  obtain ⟨p, c, rfl, hc, h | ⟨blk, off, rfl, _, _, hr⟩⟩ := h
  · exact ⟨p, c, by simp, by simpa using hc, Or.inl (by simp [h])⟩
  · exact ⟨_, c, by simp, by simpa using hc, Or.inr ⟨blk, off, rfl, hr⟩⟩
theorem SlB.below {F : Nat → Prop} {w w' : World} {B : Option Nat} {v : Value} {l : List (Int × Int)} (h : SlB F w B v l) (hb : Below w.heap.size w w') : SlB F w' B v l := by
  obtain ⟨p, c, rfl, hc, h | ⟨blk, off, rfl, hn, hf, hr⟩⟩ := h
  · exact ⟨p, c, rfl, hc, Or.inl h⟩
  · exact ⟨_, c, rfl, hc, Or.inr ⟨blk, off, rfl, hn, hf, hr.below hb hr.1⟩⟩
theorem RdAt.keptB {w w' : World} {blk off : Nat} {row : Option Nat} {d : Array (Int × Int)} (h : RdAt w blk off d) (hg : w.grownBy w' row) (hne : some blk ≠ row) : RdAt w' blk off d :=
  have hb := hg.block blk h.1 hne
  ⟨Nat.lt_of_lt_of_le h.1 hg.size, fun i hi => ⟨(World.cell?_of_block (a := ⟨blk, off + i * 2, none⟩) hb).trans (h.2 i hi).1, (World.cell?_of_block (a := ⟨blk, off + i * 2 + 1, none⟩) hb).trans (h.2 i hi).2⟩⟩
/-- .. where a list grows in B. -/
theorem SlB.kept {F : Nat → Prop} {w w' : World} {B B' : Option Nat} {v : Value} {l : List (Int × Int)} (h : SlB F w B v l) (hg : w.grownBy w' B) (hB : B' = B ∨ B' = some w.heap.size) : SlB F w' B' v l := by
  obtain ⟨p, c, rfl, hc, h | ⟨blk, off, rfl, hn, hf, hr⟩⟩ := h
  · exact ⟨p, c, rfl, hc, Or.inl h⟩
  · refine ⟨_, c, rfl, hc, Or.inr ⟨blk, off, rfl, ?_, hf, hr.keptB hg hn⟩⟩
    rcases hB with e | e
    · rw [e]; exact hn
    · rw [e]; intro q; have := Option.some.inj q; have := hr.1; omega
/-- What lay there before, apart from what is one's own since. -/
theorem SlB.old {F : Nat → Prop} {w w' : World} {B : Option Nat} {v : Value} {l : List (Int × Int)} (h : Sl w v l.toArray) (hb : Below w.heap.size w w') (hB : ∀ g, B = some g → w.heap.size ≤ g) (hF : ∀ g, F g → w.heap.size ≤ g) : SlB F w' B v l := by
  obtain ⟨p, c, rfl, hc, h | ⟨blk, off, rfl, hr⟩⟩ := h
  · exact ⟨p, c, by simp, by simpa using hc, Or.inl (by simpa using h)⟩
  · refine ⟨_, c, by simp, by simpa using hc, Or.inr ⟨blk, off, rfl, fun e => ?_, fun e => ?_, hr.below hb hr.1⟩⟩
    · have := hB blk e.symm
      have := hr.1
      omega
    · have := hF blk e
      have := hr.1
      omega
/-- What is new, apart from what is elder. -/
theorem SlB.fresh {F : Nat → Prop} {w : World} {base : Nat} {B : Option Nat} {v : Value} {l : List (Int × Int)} (h : OwnI w base v l) (hB : ∀ g, B = some g → g < base) (hF : ∀ g, F g → g < base) : SlB F w B v l := by
  rcases Nat.eq_zero_or_pos l.length with h0 | h0
  · have e := List.eq_nil_of_length_eq_zero h0
    subst e
    obtain ⟨p, c, e, hc, _⟩ := h.sl
    exact ⟨p, c, by simpa using e, Nat.zero_le _, Or.inl rfl⟩
  · obtain ⟨g, cp, rfl, hg, hc, hw⟩ := OwnI.wr rfl h0 h
    exact ⟨_, cp, rfl, hc, Or.inr ⟨g, 0, rfl, fun e => (by have := hB g e.symm; omega), fun e => (by have := hF g e; omega), hw.rd⟩⟩

/-- Trees that were put out: ranks, and the items of each, apart from B and from F. -/
def OutAt (F : Nat → Prop) (w : World) (B : Option Nat) (os : List (Int × SlV)) (h : List TrL) : Prop :=
  os.length = h.length ∧ ∀ (i r : Nat) (l : List (Int × Int)), h[i]? = some (r, l) → ∃ s : SlV, os[i]? = some ((r : Int), s) ∧ SlB F w B (.slice s.1 s.2.1 s.2.2) l
theorem OutAt.nil (F : Nat → Prop) (w : World) (B : Option Nat) : OutAt F w B [] [] := ⟨rfl, fun i r l h => by simp at h⟩
theorem OutAt.below {F : Nat → Prop} {w w' : World} {B : Option Nat} {os : List (Int × SlV)} {h : List TrL} (H : OutAt F w B os h) (hb : Below w.heap.size w w') : OutAt F w' B os h :=
  ⟨H.1, fun i r l e => by obtain ⟨s, a, b⟩ := H.2 i r l e; exact ⟨s, a, b.below hb⟩⟩
theorem OutAt.kept {F : Nat → Prop} {w w' : World} {B B' : Option Nat} {os : List (Int × SlV)} {h : List TrL} (H : OutAt F w B os h) (hg : w.grownBy w' B) (hB : B' = B ∨ B' = some w.heap.size) : OutAt F w' B' os h :=
  ⟨H.1, fun i r l e => by obtain ⟨s, a, b⟩ := H.2 i r l e; exact ⟨s, a, b.kept hg hB⟩⟩
theorem OutAt.snoc {F : Nat → Prop} {w : World} {B : Option Nat} {os : List (Int × SlV)} {h : List TrL} {r : Nat} {l : List (Int × Int)} {s : SlV} (H : OutAt F w B os h) (hs : SlB F w B (.slice s.1 s.2.1 s.2.2) l) : OutAt F w B (os ++ [((r : Int), s)]) (h ++ [(r, l)]) := by
  refine ⟨by simp [H.1], fun i q m e => ?_⟩
  rcases Nat.lt_or_ge i h.length with k | k
  · rw [List.getElem?_append_left k] at e
    obtain ⟨s', a, b⟩ := H.2 i q m e
    exact ⟨s', by rw [List.getElem?_append_left (by rw [H.1]; exact k)]; exact a, b⟩
  · rw [List.getElem?_append_right k] at e
    have hi : i = h.length := by
      rcases Nat.eq_or_lt_of_le k with q | q
      · exact q.symm
      · rw [List.getElem?_eq_none (by simp; omega)] at e; cases e
    subst hi
    simp only [Nat.sub_self, List.getElem?_cons_zero, Option.some.injEq, Prod.mk.injEq] at e
    obtain ⟨rfl, rfl⟩ := e
    exact ⟨s, by rw [List.getElem?_append_right (by rw [H.1]; exact Nat.le_refl _), H.1]; simp, hs⟩
theorem zH_some {h : List TrL} {i : Nat} {r : Int} {l : List (Int × Int)} (e : (zH h)[i]? = some (r, l)) : ∃ q : Nat, h[i]? = some (q, l) ∧ (q : Int) = r := by
  simp only [zH, List.getElem?_map, Option.map_eq_some_iff] at e
  obtain ⟨⟨q, m⟩, e1, e2⟩ := e
  simp only [Prod.mk.injEq] at e2
  obtain ⟨rfl, rfl⟩ := e2
  exact ⟨q, e1, rfl⟩
theorem OutAt.heap {F : Nat → Prop} {w : World} {B : Option Nat} {base : Nat} {v : Value} {os : List (Int × SlV)} {h : List TrL} (H : OutAt F w B os h) (ho : OwnE ET w base v os) : HpAt w v (zH h) := by
  refine ⟨os, ho.sl, by rw [zH_len, H.1], fun i r l e => ?_⟩
  obtain ⟨q, e1, rfl⟩ := zH_some e
  obtain ⟨s, a, b⟩ := H.2 i q l e1
  exact ⟨s, a, b.sl⟩
/-- A heap that lies apart from a block stays where that block is written. -/
theorem OutAt.apart {F : Nat → Prop} {f : Nat} {w w' : World} {B : Option Nat} {base : Nat} {v : Value} {os : List (Int × SlV)} {h : List TrL} (H : OutAt F w B os h) (hF : F f) (ho : OwnE ET w base v os) (hf : f < base) (hg : w.grownBy w' (some f)) : HpAt w' v (zH h) := by
  have ho' : OwnE ET w' base v os := by
    refine World.ownsRow.kept ho hg ?_
    cases hv : v.ownBlock with
    | none => exact Or.inl rfl
    | some g => exact Or.inr fun e => by have h1 := (World.ownsRow.lt ho g hv).1; have h2 := Option.some.inj e; omega
  refine ⟨os, ho'.sl, by rw [zH_len, H.1], fun i r l e => ?_⟩
  obtain ⟨q, e1, rfl⟩ := zH_some e
  obtain ⟨s, a, p, c, e2, hc, e3 | ⟨blk, off, e3, hn, hf2, hr⟩⟩ := H.2 i q l e1
  · exact ⟨s, a, by rw [e2]; exact ⟨p, c, by simp, by simpa using hc, Or.inl (by simp [e3])⟩⟩
  · refine ⟨s, a, ?_⟩
    rw [e2, e3]
    exact ⟨_, c, by simp, by simpa using hc, Or.inr ⟨blk, off, rfl, hr.keptB hg (fun e => hf2 (by rw [Option.some.inj e]; exact hF))⟩⟩

/-- The heap h in the world w: its row lies there, its items did so in w0 already. -/
def HpF (w0 w : World) (v : Value) (h : List TrL) : Prop :=
  ∃ ts : List (Int × SlV), SlE ET w v ts ∧ ts.length = h.length ∧ ∀ (i r : Nat) (l : List (Int × Int)), h[i]? = some (r, l) → ∃ s : SlV, ts[i]? = some ((r : Int), s) ∧ Sl w0 (.slice s.1 s.2.1 s.2.2) l.toArray
theorem HpAt.toF {w0 w : World} {v : Value} {h : List TrL} (H : HpAt w0 v (zH h)) (hb : Below w0.heap.size w0 w) : HpF w0 w v h := by
  obtain ⟨ts, h1, h2, h3⟩ := H
  exact ⟨ts, h1.below hb, by rw [h2, zH_len], fun i r l e => h3 i (r : Int) l (zH_get e)⟩
theorem HpF.tree {w0 w : World} {p : Option Addr} {n cap : Nat} {h : List TrL} (H : HpF w0 w (.slice p n cap) h) {i r : Nat} {l : List (Int × Int)} (hi : h[i]? = some (r, l)) :
    ∃ blk off q c, p = some ⟨blk, off, none⟩ ∧ blk < w.heap.size ∧ w.cell? ⟨blk, off + i * 2, none⟩ = some (.int .i64 (r : Int)) ∧ w.cell? ⟨blk, off + i * 2 + 1, none⟩ = some (.slice q l.length c) ∧ Sl w0 (.slice q l.length c) l.toArray := by
  obtain ⟨ts, h1, h2, h3⟩ := H
  obtain ⟨s, e, hs⟩ := h3 i r l hi
  obtain ⟨p', cap', e', hc, h0 | ⟨blk, off, rfl, hr⟩⟩ := h1
  · rw [h0] at e; simp at e
  · simp only [Value.slice.injEq] at e'
    obtain ⟨rfl, _, _⟩ := e'
    obtain ⟨c0, c1⟩ := hr.tree e
    obtain ⟨q, c, es, _⟩ := id hs
    rw [List.size_toArray] at es
    rw [es] at c1 hs
    exact ⟨blk, off, q, c, rfl, hr.1, c0, c1, hs⟩
end Go.Proofs.YtmkjalpgeljnkaaDoor

/-
  The document's heaps of trees: melding.
-/
namespace Go.Proofs.YtmkjalpgeljnkaaDoor
open Go.RowKit Go.Sort Go.Proofs

theorem new_row (W : World) (g : Nat) (hg : g = W.heap.size) (p : Option Addr) (n c : Nat) : ∀ j u, (ES.enc (p, n, c))[j]? = some u → (W.alloc (.cells #[.slice p n c] 35)).cell? ((⟨g, 0, none⟩ : Addr).add j) = some u := by
  subst hg
  intro j u hu
  match j, hu with
  | 0, hu => cases hu; simp [Addr.add]
  | j + 1, hu => simp [ES, encS] at hu
theorem info_row : (Tryd.prog.info? 35).map (fun i => (i.zero, i.size, i.bytes)) = some (some (.slice none 0 0), 1, 24) := by kernel_rfl
theorem TE.len {r : Nat} {l : List (Int × Int)} (h : TE r l) (hr : r ≤ 8) : l.length ≤ 256 := by
  rcases h with rfl | h
  · simp
  · rw [h.len]; exact Nat.pow_le_pow_right (show 0 < 2 by omega) hr
theorem meldTo_go {x y : Nat → List (Int × Int)} {n r : Nat} {c : List (Int × Int)} {o : List TrL} {c' : List (Int × Int)} (h1 : putR r (outD (pickL c (x r) (y r))) = o) (h2 : carD (pickL c (x r) (y r)) = c') : meldTo x y (n + 1) r c = o ++ meldTo x y n (r + 1) c' := by
  subst h1; subst h2; rfl

set_option maxHeartbeats 64000000 in
set_option maxRecDepth 8000 in
theorem binoMeld_some (pa pb : Option Addr) (na ca nb cb : Nat) (h1 h2 : List TrL) (F : Nat → Prop) (w0 w : World) (hna : na ≤ 100) (hnb : nb ≤ 100) (HNA : Hid (h1.length = na)) (HNB : Hid (h2.length = nb)) (HA : Hid (HpF w0 w (.slice pa na ca) h1)) (HB2 : Hid (HpF w0 w (.slice pb nb cb) h2)) (HW0 : Hid (Below w0.heap.size w0 w)) (HF0 : Hid (∀ g, F g → w0.heap.size ≤ g)) (HFW : Hid (∀ g, F g → g < w.heap.size))
    (HI1 : Hid (IsH h1)) (HI2 : Hid (IsH h2)) (HR1 : Hid (∀ t ∈ h1, t.1 < 8)) (HR2 : Hid (∀ t ∈ h2, t.1 < 8)) :
    Calls Tryd.prog 11 #[.slice pa na ca, .slice pb nb cb] w fun e w' => ∃ u, e = .returned u ∧ (∃ os, OwnE ET w' w.heap.size u os ∧ OutAt F w' u.ownBlock os (meldH h1 h2)) ∧ Below w.heap.size w w' := by
  obtain ⟨i0, hi, hz0, hz1, hz2⟩ := info_parts info_row
  have HI : Hid (Tryd.prog.info? 35 = some i0) := hi
  have HZ0 : Hid (i0.zero = some (.slice none 0 0)) := hz0
  have HZ1 : Hid (i0.size = 1) := hz1
  have HZ2 : Hid (i0.bytes = 24) := hz2
  clear hi hz0 hz1 hz2
  go_enter Tryd.func11, Tryd.ntmps11
  go_wp2_with (first | (at_make; refine wpList_make_full _ rfl (.const (.int .i64 8)) (.const (.int .i64 8)) 60 rfl w.heap.size 35 i0 (.slice none 0 0) 1 Tryd.underlying60 HI.out HZ0.out HZ1.out .i64 .i64 _ _ 8 rfl rfl rfl rfl (by rw [HZ2.out]; omega) (by unfold maxLen; omega) (Nat.le_refl _) ?_; intro w1 hown1 hgr1; have hb1 : Below w.heap.size w w1 := (Below.refl _ _).grown hgr1 (Nat.le_refl _) (fun _ e => by cases e); have HX1 : Hid (WrE ES w1 w.heap.size 0 (List.replicate 8 (none, 0, 0))) := (made_rows hown1 (by omega)).2; clear hown1 hgr1) | (at_make; refine wpList_make_full _ rfl (.const (.int .i64 8)) (.const (.int .i64 8)) 60 rfl w1.heap.size 35 i0 (.slice none 0 0) 1 Tryd.underlying60 HI.out HZ0.out HZ1.out .i64 .i64 _ _ 8 rfl rfl rfl rfl (by rw [HZ2.out]; omega) (by unfold maxLen; omega) (Nat.le_refl _) ?_; intro w2 hown2 hgr2; have hb2' : Below w1.heap.size w1 w2 := (Below.refl _ _).grown hgr2 (Nat.le_refl _) (fun _ e => by cases e); have HY2 : Hid (WrE ES w2 w1.heap.size 0 (List.replicate 8 (none, 0, 0))) := (made_rows hown2 (by omega)).2; have HX2 : Hid (WrE ES w2 w.heap.size 0 (List.replicate 8 (none, 0, 0))) := HX1.out.below hb2' HX1.out.lt; have hb2 := hb1.trans (hb2'.mono hb1.size); have hxy : w.heap.size < w1.heap.size := HX1.out.lt; clear hown2 hgr2 hb2' HX1))
  have HD : Hid (w1.heap.size = w1.heap.size) := rfl
  clear HD
  generalize w1.heap.size = gy at HY2 hxy ⊢
  clear hb1
  go_loopg [7] na (fun gg vi wr => ∃ (i : Nat) (dX : List SlV), vi = .int .i64 i ∧ i ≤ na ∧ na - i ≤ gg ∧ Hid (WrE ES wr w.heap.size 0 dX) ∧ Hid (WrE ES wr gy 0 (List.replicate 8 (none, 0, 0))) ∧ Hid (RowsAt w0 dX (digitH (h1.take i))) ∧ Hid (Below w.heap.size w wr))
  case atStart => exact ⟨0, _, rfl, Nat.zero_le _, by omega, HX2, HY2, RowsAt.start w0, hb2⟩
  case round =>
    obtain ⟨i, dX, rfl, hin, hg, HWX, HWY, HRX, HB⟩ := hrel
    by_cases hlt : i < na
    · have hlz : (i : Int) < (na : Int) := by omega
      obtain ⟨⟨r, l⟩, hx⟩ : ∃ x, h1[i]? = some x := ⟨h1[i]'(by rw [HNA.out]; omega), by simp⟩
      obtain ⟨blk, off, q, c, rfl, hblk, c0, c1, hsl⟩ := HA.out.tree hx
      have hr8 : r < 8 := HR1.out (r, l) (List.mem_of_getElem? hx)
      have hr8z : (r : Int) < 8 := by omega
      have t0 := (HB.out.cell (p := ⟨blk, off + i * 2, none⟩) hblk).trans c0
      have t1 := (HB.out.cell (p := ⟨blk, off + i * 2 + 1, none⟩) hblk).trans c1
      obtain ⟨s0, e0, _⟩ := HRX.out.2 r hr8
      obtain ⟨k0, k1⟩ := HWX.out.row e0
      have HRX' : Hid (RowsAt w0 (dX.set r (q, l.length, c)) (digitH (h1.take (i + 1)))) := HRX.out.set HI1.out.rise hx hsl
      have hB : w.heap.size ≤ wr.heap.size := HB.out.size
      have hgs : wr.grownBy ((wr.setCell ⟨w.heap.size, r, none⟩ (.slice q l.length c)).drew) (some w.heap.size) := gb_drewN (gb_setCell wr ⟨w.heap.size, r, none⟩ (.slice q l.length c)) 1
      have HB' : Hid (Below w.heap.size w ((wr.setCell ⟨w.heap.size, r, none⟩ (.slice q l.length c)).drew)) := below_gb HB.out hgs (by omega) hB
      have H1' : Hid (WrE ES ((wr.setCell ⟨w.heap.size, r, none⟩ (.slice q l.length c)).drew) w.heap.size 0 (dX.set r (q, l.length, c))) := (HWX.out.setRow (i := r) (by rw [HRX.out.1]; exact hr8) (q, l.length, c)).drewN 1
      have H2' : Hid (WrE ES ((wr.setCell ⟨w.heap.size, r, none⟩ (.slice q l.length c)).drew) gy 0 (List.replicate 8 (none, 0, 0))) := HWY.out.kept hgs (fun e => by have := Option.some.inj e; omega)
      generalize l.length = ln at *
      clear hx hsl e0 hgs c0 c1 HRX
      go_wp2_with fail
      go_region
      go_wp2
      go_roundg (na - (i + 1))
      case measure => omega
      case rel => exact ⟨i + 1, _, by go_num, by omega, Nat.le_refl _, H1', H2', HRX', HB'⟩
    · have hlz : ¬ (i : Int) < (na : Int) := by omega
      have HRE : Hid (RowsAt w0 dX (digitH h1)) := by show RowsAt _ _ _; have := HRX.out; rw [List.take_of_length_le (by rw [HNA.out]; omega)] at this; exact this
      clear HRX
      go_wp2
      have HREX : Hid (RowsAt w0 dX (digitH h1)) := HRE
      clear HRE
      go_loopg [8] nb (fun gg vi wr => ∃ (i : Nat) (dY : List SlV), vi = .int .i64 i ∧ i ≤ nb ∧ nb - i ≤ gg ∧ Hid (WrE ES wr gy 0 dY) ∧ Hid (WrE ES wr w.heap.size 0 dX) ∧ Hid (RowsAt w0 dY (digitH (h2.take i))) ∧ Hid (Below w.heap.size w wr))
      case atStart => exact ⟨0, _, rfl, Nat.zero_le _, by omega, HWY, HWX, RowsAt.start w0, HB⟩
      case round =>
        obtain ⟨i, dY, rfl, hin, hg, HWY, HWX, HRX, HB⟩ := hrel
        by_cases hlt : i < nb
        · have hlz : (i : Int) < (nb : Int) := by omega
          obtain ⟨⟨r, l⟩, hx⟩ : ∃ x, h2[i]? = some x := ⟨h2[i]'(by rw [HNB.out]; omega), by simp⟩
          obtain ⟨blk, off, q, c, rfl, hblk, c0, c1, hsl⟩ := HB2.out.tree hx
          have hr8 : r < 8 := HR2.out (r, l) (List.mem_of_getElem? hx)
          have hr8z : (r : Int) < 8 := by omega
          have t0 := (HB.out.cell (p := ⟨blk, off + i * 2, none⟩) hblk).trans c0
          have t1 := (HB.out.cell (p := ⟨blk, off + i * 2 + 1, none⟩) hblk).trans c1
          obtain ⟨s0, e0, _⟩ := HRX.out.2 r hr8
          obtain ⟨k0, k1⟩ := HWY.out.row e0
          have HRX' : Hid (RowsAt w0 (dY.set r (q, l.length, c)) (digitH (h2.take (i + 1)))) := HRX.out.set HI2.out.rise hx hsl
          have hB : w.heap.size ≤ wr.heap.size := HB.out.size
          have hgs : wr.grownBy ((wr.setCell ⟨gy, r, none⟩ (.slice q l.length c)).drew) (some gy) := gb_drewN (gb_setCell wr ⟨gy, r, none⟩ (.slice q l.length c)) 1
          have HB' : Hid (Below w.heap.size w ((wr.setCell ⟨gy, r, none⟩ (.slice q l.length c)).drew)) := below_gb HB.out hgs (by omega) hB
          have H1' : Hid (WrE ES ((wr.setCell ⟨gy, r, none⟩ (.slice q l.length c)).drew) gy 0 (dY.set r (q, l.length, c))) := (HWY.out.setRow (i := r) (by rw [HRX.out.1]; exact hr8) (q, l.length, c)).drewN 1
          have H2' : Hid (WrE ES ((wr.setCell ⟨gy, r, none⟩ (.slice q l.length c)).drew) w.heap.size 0 dX) := HWX.out.kept hgs (fun e => by have := Option.some.inj e; omega)
          generalize l.length = ln at *
          clear hx hsl e0 hgs c0 c1 HRX
          go_wp2_with fail
          go_region
          go_wp2
          go_roundg (nb - (i + 1))
          case measure => omega
          case rel => exact ⟨i + 1, _, by go_num, by omega, Nat.le_refl _, H1', H2', HRX', HB'⟩
        · have hlz : ¬ (i : Int) < (nb : Int) := by omega
          have HRE : Hid (RowsAt w0 dY (digitH h2)) := by show RowsAt _ _ _; have := HRX.out; rw [List.take_of_length_le (by rw [HNB.out]; omega)] at this; exact this
          clear HRX
          go_wp2
          obtain ⟨wl, hwl⟩ : ∃ wl : World, wl = wr := ⟨_, rfl⟩
          subst hwl
          have hlw : w.heap.size < wl.heap.size := HWX.out.lt
          have hly : gy < wl.heap.size := HWY.out.lt
          go_loopg [9, 10, 11] 8 (fun gg vo vc vi wr => ∃ (r no co nc cc : Nat) (po pc : Option Addr) (os : List (Int × SlV)) (hout : List TrL) (Lc : List (Int × Int)), vo = .slice po no co ∧ vc = .slice pc nc cc ∧ vi = .int .i64 r ∧ r ≤ 8 ∧ 8 - r ≤ gg ∧ no ≤ r ∧ Hid (os.length = no) ∧ Hid (Lc.length = nc) ∧ Hid (OwnE ET wr wl.heap.size (.slice po no co) os) ∧ Hid (OutAt F wr (Value.slice po no co).ownBlock os hout) ∧ Hid (SlB F wr (Value.slice po no co).ownBlock (.slice pc nc cc) Lc) ∧ Hid (TE r Lc) ∧ Hid (hout ++ meldTo (digitH h1) (digitH h2) (8 - r) r Lc = meldH h1 h2) ∧ Hid (Below wl.heap.size wl wr))
          case atStart => exact ⟨0, 0, 0, 0, 0, none, none, [], [], [], rfl, rfl, rfl, by omega, by omega, by omega, rfl, rfl, OwnE.nil ET _ _, OutAt.nil _ _ _, (show SlB _ _ _ _ _ from ⟨none, 0, rfl, Nat.le_refl _, Or.inl rfl⟩), Or.inl rfl, rfl, Below.refl _ _⟩
          case round =>
            obtain ⟨r, no, co, nc, cc, po, pc, os, hout, Lc, rfl, rfl, rfl, hr8, hgg, hno, HOL, HNc, HO, HOUTA, HSc, HTC, HEQ, HBR⟩ := hrel
            by_cases hlt8 : r < 8
            · have hr8z : (r : Int) < 8 := by omega
              have hBw0 : Below w.heap.size w wr := Below.trans HB.out (Below.mono HBR.out HB.out.size)
              have hBw : Below w0.heap.size w0 wr := Below.trans HW0.out (Below.mono hBw0 HW0.out.size)
              have HOB : Hid (∀ g, (Value.slice po no co).ownBlock = some g → w0.heap.size ≤ g) := fun g e => by have h3 := (World.ownsRow.lt HO.out g e).1; have h4 := HW0.out.size; omega
              have HFF : Hid (∀ g, F g → g < wl.heap.size) := fun g e => by have := HFW.out g e; omega
              obtain ⟨Lx, hLx⟩ : ∃ L, digitH h1 r = L := ⟨_, rfl⟩
              obtain ⟨Ly, hLy⟩ : ∃ L, digitH h2 r = L := ⟨_, rfl⟩
              obtain ⟨⟨px, nx, cx⟩, ex, hsx⟩ := HREX.out.2 r hlt8
              obtain ⟨⟨py, ny, cy⟩, ey, hsy⟩ := HRE.out.2 r hlt8
              have HTX : Hid (TE r Lx) := by show TE _ _; rw [← hLx]; exact digitH_te HI1.out r
              have HTY : Hid (TE r Ly) := by show TE _ _; rw [← hLy]; exact digitH_te HI2.out r
              rw [hLx] at hsx
              rw [hLy] at hsy
              have HSx : Hid (SlB F wr (Value.slice po no co).ownBlock (.slice px nx cx) Lx) := SlB.old hsx hBw HOB.out HF0.out
              have HSy : Hid (SlB F wr (Value.slice po no co).ownBlock (.slice py ny cy) Ly) := SlB.old hsy hBw HOB.out HF0.out
              have HNx : Hid (Lx.length = nx) := by obtain ⟨_, _, e, _⟩ := HSx.out; simp only [Value.slice.injEq] at e; exact e.2.1.symm
              have HNy : Hid (Ly.length = ny) := by obtain ⟨_, _, e, _⟩ := HSy.out; simp only [Value.slice.injEq] at e; exact e.2.1.symm
              have HMc : Hid (Lc.length ≤ 256) := HTC.out.len (by omega)
              have HMx : Hid (Lx.length ≤ 256) := HTX.out.len (by omega)
              have HMy : Hid (Ly.length ≤ 256) := HTY.out.len (by omega)
              have HCX : Hid (∀ W, Below wr.heap.size wr W → W.cell? ⟨w.heap.size, r, none⟩ = some (.slice px nx cx)) := fun W hb => ((Below.trans HBR.out (Below.mono hb HBR.out.size)).cell (p := ⟨w.heap.size, r, none⟩) hlw).trans (HWX.out.row ex).1
              have HCY : Hid (∀ W, Below wr.heap.size wr W → W.cell? ⟨gy, r, none⟩ = some (.slice py ny cy)) := fun W hb => ((Below.trans HBR.out (Below.mono hb HBR.out.size)).cell (p := ⟨gy, r, none⟩) hly).trans (HWY.out.row ey).1
              have cx0 := HCX.out wr (Below.refl _ _)
              have cy0 := HCY.out wr (Below.refl _ _)
              have HLX : Hid (digitH h1 r = Lx) := hLx
              have HLY : Hid (digitH h2 r = Ly) := hLy
              have hlwr : wl.heap.size ≤ wr.heap.size := HBR.out.size
              have HB0 : Hid (Below w.heap.size w wl) := HB
              clear hLx hLy ex ey hsx hsy hBw hBw0 HB
              have HB : Hid (Below wl.heap.size wl wr) := HBR
              clear HBR
              rcases Nat.eq_zero_or_pos nc with hc0 | hc0
              · rcases Nat.eq_zero_or_pos nx with hx0 | hx0
                · rcases Nat.eq_zero_or_pos ny with hy0 | hy0
                  · obtain rfl : nc = 0 := by omega
                    obtain rfl : nx = 0 := by omega
                    obtain rfl : ny = 0 := by omega
                    have HNE : Hid ((Lc = []) ∧ (Lx = []) ∧ (Ly = [])) := ⟨(List.eq_nil_of_length_eq_zero HNc.out), (List.eq_nil_of_length_eq_zero HNx.out), (List.eq_nil_of_length_eq_zero HNy.out)⟩
                    have HGO : Hid (hout ++ meldTo (digitH h1) (digitH h2) (8 - r) r Lc = (hout ++ []) ++ meldTo (digitH h1) (digitH h2) (8 - (r + 1)) (r + 1) ([])) := by
                      show _ = _
                      obtain ⟨e1, e2, e3⟩ := HNE.out
                      rw [show 8 - r = (8 - (r + 1)) + 1 by omega, meldTo_go (o := []) (c' := []) (by rw [HLX.out, HLY.out]; simp [pickL, optL, outD, putR, e1, e2, e3]) (by rw [HLX.out, HLY.out]; simp [pickL, optL, carD, e1, e2, e3]), List.append_assoc]
                    have HTE : Hid (TE (r + 1) ([])) := Or.inl rfl
                    go_wp2
                    have HOUT : Hid (OutAt F wr (Value.slice po no co).ownBlock os (hout ++ [])) := by show OutAt _ _ _ _ _; rw [List.append_nil]; exact HOUTA.out
                    go_roundg (8 - (r + 1))
                    case measure => omega
                    case rel =>
                      exact ⟨r + 1, no, co, 0, 0, po, none, os, hout ++ [], [], rfl, rfl, by go_num, by omega, Nat.le_refl _, by omega, (show _ = _ by simp [HOL.out]), rfl, HO, HOUT, (show SlB _ _ _ _ _ from ⟨none, 0, rfl, Nat.le_refl _, Or.inl rfl⟩), HTE, (show _ = _ from HGO.out.symm.trans HEQ.out), HB⟩
                  · obtain rfl : nc = 0 := by omega
                    obtain rfl : nx = 0 := by omega
                    have hzy : (0 : Int) < (ny : Int) := by omega
                    have HNE : Hid ((Lc = []) ∧ (Lx = []) ∧ (Ly ≠ [])) := ⟨(List.eq_nil_of_length_eq_zero HNc.out), (List.eq_nil_of_length_eq_zero HNx.out), (fun e => by have := HNy.out; rw [e] at this; simp only [List.length_nil] at this; omega)⟩
                    have HGO : Hid (hout ++ meldTo (digitH h1) (digitH h2) (8 - r) r Lc = (hout ++ [(r, Ly)]) ++ meldTo (digitH h1) (digitH h2) (8 - (r + 1)) (r + 1) ([])) := by
                      show _ = _
                      obtain ⟨e1, e2, e3⟩ := HNE.out
                      rw [show 8 - r = (8 - (r + 1)) + 1 by omega, meldTo_go (o := [(r, Ly)]) (c' := []) (by rw [HLX.out, HLY.out]; simp [pickL, optL, outD, putR, e1, e2, e3]) (by rw [HLX.out, HLY.out]; simp [pickL, optL, carD, e1, e2, e3]), List.append_assoc]
                    have HTE : Hid (TE (r + 1) ([])) := Or.inl rfl
                    go_wp2_with (first | (at_builtin; refine wpList_appendE ES rfl (.tmp 81) (.tmp 86) rfl wr.heap.size (.slice none 0 0) [] (py, ny, cy) ⟨wr.heap.size, 0, none⟩ 1 rfl (OwnE.nil ES _ _) rfl (new_row wr _ rfl _ _ _) (by simp) (by simp) ?_; intro v1 w1 hA hg _; have hb1 : Below wr.heap.size wr w1 := ((Below.refl _ _).alloc (Nat.le_refl _) _).trans (below_ownE (OwnE.nil ES _ _) hg (Nat.le_refl _) (by simp)); have HL1 : Hid (OwnE ES w1 wr.heap.size v1 [(py, ny, cy)]) := hA; clear hA hg; obtain ⟨g1, cp1, hv1, hgb1, hcp1, hrd1, _⟩ := HL1.out.some (n := 1) rfl (by omega); have HR1 : Hid (RdE ES w1 g1 0 [(py, ny, cy)]) := hrd1; clear hrd1; subst hv1; have cx1 := HCX.out w1 hb1; have cy1 := HCY.out w1 hb1; have q10 : w1.cell? ⟨g1, 0, none⟩ = some (.slice py ny cy) := (by have := HR1.out.row (i := 0) rfl; rw [Nat.zero_add] at this; exact this); have hs1 : wr.heap.size ≤ w1.heap.size := hb1.size; have hgl1 : g1 < w1.heap.size := HR1.out.1) | (at_builtin; refine wpList_appendE ET rfl (.tmp 92) (.tmp 98) rfl wl.heap.size (.slice po no co) os ((r : Int), py, ny, cy) ⟨w1.heap.size, 0, none⟩ 1 rfl ((HO.out.below hb1).alloc _) rfl (new_tree w1 _ rfl _ _ _ _) (by rw [HOL.out]; omega) (by simp; have := hb1.size; omega) ?_; intro vo' wo hAo hgo hko; have HAO : Hid (OwnE ET wo wl.heap.size vo' (os ++ [((r : Int), py, ny, cy)])) := hAo; have HGW : Hid ((w1.alloc (.cells #[.int .i64 r, .slice py ny cy] 37)).grownBy wo (Value.slice po no co).ownBlock) := hgo; have HKO : Hid (vo'.ownBlock = (Value.slice po no co).ownBlock ∨ vo'.ownBlock = some (w1.alloc (.cells #[.int .i64 r, .slice py ny cy] 37)).heap.size) := hko; clear hAo hgo hko; obtain ⟨po', co', hvo⟩ := HAO.out.form; rw [List.length_append, HOL.out] at hvo; have hvo' : vo' = .slice po' (no + 1) co' := hvo; clear hvo; subst hvo'; have hbal : Below wr.heap.size wr (w1.alloc (.cells #[.int .i64 r, .slice py ny cy] 37)) := hb1.alloc hb1.size _; have hso : wr.heap.size ≤ wo.heap.size := Nat.le_trans hbal.size HGW.out.size; have HGN : Hid (some g1 ≠ (Value.slice po no co).ownBlock) := (fun e => by have h1 := (World.ownsRow.lt HO.out g1 e.symm).2; omega); have hglo : g1 < wo.heap.size := Nat.lt_of_lt_of_le (show g1 < (w1.alloc (.cells #[.int .i64 r, .slice py ny cy] 37)).heap.size by simp; omega) HGW.out.size; have o0 : wo.cell? ⟨g1, 0, none⟩ = some (.slice py ny cy) := (World.cell?_of_block (a := ⟨g1, 0, none⟩) (HGW.out.block g1 (by simp; omega) HGN.out)).trans (((Below.refl w1.heap.size w1).alloc (Nat.le_refl _) _).cell (p := ⟨g1, 0, none⟩) hgl1 |>.trans q10)))
                    have HBO : Hid (Below wl.heap.size wl wo) := (HB.out.trans (Below.mono hbal HB.out.size)).trans (below_ownE ((HO.out.below hb1).alloc _) HGW.out (Nat.le_refl _) (by simp; have := HB.out.size; have := hb1.size; omega))
                    have HOUT : Hid (OutAt F wo (Value.slice po' (no + 1) co').ownBlock (os ++ [((r : Int), py, ny, cy)]) (hout ++ [(r, Ly)])) := by
                      have ho1 := (HOUTA.out.below hbal).kept HGW.out HKO.out
                      exact ho1.snoc (s := (py, ny, cy)) ((HSy.out.below hbal).kept HGW.out HKO.out)
                    have HSy' : Hid (SlB F wo (Value.slice po' (no + 1) co').ownBlock (.slice py ny cy) Ly) := (HSy.out.below hbal).kept HGW.out HKO.out
                    go_roundg (8 - (r + 1))
                    case measure => omega
                    case rel =>
                      exact ⟨r + 1, no + 1, co', 0, 0, po', none, (os ++ [((r : Int), py, ny, cy)]), hout ++ [(r, Ly)], [], rfl, rfl, by go_num, by omega, Nat.le_refl _, by omega, (show _ = _ by simp [HOL.out]), rfl, HAO, HOUT, (show SlB _ _ _ _ _ from ⟨none, 0, rfl, Nat.le_refl _, Or.inl rfl⟩), HTE, (show _ = _ from HGO.out.symm.trans HEQ.out), HBO⟩
                · rcases Nat.eq_zero_or_pos ny with hy0 | hy0
                  · obtain rfl : nc = 0 := by omega
                    have hzx : (0 : Int) < (nx : Int) := by omega
                    obtain rfl : ny = 0 := by omega
                    have HNE : Hid ((Lc = []) ∧ (Lx ≠ []) ∧ (Ly = [])) := ⟨(List.eq_nil_of_length_eq_zero HNc.out), (fun e => by have := HNx.out; rw [e] at this; simp only [List.length_nil] at this; omega), (List.eq_nil_of_length_eq_zero HNy.out)⟩
                    have HGO : Hid (hout ++ meldTo (digitH h1) (digitH h2) (8 - r) r Lc = (hout ++ [(r, Lx)]) ++ meldTo (digitH h1) (digitH h2) (8 - (r + 1)) (r + 1) ([])) := by
                      show _ = _
                      obtain ⟨e1, e2, e3⟩ := HNE.out
                      rw [show 8 - r = (8 - (r + 1)) + 1 by omega, meldTo_go (o := [(r, Lx)]) (c' := []) (by rw [HLX.out, HLY.out]; simp [pickL, optL, outD, putR, e1, e2, e3]) (by rw [HLX.out, HLY.out]; simp [pickL, optL, carD, e1, e2, e3]), List.append_assoc]
                    have HTE : Hid (TE (r + 1) ([])) := Or.inl rfl
                    go_wp2_with (first | (at_builtin; refine wpList_appendE ES rfl (.tmp 68) (.tmp 73) rfl wr.heap.size (.slice none 0 0) [] (px, nx, cx) ⟨wr.heap.size, 0, none⟩ 1 rfl (OwnE.nil ES _ _) rfl (new_row wr _ rfl _ _ _) (by simp) (by simp) ?_; intro v1 w1 hA hg _; have hb1 : Below wr.heap.size wr w1 := ((Below.refl _ _).alloc (Nat.le_refl _) _).trans (below_ownE (OwnE.nil ES _ _) hg (Nat.le_refl _) (by simp)); have HL1 : Hid (OwnE ES w1 wr.heap.size v1 [(px, nx, cx)]) := hA; clear hA hg; obtain ⟨g1, cp1, hv1, hgb1, hcp1, hrd1, _⟩ := HL1.out.some (n := 1) rfl (by omega); have HR1 : Hid (RdE ES w1 g1 0 [(px, nx, cx)]) := hrd1; clear hrd1; subst hv1; have cx1 := HCX.out w1 hb1; have cy1 := HCY.out w1 hb1; have q10 : w1.cell? ⟨g1, 0, none⟩ = some (.slice px nx cx) := (by have := HR1.out.row (i := 0) rfl; rw [Nat.zero_add] at this; exact this); have hs1 : wr.heap.size ≤ w1.heap.size := hb1.size; have hgl1 : g1 < w1.heap.size := HR1.out.1) | (at_builtin; refine wpList_appendE ET rfl (.tmp 92) (.tmp 98) rfl wl.heap.size (.slice po no co) os ((r : Int), px, nx, cx) ⟨w1.heap.size, 0, none⟩ 1 rfl ((HO.out.below hb1).alloc _) rfl (new_tree w1 _ rfl _ _ _ _) (by rw [HOL.out]; omega) (by simp; have := hb1.size; omega) ?_; intro vo' wo hAo hgo hko; have HAO : Hid (OwnE ET wo wl.heap.size vo' (os ++ [((r : Int), px, nx, cx)])) := hAo; have HGW : Hid ((w1.alloc (.cells #[.int .i64 r, .slice px nx cx] 37)).grownBy wo (Value.slice po no co).ownBlock) := hgo; have HKO : Hid (vo'.ownBlock = (Value.slice po no co).ownBlock ∨ vo'.ownBlock = some (w1.alloc (.cells #[.int .i64 r, .slice px nx cx] 37)).heap.size) := hko; clear hAo hgo hko; obtain ⟨po', co', hvo⟩ := HAO.out.form; rw [List.length_append, HOL.out] at hvo; have hvo' : vo' = .slice po' (no + 1) co' := hvo; clear hvo; subst hvo'; have hbal : Below wr.heap.size wr (w1.alloc (.cells #[.int .i64 r, .slice px nx cx] 37)) := hb1.alloc hb1.size _; have hso : wr.heap.size ≤ wo.heap.size := Nat.le_trans hbal.size HGW.out.size; have HGN : Hid (some g1 ≠ (Value.slice po no co).ownBlock) := (fun e => by have h1 := (World.ownsRow.lt HO.out g1 e.symm).2; omega); have hglo : g1 < wo.heap.size := Nat.lt_of_lt_of_le (show g1 < (w1.alloc (.cells #[.int .i64 r, .slice px nx cx] 37)).heap.size by simp; omega) HGW.out.size; have o0 : wo.cell? ⟨g1, 0, none⟩ = some (.slice px nx cx) := (World.cell?_of_block (a := ⟨g1, 0, none⟩) (HGW.out.block g1 (by simp; omega) HGN.out)).trans (((Below.refl w1.heap.size w1).alloc (Nat.le_refl _) _).cell (p := ⟨g1, 0, none⟩) hgl1 |>.trans q10)))
                    have HBO : Hid (Below wl.heap.size wl wo) := (HB.out.trans (Below.mono hbal HB.out.size)).trans (below_ownE ((HO.out.below hb1).alloc _) HGW.out (Nat.le_refl _) (by simp; have := HB.out.size; have := hb1.size; omega))
                    have HOUT : Hid (OutAt F wo (Value.slice po' (no + 1) co').ownBlock (os ++ [((r : Int), px, nx, cx)]) (hout ++ [(r, Lx)])) := by
                      have ho1 := (HOUTA.out.below hbal).kept HGW.out HKO.out
                      exact ho1.snoc (s := (px, nx, cx)) ((HSx.out.below hbal).kept HGW.out HKO.out)
                    have HSx' : Hid (SlB F wo (Value.slice po' (no + 1) co').ownBlock (.slice px nx cx) Lx) := (HSx.out.below hbal).kept HGW.out HKO.out
                    go_roundg (8 - (r + 1))
                    case measure => omega
                    case rel =>
                      exact ⟨r + 1, no + 1, co', 0, 0, po', none, (os ++ [((r : Int), px, nx, cx)]), hout ++ [(r, Lx)], [], rfl, rfl, by go_num, by omega, Nat.le_refl _, by omega, (show _ = _ by simp [HOL.out]), rfl, HAO, HOUT, (show SlB _ _ _ _ _ from ⟨none, 0, rfl, Nat.le_refl _, Or.inl rfl⟩), HTE, (show _ = _ from HGO.out.symm.trans HEQ.out), HBO⟩
                  · obtain rfl : nc = 0 := by omega
                    have hzx : (0 : Int) < (nx : Int) := by omega
                    have hzy : (0 : Int) < (ny : Int) := by omega
                    have HNE : Hid ((Lc = []) ∧ (Lx ≠ []) ∧ (Ly ≠ [])) := ⟨(List.eq_nil_of_length_eq_zero HNc.out), (fun e => by have := HNx.out; rw [e] at this; simp only [List.length_nil] at this; omega), (fun e => by have := HNy.out; rw [e] at this; simp only [List.length_nil] at this; omega)⟩
                    have HGO : Hid (hout ++ meldTo (digitH h1) (digitH h2) (8 - r) r Lc = (hout ++ []) ++ meldTo (digitH h1) (digitH h2) (8 - (r + 1)) (r + 1) (linkL Lx Ly)) := by
                      show _ = _
                      obtain ⟨e1, e2, e3⟩ := HNE.out
                      rw [show 8 - r = (8 - (r + 1)) + 1 by omega, meldTo_go (o := []) (c' := linkL Lx Ly) (by rw [HLX.out, HLY.out]; simp [pickL, optL, outD, putR, e1, e2, e3]) (by rw [HLX.out, HLY.out]; simp [pickL, optL, carD, e1, e2, e3]), List.append_assoc]
                    have HTE : Hid (TE (r + 1) (linkL Lx Ly)) := (by show TE _ _; obtain ⟨e1, e2, e3⟩ := HNE.out; obtain ⟨t1, t2, _⟩ := pick_step HTC.out HTX.out HTY.out; simpa [pickL, optL, carD, e1, e2, e3] using t2)
                    go_wp2_with (first | (at_builtin; refine wpList_appendE ES rfl (.tmp 68) (.tmp 73) rfl wr.heap.size (.slice none 0 0) [] (px, nx, cx) ⟨wr.heap.size, 0, none⟩ 1 rfl (OwnE.nil ES _ _) rfl (new_row wr _ rfl _ _ _) (by simp) (by simp) ?_; intro v1 w1 hA hg _; have hb1 : Below wr.heap.size wr w1 := ((Below.refl _ _).alloc (Nat.le_refl _) _).trans (below_ownE (OwnE.nil ES _ _) hg (Nat.le_refl _) (by simp)); have HL1 : Hid (OwnE ES w1 wr.heap.size v1 [(px, nx, cx)]) := hA; clear hA hg; obtain ⟨g1, cp1, hv1, hgb1, hcp1, hrd1, _⟩ := HL1.out.some (n := 1) rfl (by omega); have HR1 : Hid (RdE ES w1 g1 0 [(px, nx, cx)]) := hrd1; clear hrd1; subst hv1; have cx1 := HCX.out w1 hb1; have cy1 := HCY.out w1 hb1; have q10 : w1.cell? ⟨g1, 0, none⟩ = some (.slice px nx cx) := (by have := HR1.out.row (i := 0) rfl; rw [Nat.zero_add] at this; exact this); have hs1 : wr.heap.size ≤ w1.heap.size := hb1.size; have hgl1 : g1 < w1.heap.size := HR1.out.1) | (at_builtin; refine wpList_appendE ES rfl (.tmp 81) (.tmp 86) rfl wr.heap.size (.slice (some ⟨g1, 0, none⟩) 1 cp1) [(px, nx, cx)] (py, ny, cy) ⟨w1.heap.size, 0, none⟩ 1 rfl (HL1.out.alloc _) rfl (new_row w1 _ rfl _ _ _) (by simp) (by simp; have := hb1.size; omega) ?_; intro v2 w2 hA hg _; have hb2 : Below wr.heap.size wr w2 := (hb1.alloc hb1.size _).trans (below_ownE (HL1.out.alloc _) hg (Nat.le_refl _) (by simp; have := hb1.size; omega)); have HL2 : Hid (OwnE ES w2 wr.heap.size v2 [(px, nx, cx), (py, ny, cy)]) := hA; clear hA hg; obtain ⟨g2, cp2, hv2, hgb2, hcp2, hrd2, _⟩ := HL2.out.some (n := 2) rfl (by omega); have HR2 : Hid (RdE ES w2 g2 0 [(px, nx, cx), (py, ny, cy)]) := hrd2; clear hrd2; subst hv2; have cx2 := HCX.out w2 hb2; have cy2 := HCY.out w2 hb2; have q20 : w2.cell? ⟨g2, 0, none⟩ = some (.slice px nx cx) := (by have := HR2.out.row (i := 0) rfl; rw [Nat.zero_add] at this; exact this); have q21 : w2.cell? ⟨g2, 1, none⟩ = some (.slice py ny cy) := (by have := HR2.out.row (i := 1) rfl; rw [Nat.zero_add] at this; exact this); have hs2 : wr.heap.size ≤ w2.heap.size := hb2.size; have hgl2 : g2 < w2.heap.size := HR2.out.1))
                    have HBO : Hid (Below wl.heap.size wl w2) := HB.out.trans (Below.mono hb2 HB.out.size)
                    have HAO : Hid (OwnE ET w2 wl.heap.size (.slice po no co) os) := HO.out.below hb2
                    have HOUT : Hid (OutAt F w2 (Value.slice po no co).ownBlock os (hout ++ [])) := by show OutAt _ _ _ _ _; rw [List.append_nil]; exact HOUTA.out.below hb2
                    have HSx' : Hid (SlB F w2 (Value.slice po no co).ownBlock (.slice px nx cx) Lx) := HSx.out.below hb2
                    have HSy' : Hid (SlB F w2 (Value.slice po no co).ownBlock (.slice py ny cy) Ly) := HSy.out.below hb2
                    have hne : Lx ≠ [] ∧ Ly ≠ [] := by obtain ⟨e1, e2, e3⟩ := HNE.out; exact ⟨by assumption, by assumption⟩
                    have HNE2 : Hid (Lx ≠ [] ∧ Ly ≠ []) := hne
                    clear hne
                    have hk2 : IntKind.i64.wrap ((2 : Int) - 2) = 0 := by decide
                    have hk1 : IntKind.i64.wrap ((2 : Int) - 1) = 1 := by decide
                    go_region_with (first | (go_at_call 33; refine (link_any _ _ Lx Ly _ HNE2.out.1 HNE2.out.2 (by have := HMx.out; omega) (by have := HMy.out; omega) ?_ ?_).mono ?_; (exact (HSx'.out.below (below_drewN (Below.refl _ _) 1)).sl); (exact (HSy'.out.below (below_drewN (Below.refl _ _) 1)).sl); rintro e wz ⟨uz, rfl, hoz, hbz'⟩; have hbz : Below w2.heap.size w2 wz := (below_drewN (Below.refl _ _) 1).trans hbz'; have HZ : Hid (OwnI wz w2.heap.size uz (linkL Lx Ly)) := hoz; clear hoz hbz'))
                    all_goals
                      go_wp2
                      go_roundg (8 - (r + 1))
                      case measure => omega
                      case rel =>
                        have hf : SlB F wz (Value.slice po (no) co).ownBlock uz (linkL Lx Ly) := SlB.fresh HZ.out (fun g e => (World.ownsRow.lt HAO.out g e).2) fun g e => (by have := HFF.out g e; have := HBO.out.size; omega)
                        obtain ⟨pz, cz, hz, _⟩ := id hf
                        subst hz
                        exact ⟨r + 1, no, co, _, cz, po, pz, os, hout ++ [], linkL Lx Ly, rfl, rfl, by go_num, by omega, Nat.le_refl _, by omega, (show _ = _ by simp [HOL.out]), rfl, HAO.out.below hbz, HOUT.out.below hbz, hf, HTE, (show _ = _ from HGO.out.symm.trans HEQ.out), HBO.out.trans (Below.mono hbz HBO.out.size)⟩
              · rcases Nat.eq_zero_or_pos nx with hx0 | hx0
                · rcases Nat.eq_zero_or_pos ny with hy0 | hy0
                  · have hzc : (0 : Int) < (nc : Int) := by omega
                    obtain rfl : nx = 0 := by omega
                    obtain rfl : ny = 0 := by omega
                    have HNE : Hid ((Lc ≠ []) ∧ (Lx = []) ∧ (Ly = [])) := ⟨(fun e => by have := HNc.out; rw [e] at this; simp only [List.length_nil] at this; omega), (List.eq_nil_of_length_eq_zero HNx.out), (List.eq_nil_of_length_eq_zero HNy.out)⟩
                    have HGO : Hid (hout ++ meldTo (digitH h1) (digitH h2) (8 - r) r Lc = (hout ++ [(r, Lc)]) ++ meldTo (digitH h1) (digitH h2) (8 - (r + 1)) (r + 1) ([])) := by
                      show _ = _
                      obtain ⟨e1, e2, e3⟩ := HNE.out
                      rw [show 8 - r = (8 - (r + 1)) + 1 by omega, meldTo_go (o := [(r, Lc)]) (c' := []) (by rw [HLX.out, HLY.out]; simp [pickL, optL, outD, putR, e1, e2, e3]) (by rw [HLX.out, HLY.out]; simp [pickL, optL, carD, e1, e2, e3]), List.append_assoc]
                    have HTE : Hid (TE (r + 1) ([])) := Or.inl rfl
                    go_wp2_with (first | (at_builtin; refine wpList_appendE ES rfl (.tmp 58) (.tmp 60) rfl wr.heap.size (.slice none 0 0) [] (pc, nc, cc) ⟨wr.heap.size, 0, none⟩ 1 rfl (OwnE.nil ES _ _) rfl (new_row wr _ rfl _ _ _) (by simp) (by simp) ?_; intro v1 w1 hA hg _; have hb1 : Below wr.heap.size wr w1 := ((Below.refl _ _).alloc (Nat.le_refl _) _).trans (below_ownE (OwnE.nil ES _ _) hg (Nat.le_refl _) (by simp)); have HL1 : Hid (OwnE ES w1 wr.heap.size v1 [(pc, nc, cc)]) := hA; clear hA hg; obtain ⟨g1, cp1, hv1, hgb1, hcp1, hrd1, _⟩ := HL1.out.some (n := 1) rfl (by omega); have HR1 : Hid (RdE ES w1 g1 0 [(pc, nc, cc)]) := hrd1; clear hrd1; subst hv1; have cx1 := HCX.out w1 hb1; have cy1 := HCY.out w1 hb1; have q10 : w1.cell? ⟨g1, 0, none⟩ = some (.slice pc nc cc) := (by have := HR1.out.row (i := 0) rfl; rw [Nat.zero_add] at this; exact this); have hs1 : wr.heap.size ≤ w1.heap.size := hb1.size; have hgl1 : g1 < w1.heap.size := HR1.out.1) | (at_builtin; refine wpList_appendE ET rfl (.tmp 92) (.tmp 98) rfl wl.heap.size (.slice po no co) os ((r : Int), pc, nc, cc) ⟨w1.heap.size, 0, none⟩ 1 rfl ((HO.out.below hb1).alloc _) rfl (new_tree w1 _ rfl _ _ _ _) (by rw [HOL.out]; omega) (by simp; have := hb1.size; omega) ?_; intro vo' wo hAo hgo hko; have HAO : Hid (OwnE ET wo wl.heap.size vo' (os ++ [((r : Int), pc, nc, cc)])) := hAo; have HGW : Hid ((w1.alloc (.cells #[.int .i64 r, .slice pc nc cc] 37)).grownBy wo (Value.slice po no co).ownBlock) := hgo; have HKO : Hid (vo'.ownBlock = (Value.slice po no co).ownBlock ∨ vo'.ownBlock = some (w1.alloc (.cells #[.int .i64 r, .slice pc nc cc] 37)).heap.size) := hko; clear hAo hgo hko; obtain ⟨po', co', hvo⟩ := HAO.out.form; rw [List.length_append, HOL.out] at hvo; have hvo' : vo' = .slice po' (no + 1) co' := hvo; clear hvo; subst hvo'; have hbal : Below wr.heap.size wr (w1.alloc (.cells #[.int .i64 r, .slice pc nc cc] 37)) := hb1.alloc hb1.size _; have hso : wr.heap.size ≤ wo.heap.size := Nat.le_trans hbal.size HGW.out.size; have HGN : Hid (some g1 ≠ (Value.slice po no co).ownBlock) := (fun e => by have h1 := (World.ownsRow.lt HO.out g1 e.symm).2; omega); have hglo : g1 < wo.heap.size := Nat.lt_of_lt_of_le (show g1 < (w1.alloc (.cells #[.int .i64 r, .slice pc nc cc] 37)).heap.size by simp; omega) HGW.out.size; have o0 : wo.cell? ⟨g1, 0, none⟩ = some (.slice pc nc cc) := (World.cell?_of_block (a := ⟨g1, 0, none⟩) (HGW.out.block g1 (by simp; omega) HGN.out)).trans (((Below.refl w1.heap.size w1).alloc (Nat.le_refl _) _).cell (p := ⟨g1, 0, none⟩) hgl1 |>.trans q10)))
                    have HBO : Hid (Below wl.heap.size wl wo) := (HB.out.trans (Below.mono hbal HB.out.size)).trans (below_ownE ((HO.out.below hb1).alloc _) HGW.out (Nat.le_refl _) (by simp; have := HB.out.size; have := hb1.size; omega))
                    have HOUT : Hid (OutAt F wo (Value.slice po' (no + 1) co').ownBlock (os ++ [((r : Int), pc, nc, cc)]) (hout ++ [(r, Lc)])) := by
                      have ho1 := (HOUTA.out.below hbal).kept HGW.out HKO.out
                      exact ho1.snoc (s := (pc, nc, cc)) ((HSc.out.below hbal).kept HGW.out HKO.out)
                    have HSc' : Hid (SlB F wo (Value.slice po' (no + 1) co').ownBlock (.slice pc nc cc) Lc) := (HSc.out.below hbal).kept HGW.out HKO.out
                    go_roundg (8 - (r + 1))
                    case measure => omega
                    case rel =>
                      exact ⟨r + 1, no + 1, co', 0, 0, po', none, (os ++ [((r : Int), pc, nc, cc)]), hout ++ [(r, Lc)], [], rfl, rfl, by go_num, by omega, Nat.le_refl _, by omega, (show _ = _ by simp [HOL.out]), rfl, HAO, HOUT, (show SlB _ _ _ _ _ from ⟨none, 0, rfl, Nat.le_refl _, Or.inl rfl⟩), HTE, (show _ = _ from HGO.out.symm.trans HEQ.out), HBO⟩
                  · have hzc : (0 : Int) < (nc : Int) := by omega
                    obtain rfl : nx = 0 := by omega
                    have hzy : (0 : Int) < (ny : Int) := by omega
                    have HNE : Hid ((Lc ≠ []) ∧ (Lx = []) ∧ (Ly ≠ [])) := ⟨(fun e => by have := HNc.out; rw [e] at this; simp only [List.length_nil] at this; omega), (List.eq_nil_of_length_eq_zero HNx.out), (fun e => by have := HNy.out; rw [e] at this; simp only [List.length_nil] at this; omega)⟩
                    have HGO : Hid (hout ++ meldTo (digitH h1) (digitH h2) (8 - r) r Lc = (hout ++ []) ++ meldTo (digitH h1) (digitH h2) (8 - (r + 1)) (r + 1) (linkL Lc Ly)) := by
                      show _ = _
                      obtain ⟨e1, e2, e3⟩ := HNE.out
                      rw [show 8 - r = (8 - (r + 1)) + 1 by omega, meldTo_go (o := []) (c' := linkL Lc Ly) (by rw [HLX.out, HLY.out]; simp [pickL, optL, outD, putR, e1, e2, e3]) (by rw [HLX.out, HLY.out]; simp [pickL, optL, carD, e1, e2, e3]), List.append_assoc]
                    have HTE : Hid (TE (r + 1) (linkL Lc Ly)) := (by show TE _ _; obtain ⟨e1, e2, e3⟩ := HNE.out; obtain ⟨t1, t2, _⟩ := pick_step HTC.out HTX.out HTY.out; simpa [pickL, optL, carD, e1, e2, e3] using t2)
                    go_wp2_with (first | (at_builtin; refine wpList_appendE ES rfl (.tmp 58) (.tmp 60) rfl wr.heap.size (.slice none 0 0) [] (pc, nc, cc) ⟨wr.heap.size, 0, none⟩ 1 rfl (OwnE.nil ES _ _) rfl (new_row wr _ rfl _ _ _) (by simp) (by simp) ?_; intro v1 w1 hA hg _; have hb1 : Below wr.heap.size wr w1 := ((Below.refl _ _).alloc (Nat.le_refl _) _).trans (below_ownE (OwnE.nil ES _ _) hg (Nat.le_refl _) (by simp)); have HL1 : Hid (OwnE ES w1 wr.heap.size v1 [(pc, nc, cc)]) := hA; clear hA hg; obtain ⟨g1, cp1, hv1, hgb1, hcp1, hrd1, _⟩ := HL1.out.some (n := 1) rfl (by omega); have HR1 : Hid (RdE ES w1 g1 0 [(pc, nc, cc)]) := hrd1; clear hrd1; subst hv1; have cx1 := HCX.out w1 hb1; have cy1 := HCY.out w1 hb1; have q10 : w1.cell? ⟨g1, 0, none⟩ = some (.slice pc nc cc) := (by have := HR1.out.row (i := 0) rfl; rw [Nat.zero_add] at this; exact this); have hs1 : wr.heap.size ≤ w1.heap.size := hb1.size; have hgl1 : g1 < w1.heap.size := HR1.out.1) | (at_builtin; refine wpList_appendE ES rfl (.tmp 81) (.tmp 86) rfl wr.heap.size (.slice (some ⟨g1, 0, none⟩) 1 cp1) [(pc, nc, cc)] (py, ny, cy) ⟨w1.heap.size, 0, none⟩ 1 rfl (HL1.out.alloc _) rfl (new_row w1 _ rfl _ _ _) (by simp) (by simp; have := hb1.size; omega) ?_; intro v2 w2 hA hg _; have hb2 : Below wr.heap.size wr w2 := (hb1.alloc hb1.size _).trans (below_ownE (HL1.out.alloc _) hg (Nat.le_refl _) (by simp; have := hb1.size; omega)); have HL2 : Hid (OwnE ES w2 wr.heap.size v2 [(pc, nc, cc), (py, ny, cy)]) := hA; clear hA hg; obtain ⟨g2, cp2, hv2, hgb2, hcp2, hrd2, _⟩ := HL2.out.some (n := 2) rfl (by omega); have HR2 : Hid (RdE ES w2 g2 0 [(pc, nc, cc), (py, ny, cy)]) := hrd2; clear hrd2; subst hv2; have cx2 := HCX.out w2 hb2; have cy2 := HCY.out w2 hb2; have q20 : w2.cell? ⟨g2, 0, none⟩ = some (.slice pc nc cc) := (by have := HR2.out.row (i := 0) rfl; rw [Nat.zero_add] at this; exact this); have q21 : w2.cell? ⟨g2, 1, none⟩ = some (.slice py ny cy) := (by have := HR2.out.row (i := 1) rfl; rw [Nat.zero_add] at this; exact this); have hs2 : wr.heap.size ≤ w2.heap.size := hb2.size; have hgl2 : g2 < w2.heap.size := HR2.out.1))
                    have HBO : Hid (Below wl.heap.size wl w2) := HB.out.trans (Below.mono hb2 HB.out.size)
                    have HAO : Hid (OwnE ET w2 wl.heap.size (.slice po no co) os) := HO.out.below hb2
                    have HOUT : Hid (OutAt F w2 (Value.slice po no co).ownBlock os (hout ++ [])) := by show OutAt _ _ _ _ _; rw [List.append_nil]; exact HOUTA.out.below hb2
                    have HSc' : Hid (SlB F w2 (Value.slice po no co).ownBlock (.slice pc nc cc) Lc) := HSc.out.below hb2
                    have HSy' : Hid (SlB F w2 (Value.slice po no co).ownBlock (.slice py ny cy) Ly) := HSy.out.below hb2
                    have hne : Lc ≠ [] ∧ Ly ≠ [] := by obtain ⟨e1, e2, e3⟩ := HNE.out; exact ⟨by assumption, by assumption⟩
                    have HNE2 : Hid (Lc ≠ [] ∧ Ly ≠ []) := hne
                    clear hne
                    have hk2 : IntKind.i64.wrap ((2 : Int) - 2) = 0 := by decide
                    have hk1 : IntKind.i64.wrap ((2 : Int) - 1) = 1 := by decide
                    go_region_with (first | (go_at_call 33; refine (link_any _ _ Lc Ly _ HNE2.out.1 HNE2.out.2 (by have := HMc.out; omega) (by have := HMy.out; omega) ?_ ?_).mono ?_; (exact (HSc'.out.below (below_drewN (Below.refl _ _) 1)).sl); (exact (HSy'.out.below (below_drewN (Below.refl _ _) 1)).sl); rintro e wz ⟨uz, rfl, hoz, hbz'⟩; have hbz : Below w2.heap.size w2 wz := (below_drewN (Below.refl _ _) 1).trans hbz'; have HZ : Hid (OwnI wz w2.heap.size uz (linkL Lc Ly)) := hoz; clear hoz hbz'))
                    all_goals
                      go_wp2
                      go_roundg (8 - (r + 1))
                      case measure => omega
                      case rel =>
                        have hf : SlB F wz (Value.slice po (no) co).ownBlock uz (linkL Lc Ly) := SlB.fresh HZ.out (fun g e => (World.ownsRow.lt HAO.out g e).2) fun g e => (by have := HFF.out g e; have := HBO.out.size; omega)
                        obtain ⟨pz, cz, hz, _⟩ := id hf
                        subst hz
                        exact ⟨r + 1, no, co, _, cz, po, pz, os, hout ++ [], linkL Lc Ly, rfl, rfl, by go_num, by omega, Nat.le_refl _, by omega, (show _ = _ by simp [HOL.out]), rfl, HAO.out.below hbz, HOUT.out.below hbz, hf, HTE, (show _ = _ from HGO.out.symm.trans HEQ.out), HBO.out.trans (Below.mono hbz HBO.out.size)⟩
                · rcases Nat.eq_zero_or_pos ny with hy0 | hy0
                  · have hzc : (0 : Int) < (nc : Int) := by omega
                    have hzx : (0 : Int) < (nx : Int) := by omega
                    obtain rfl : ny = 0 := by omega
                    have HNE : Hid ((Lc ≠ []) ∧ (Lx ≠ []) ∧ (Ly = [])) := ⟨(fun e => by have := HNc.out; rw [e] at this; simp only [List.length_nil] at this; omega), (fun e => by have := HNx.out; rw [e] at this; simp only [List.length_nil] at this; omega), (List.eq_nil_of_length_eq_zero HNy.out)⟩
                    have HGO : Hid (hout ++ meldTo (digitH h1) (digitH h2) (8 - r) r Lc = (hout ++ []) ++ meldTo (digitH h1) (digitH h2) (8 - (r + 1)) (r + 1) (linkL Lc Lx)) := by
                      show _ = _
                      obtain ⟨e1, e2, e3⟩ := HNE.out
                      rw [show 8 - r = (8 - (r + 1)) + 1 by omega, meldTo_go (o := []) (c' := linkL Lc Lx) (by rw [HLX.out, HLY.out]; simp [pickL, optL, outD, putR, e1, e2, e3]) (by rw [HLX.out, HLY.out]; simp [pickL, optL, carD, e1, e2, e3]), List.append_assoc]
                    have HTE : Hid (TE (r + 1) (linkL Lc Lx)) := (by show TE _ _; obtain ⟨e1, e2, e3⟩ := HNE.out; obtain ⟨t1, t2, _⟩ := pick_step HTC.out HTX.out HTY.out; simpa [pickL, optL, carD, e1, e2, e3] using t2)
                    go_wp2_with (first | (at_builtin; refine wpList_appendE ES rfl (.tmp 58) (.tmp 60) rfl wr.heap.size (.slice none 0 0) [] (pc, nc, cc) ⟨wr.heap.size, 0, none⟩ 1 rfl (OwnE.nil ES _ _) rfl (new_row wr _ rfl _ _ _) (by simp) (by simp) ?_; intro v1 w1 hA hg _; have hb1 : Below wr.heap.size wr w1 := ((Below.refl _ _).alloc (Nat.le_refl _) _).trans (below_ownE (OwnE.nil ES _ _) hg (Nat.le_refl _) (by simp)); have HL1 : Hid (OwnE ES w1 wr.heap.size v1 [(pc, nc, cc)]) := hA; clear hA hg; obtain ⟨g1, cp1, hv1, hgb1, hcp1, hrd1, _⟩ := HL1.out.some (n := 1) rfl (by omega); have HR1 : Hid (RdE ES w1 g1 0 [(pc, nc, cc)]) := hrd1; clear hrd1; subst hv1; have cx1 := HCX.out w1 hb1; have cy1 := HCY.out w1 hb1; have q10 : w1.cell? ⟨g1, 0, none⟩ = some (.slice pc nc cc) := (by have := HR1.out.row (i := 0) rfl; rw [Nat.zero_add] at this; exact this); have hs1 : wr.heap.size ≤ w1.heap.size := hb1.size; have hgl1 : g1 < w1.heap.size := HR1.out.1) | (at_builtin; refine wpList_appendE ES rfl (.tmp 68) (.tmp 73) rfl wr.heap.size (.slice (some ⟨g1, 0, none⟩) 1 cp1) [(pc, nc, cc)] (px, nx, cx) ⟨w1.heap.size, 0, none⟩ 1 rfl (HL1.out.alloc _) rfl (new_row w1 _ rfl _ _ _) (by simp) (by simp; have := hb1.size; omega) ?_; intro v2 w2 hA hg _; have hb2 : Below wr.heap.size wr w2 := (hb1.alloc hb1.size _).trans (below_ownE (HL1.out.alloc _) hg (Nat.le_refl _) (by simp; have := hb1.size; omega)); have HL2 : Hid (OwnE ES w2 wr.heap.size v2 [(pc, nc, cc), (px, nx, cx)]) := hA; clear hA hg; obtain ⟨g2, cp2, hv2, hgb2, hcp2, hrd2, _⟩ := HL2.out.some (n := 2) rfl (by omega); have HR2 : Hid (RdE ES w2 g2 0 [(pc, nc, cc), (px, nx, cx)]) := hrd2; clear hrd2; subst hv2; have cx2 := HCX.out w2 hb2; have cy2 := HCY.out w2 hb2; have q20 : w2.cell? ⟨g2, 0, none⟩ = some (.slice pc nc cc) := (by have := HR2.out.row (i := 0) rfl; rw [Nat.zero_add] at this; exact this); have q21 : w2.cell? ⟨g2, 1, none⟩ = some (.slice px nx cx) := (by have := HR2.out.row (i := 1) rfl; rw [Nat.zero_add] at this; exact this); have hs2 : wr.heap.size ≤ w2.heap.size := hb2.size; have hgl2 : g2 < w2.heap.size := HR2.out.1))
                    have HBO : Hid (Below wl.heap.size wl w2) := HB.out.trans (Below.mono hb2 HB.out.size)
                    have HAO : Hid (OwnE ET w2 wl.heap.size (.slice po no co) os) := HO.out.below hb2
                    have HOUT : Hid (OutAt F w2 (Value.slice po no co).ownBlock os (hout ++ [])) := by show OutAt _ _ _ _ _; rw [List.append_nil]; exact HOUTA.out.below hb2
                    have HSc' : Hid (SlB F w2 (Value.slice po no co).ownBlock (.slice pc nc cc) Lc) := HSc.out.below hb2
                    have HSx' : Hid (SlB F w2 (Value.slice po no co).ownBlock (.slice px nx cx) Lx) := HSx.out.below hb2
                    have hne : Lc ≠ [] ∧ Lx ≠ [] := by obtain ⟨e1, e2, e3⟩ := HNE.out; exact ⟨by assumption, by assumption⟩
                    have HNE2 : Hid (Lc ≠ [] ∧ Lx ≠ []) := hne
                    clear hne
                    have hk2 : IntKind.i64.wrap ((2 : Int) - 2) = 0 := by decide
                    have hk1 : IntKind.i64.wrap ((2 : Int) - 1) = 1 := by decide
                    go_region_with (first | (go_at_call 33; refine (link_any _ _ Lc Lx _ HNE2.out.1 HNE2.out.2 (by have := HMc.out; omega) (by have := HMx.out; omega) ?_ ?_).mono ?_; (exact (HSc'.out.below (below_drewN (Below.refl _ _) 1)).sl); (exact (HSx'.out.below (below_drewN (Below.refl _ _) 1)).sl); rintro e wz ⟨uz, rfl, hoz, hbz'⟩; have hbz : Below w2.heap.size w2 wz := (below_drewN (Below.refl _ _) 1).trans hbz'; have HZ : Hid (OwnI wz w2.heap.size uz (linkL Lc Lx)) := hoz; clear hoz hbz'))
                    all_goals
                      go_wp2
                      go_roundg (8 - (r + 1))
                      case measure => omega
                      case rel =>
                        have hf : SlB F wz (Value.slice po (no) co).ownBlock uz (linkL Lc Lx) := SlB.fresh HZ.out (fun g e => (World.ownsRow.lt HAO.out g e).2) fun g e => (by have := HFF.out g e; have := HBO.out.size; omega)
                        obtain ⟨pz, cz, hz, _⟩ := id hf
                        subst hz
                        exact ⟨r + 1, no, co, _, cz, po, pz, os, hout ++ [], linkL Lc Lx, rfl, rfl, by go_num, by omega, Nat.le_refl _, by omega, (show _ = _ by simp [HOL.out]), rfl, HAO.out.below hbz, HOUT.out.below hbz, hf, HTE, (show _ = _ from HGO.out.symm.trans HEQ.out), HBO.out.trans (Below.mono hbz HBO.out.size)⟩
                  · have hzc : (0 : Int) < (nc : Int) := by omega
                    have hzx : (0 : Int) < (nx : Int) := by omega
                    have hzy : (0 : Int) < (ny : Int) := by omega
                    have HNE : Hid ((Lc ≠ []) ∧ (Lx ≠ []) ∧ (Ly ≠ [])) := ⟨(fun e => by have := HNc.out; rw [e] at this; simp only [List.length_nil] at this; omega), (fun e => by have := HNx.out; rw [e] at this; simp only [List.length_nil] at this; omega), (fun e => by have := HNy.out; rw [e] at this; simp only [List.length_nil] at this; omega)⟩
                    have HGO : Hid (hout ++ meldTo (digitH h1) (digitH h2) (8 - r) r Lc = (hout ++ [(r, Lc)]) ++ meldTo (digitH h1) (digitH h2) (8 - (r + 1)) (r + 1) (linkL Lx Ly)) := by
                      show _ = _
                      obtain ⟨e1, e2, e3⟩ := HNE.out
                      rw [show 8 - r = (8 - (r + 1)) + 1 by omega, meldTo_go (o := [(r, Lc)]) (c' := linkL Lx Ly) (by rw [HLX.out, HLY.out]; simp [pickL, optL, outD, putR, e1, e2, e3]) (by rw [HLX.out, HLY.out]; simp [pickL, optL, carD, e1, e2, e3]), List.append_assoc]
                    have HTE : Hid (TE (r + 1) (linkL Lx Ly)) := (by show TE _ _; obtain ⟨e1, e2, e3⟩ := HNE.out; obtain ⟨t1, t2, _⟩ := pick_step HTC.out HTX.out HTY.out; simpa [pickL, optL, carD, e1, e2, e3] using t2)
                    go_wp2_with (first | (at_builtin; refine wpList_appendE ES rfl (.tmp 58) (.tmp 60) rfl wr.heap.size (.slice none 0 0) [] (pc, nc, cc) ⟨wr.heap.size, 0, none⟩ 1 rfl (OwnE.nil ES _ _) rfl (new_row wr _ rfl _ _ _) (by simp) (by simp) ?_; intro v1 w1 hA hg _; have hb1 : Below wr.heap.size wr w1 := ((Below.refl _ _).alloc (Nat.le_refl _) _).trans (below_ownE (OwnE.nil ES _ _) hg (Nat.le_refl _) (by simp)); have HL1 : Hid (OwnE ES w1 wr.heap.size v1 [(pc, nc, cc)]) := hA; clear hA hg; obtain ⟨g1, cp1, hv1, hgb1, hcp1, hrd1, _⟩ := HL1.out.some (n := 1) rfl (by omega); have HR1 : Hid (RdE ES w1 g1 0 [(pc, nc, cc)]) := hrd1; clear hrd1; subst hv1; have cx1 := HCX.out w1 hb1; have cy1 := HCY.out w1 hb1; have q10 : w1.cell? ⟨g1, 0, none⟩ = some (.slice pc nc cc) := (by have := HR1.out.row (i := 0) rfl; rw [Nat.zero_add] at this; exact this); have hs1 : wr.heap.size ≤ w1.heap.size := hb1.size; have hgl1 : g1 < w1.heap.size := HR1.out.1) | (at_builtin; refine wpList_appendE ES rfl (.tmp 68) (.tmp 73) rfl wr.heap.size (.slice (some ⟨g1, 0, none⟩) 1 cp1) [(pc, nc, cc)] (px, nx, cx) ⟨w1.heap.size, 0, none⟩ 1 rfl (HL1.out.alloc _) rfl (new_row w1 _ rfl _ _ _) (by simp) (by simp; have := hb1.size; omega) ?_; intro v2 w2 hA hg _; have hb2 : Below wr.heap.size wr w2 := (hb1.alloc hb1.size _).trans (below_ownE (HL1.out.alloc _) hg (Nat.le_refl _) (by simp; have := hb1.size; omega)); have HL2 : Hid (OwnE ES w2 wr.heap.size v2 [(pc, nc, cc), (px, nx, cx)]) := hA; clear hA hg; obtain ⟨g2, cp2, hv2, hgb2, hcp2, hrd2, _⟩ := HL2.out.some (n := 2) rfl (by omega); have HR2 : Hid (RdE ES w2 g2 0 [(pc, nc, cc), (px, nx, cx)]) := hrd2; clear hrd2; subst hv2; have cx2 := HCX.out w2 hb2; have cy2 := HCY.out w2 hb2; have q20 : w2.cell? ⟨g2, 0, none⟩ = some (.slice pc nc cc) := (by have := HR2.out.row (i := 0) rfl; rw [Nat.zero_add] at this; exact this); have q21 : w2.cell? ⟨g2, 1, none⟩ = some (.slice px nx cx) := (by have := HR2.out.row (i := 1) rfl; rw [Nat.zero_add] at this; exact this); have hs2 : wr.heap.size ≤ w2.heap.size := hb2.size; have hgl2 : g2 < w2.heap.size := HR2.out.1) | (at_builtin; refine wpList_appendE ES rfl (.tmp 81) (.tmp 86) rfl wr.heap.size (.slice (some ⟨g2, 0, none⟩) 2 cp2) [(pc, nc, cc), (px, nx, cx)] (py, ny, cy) ⟨w2.heap.size, 0, none⟩ 1 rfl (HL2.out.alloc _) rfl (new_row w2 _ rfl _ _ _) (by simp) (by simp; have := hb2.size; omega) ?_; intro v3 w3 hA hg _; have hb3 : Below wr.heap.size wr w3 := (hb2.alloc hb2.size _).trans (below_ownE (HL2.out.alloc _) hg (Nat.le_refl _) (by simp; have := hb2.size; omega)); have HL3 : Hid (OwnE ES w3 wr.heap.size v3 [(pc, nc, cc), (px, nx, cx), (py, ny, cy)]) := hA; clear hA hg; obtain ⟨g3, cp3, hv3, hgb3, hcp3, hrd3, _⟩ := HL3.out.some (n := 3) rfl (by omega); have HR3 : Hid (RdE ES w3 g3 0 [(pc, nc, cc), (px, nx, cx), (py, ny, cy)]) := hrd3; clear hrd3; subst hv3; have cx3 := HCX.out w3 hb3; have cy3 := HCY.out w3 hb3; have q30 : w3.cell? ⟨g3, 0, none⟩ = some (.slice pc nc cc) := (by have := HR3.out.row (i := 0) rfl; rw [Nat.zero_add] at this; exact this); have q31 : w3.cell? ⟨g3, 1, none⟩ = some (.slice px nx cx) := (by have := HR3.out.row (i := 1) rfl; rw [Nat.zero_add] at this; exact this); have q32 : w3.cell? ⟨g3, 2, none⟩ = some (.slice py ny cy) := (by have := HR3.out.row (i := 2) rfl; rw [Nat.zero_add] at this; exact this); have hs3 : wr.heap.size ≤ w3.heap.size := hb3.size; have hgl3 : g3 < w3.heap.size := HR3.out.1) | (at_builtin; refine wpList_appendE ET rfl (.tmp 92) (.tmp 98) rfl wl.heap.size (.slice po no co) os ((r : Int), pc, nc, cc) ⟨w3.heap.size, 0, none⟩ 1 rfl ((HO.out.below hb3).alloc _) rfl (new_tree w3 _ rfl _ _ _ _) (by rw [HOL.out]; omega) (by simp; have := hb3.size; omega) ?_; intro vo' wo hAo hgo hko; have HAO : Hid (OwnE ET wo wl.heap.size vo' (os ++ [((r : Int), pc, nc, cc)])) := hAo; have HGW : Hid ((w3.alloc (.cells #[.int .i64 r, .slice pc nc cc] 37)).grownBy wo (Value.slice po no co).ownBlock) := hgo; have HKO : Hid (vo'.ownBlock = (Value.slice po no co).ownBlock ∨ vo'.ownBlock = some (w3.alloc (.cells #[.int .i64 r, .slice pc nc cc] 37)).heap.size) := hko; clear hAo hgo hko; obtain ⟨po', co', hvo⟩ := HAO.out.form; rw [List.length_append, HOL.out] at hvo; have hvo' : vo' = .slice po' (no + 1) co' := hvo; clear hvo; subst hvo'; have hbal : Below wr.heap.size wr (w3.alloc (.cells #[.int .i64 r, .slice pc nc cc] 37)) := hb3.alloc hb3.size _; have hso : wr.heap.size ≤ wo.heap.size := Nat.le_trans hbal.size HGW.out.size; have HGN : Hid (some g3 ≠ (Value.slice po no co).ownBlock) := (fun e => by have h1 := (World.ownsRow.lt HO.out g3 e.symm).2; omega); have hglo : g3 < wo.heap.size := Nat.lt_of_lt_of_le (show g3 < (w3.alloc (.cells #[.int .i64 r, .slice pc nc cc] 37)).heap.size by simp; omega) HGW.out.size; have o0 : wo.cell? ⟨g3, 0, none⟩ = some (.slice pc nc cc) := (World.cell?_of_block (a := ⟨g3, 0, none⟩) (HGW.out.block g3 (by simp; omega) HGN.out)).trans (((Below.refl w3.heap.size w3).alloc (Nat.le_refl _) _).cell (p := ⟨g3, 0, none⟩) hgl3 |>.trans q30); have o1 : wo.cell? ⟨g3, 1, none⟩ = some (.slice px nx cx) := (World.cell?_of_block (a := ⟨g3, 1, none⟩) (HGW.out.block g3 (by simp; omega) HGN.out)).trans (((Below.refl w3.heap.size w3).alloc (Nat.le_refl _) _).cell (p := ⟨g3, 1, none⟩) hgl3 |>.trans q31); have o2 : wo.cell? ⟨g3, 2, none⟩ = some (.slice py ny cy) := (World.cell?_of_block (a := ⟨g3, 2, none⟩) (HGW.out.block g3 (by simp; omega) HGN.out)).trans (((Below.refl w3.heap.size w3).alloc (Nat.le_refl _) _).cell (p := ⟨g3, 2, none⟩) hgl3 |>.trans q32)))
                    have HBO : Hid (Below wl.heap.size wl wo) := (HB.out.trans (Below.mono hbal HB.out.size)).trans (below_ownE ((HO.out.below hb3).alloc _) HGW.out (Nat.le_refl _) (by simp; have := HB.out.size; have := hb3.size; omega))
                    have HOUT : Hid (OutAt F wo (Value.slice po' (no + 1) co').ownBlock (os ++ [((r : Int), pc, nc, cc)]) (hout ++ [(r, Lc)])) := by
                      have ho1 := (HOUTA.out.below hbal).kept HGW.out HKO.out
                      exact ho1.snoc (s := (pc, nc, cc)) ((HSc.out.below hbal).kept HGW.out HKO.out)
                    have HSc' : Hid (SlB F wo (Value.slice po' (no + 1) co').ownBlock (.slice pc nc cc) Lc) := (HSc.out.below hbal).kept HGW.out HKO.out
                    have HSx' : Hid (SlB F wo (Value.slice po' (no + 1) co').ownBlock (.slice px nx cx) Lx) := (HSx.out.below hbal).kept HGW.out HKO.out
                    have HSy' : Hid (SlB F wo (Value.slice po' (no + 1) co').ownBlock (.slice py ny cy) Ly) := (HSy.out.below hbal).kept HGW.out HKO.out
                    have hne : Lx ≠ [] ∧ Ly ≠ [] := by obtain ⟨e1, e2, e3⟩ := HNE.out; exact ⟨by assumption, by assumption⟩
                    have HNE2 : Hid (Lx ≠ [] ∧ Ly ≠ []) := hne
                    clear hne
                    have hk2 : IntKind.i64.wrap ((3 : Int) - 2) = 1 := by decide
                    have hk1 : IntKind.i64.wrap ((3 : Int) - 1) = 2 := by decide
                    go_region_with (first | (go_at_call 33; refine (link_any _ _ Lx Ly _ HNE2.out.1 HNE2.out.2 (by have := HMx.out; omega) (by have := HMy.out; omega) ?_ ?_).mono ?_; (exact (HSx'.out.below (below_drewN (Below.refl _ _) 1)).sl); (exact (HSy'.out.below (below_drewN (Below.refl _ _) 1)).sl); rintro e wz ⟨uz, rfl, hoz, hbz'⟩; have hbz : Below wo.heap.size wo wz := (below_drewN (Below.refl _ _) 1).trans hbz'; have HZ : Hid (OwnI wz wo.heap.size uz (linkL Lx Ly)) := hoz; clear hoz hbz'))
                    all_goals
                      go_wp2
                      go_roundg (8 - (r + 1))
                      case measure => omega
                      case rel =>
                        have hf : SlB F wz (Value.slice po' (no + 1) co').ownBlock uz (linkL Lx Ly) := SlB.fresh HZ.out (fun g e => (World.ownsRow.lt HAO.out g e).2) fun g e => (by have := HFF.out g e; have := HBO.out.size; omega)
                        obtain ⟨pz, cz, hz, _⟩ := id hf
                        subst hz
                        exact ⟨r + 1, no + 1, co', _, cz, po', pz, (os ++ [((r : Int), pc, nc, cc)]), hout ++ [(r, Lc)], linkL Lx Ly, rfl, rfl, by go_num, by omega, Nat.le_refl _, by omega, (show _ = _ by simp [HOL.out]), rfl, HAO.out.below hbz, HOUT.out.below hbz, hf, HTE, (show _ = _ from HGO.out.symm.trans HEQ.out), HBO.out.trans (Below.mono hbz HBO.out.size)⟩
            · have hr8z : ¬ (r : Int) < 8 := by omega
              obtain rfl : r = 8 := by omega
              have HE : Hid (hout = meldH h1 h2) := by show _ = _; rw [← HEQ.out]; simp [meldTo]
              go_wp2
              go_ret
              exact ⟨_, rfl, ⟨os, HO.out.weak (by omega), by rw [← HE.out]; exact HOUTA.out⟩, Below.trans HB.out (Below.mono HBR.out HB.out.size)⟩
end Go.Proofs.YtmkjalpgeljnkaaDoor

/-
  The document's answers on lists of items: what is wrong with them.
-/
namespace Go.Proofs.YtmkjalpgeljnkaaDoor
open Go.RowKit Go.Sort Go.Proofs

theorem in_any (n lo hi : Int) (w : World) : Calls Tryd.prog 26 #[.int .i64 n, .int .i64 lo, .int .i64 hi] w fun e w' => e = .returned (.bool (decide (lo ≤ n) && decide (n ≤ hi))) ∧ w' = w := by
  by_cases h1 : lo ≤ n
  · by_cases h2 : n ≤ hi
    · rw [decide_eq_true h1, decide_eq_true h2]
      go_enter Tryd.func26, Tryd.ntmps26
      go_wp2
      go_ret
      exact ⟨rfl, rfl⟩
    · rw [decide_eq_true h1, decide_eq_false h2]
      go_enter Tryd.func26, Tryd.ntmps26
      go_wp2
      go_ret
      exact ⟨rfl, rfl⟩
  · rw [decide_eq_false h1, Bool.false_and]
    go_enter Tryd.func26, Tryd.ntmps26
    go_wp2
    go_ret
    exact ⟨rfl, rfl⟩
theorem ret_int {a b : Int} (h : a = b) : Ending.returned (.int .i64 b) = .returned (.int .i64 a) := by rw [h]

def outN (xs : Array (Int × Int)) : Int := if anyOut xs then 1 else 0
theorem refItems_many (p : Option Addr) (n cap : Nat) (w : World) (h : 60 < n) (hbig : n ≤ 9223372036854775807) :
    Calls Tryd.prog 14 #[.slice p n cap] w fun e w' => e = .returned (.int .i64 4) ∧ w' = w := by
  have hz : (60 : Int) < (n : Int) := by omega
  go_enter Tryd.func14, Tryd.ntmps14
  go_wp2
  go_ret
  exact ⟨rfl, rfl⟩
theorem refItems_none (p : Option Addr) (cap : Nat) (w : World) :
    Calls Tryd.prog 14 #[.slice p 0 cap] w fun e w' => e = .returned (.int .i64 0) ∧ w' = w := by
  go_enter Tryd.func14, Tryd.ntmps14
  go_wp2
  go_loop [3] (fun i => i = .int .i64 0) (fun _ => 0)
  case atStart => rfl
  case round =>
    subst hrel
    go_wp2
    go_ret
    exact ⟨rfl, rfl⟩
set_option maxHeartbeats 2000000 in
theorem refItems_some (blk off cap n : Nat) (xs : Array (Int × Int)) (w : World) (hx : RdAt w blk off xs) (hn : Hid (xs.size = n)) (hsz : n ≤ 60) :
    Calls Tryd.prog 14 #[.slice (some ⟨blk, off, none⟩) n cap] w fun e w' => e = .returned (.int .i64 (outN xs)) ∧ w' = w := by
  have HX : Aside _ := hx
  clear hx
  go_enter Tryd.func14, Tryd.ntmps14
  go_wp2
  go_loop [3] (fun vi => ∃ i : Nat, vi = .int .i64 i ∧ i ≤ n ∧ Aside (∀ j, j < i → outB xs[j]! = false)) (fun vi => n - (intOf vi).toNat)
  case atStart => exact ⟨0, rfl, Nat.zero_le _, (show Aside _ from fun j hj => by omega)⟩
  case round =>
    obtain ⟨i, rfl, hin, HO⟩ := hrel
    by_cases hlt : i < n
    · have hlz : (i : Int) < (n : Int) := by omega
      obtain ⟨x, y, hxy⟩ : ∃ x y, xs[i]! = (x, y) := ⟨_, _, rfl⟩
      obtain ⟨c0, c1⟩ := HX.out.2 i (by rw [hn.out]; exact hlt)
      rw [hxy] at c0 c1
      have HXY : Hid (xs[i]! = (x, y)) := hxy
      clear hxy
      have k1 := in_any x (-1000000) 1000000 w
      have k2 := in_any y 0 1000000 w
      by_cases h1 : -1000000 ≤ x ∧ x ≤ 1000000
      · rw [decide_eq_true h1.1, decide_eq_true h1.2] at k1
        by_cases h2 : 0 ≤ y ∧ y ≤ 1000000
        · rw [decide_eq_true h2.1, decide_eq_true h2.2] at k2
          have HF : Hid (outB (x, y) = false) := decide_eq_false (by simp only; omega)
          clear h1 h2
          go_wp2_with fail
          refine k1.mono ?_
          rintro e w1 ⟨rfl, rfl⟩
          go_wp2_with fail
          refine k2.mono ?_
          rintro e w1 ⟨rfl, rfl⟩
          go_wp2
          go_round
          case rel =>
            refine ⟨i + 1, by go_num, by omega, (show Aside _ from fun j hj => ?_)⟩
            rcases Nat.lt_or_ge j i with c | c
            · exact HO.out j c
            · obtain rfl : j = i := by omega
              rw [HXY.out]; exact HF.out
          case measure => simp [intOf]; omega
        · have e2 : (decide (0 ≤ y) && decide (y ≤ 1000000)) = false := by simpa using h2
          rw [e2] at k2
          have hany : anyOut xs = true := anyOut_true (k := i) (by rw [hn.out]; exact hlt) (by rw [HXY.out]; exact decide_eq_true (by simp only; omega))
          have HA : Hid (outN xs = 1) := by show _ = _; unfold outN; rw [hany]; rfl
          clear h1 h2 e2 hany
          go_wp2_with fail
          refine k1.mono ?_
          rintro e w1 ⟨rfl, rfl⟩
          go_wp2_with fail
          refine k2.mono ?_
          rintro e w1 ⟨rfl, rfl⟩
          go_wp2
          go_ret
          exact ⟨ret_int HA.out, rfl⟩
      · have e1 : (decide (-1000000 ≤ x) && decide (x ≤ 1000000)) = false := by simpa using h1
        rw [e1] at k1
        have hany : anyOut xs = true := anyOut_true (k := i) (by rw [hn.out]; exact hlt) (by rw [HXY.out]; exact decide_eq_true (by simp only; omega))
        have HA : Hid (outN xs = 1) := by show _ = _; unfold outN; rw [hany]; rfl
        clear h1 e1 hany
        go_wp2_with fail
        refine k1.mono ?_
        rintro e w1 ⟨rfl, rfl⟩
        go_wp2
        go_ret
        exact ⟨ret_int HA.out, rfl⟩
    · have hlz : ¬ (i : Int) < (n : Int) := by omega
      have hany : anyOut xs = false := anyOut_false fun j hj => HO.out j (by rw [hn.out] at hj; omega)
      have HA : Hid (outN xs = 0) := by show _ = _; unfold outN; rw [hany]; rfl
      clear hany
      go_wp2
      go_ret
      exact ⟨ret_int HA.out, rfl⟩
theorem refItems_any (v : Value) (xs : Array (Int × Int)) (w : World) (h : Sl w v xs) (hbig : xs.size ≤ 9223372036854775807) :
    Calls Tryd.prog 14 #[v] w fun e w' => e = .returned (.int .i64 (wrong xs : Nat)) ∧ w' = w := by
  obtain ⟨p, cap, rfl, _, hp⟩ := h
  unfold wrong
  by_cases h60 : 60 < xs.size
  · rw [if_pos h60]; exact refItems_many p _ cap w h60 hbig
  · rw [if_neg h60]
    rcases hp with hp | ⟨blk, off, rfl, hr⟩
    · rw [show anyOut xs = false from anyOut_false fun i hi => by omega, hp]; exact refItems_none p cap w
    · have := refItems_some blk off cap xs.size xs w hr rfl (by omega)
      unfold outN at this
      cases h : anyOut xs <;> rw [h] at this <;> exact this
end Go.Proofs.YtmkjalpgeljnkaaDoor
