/-
  The law BinoHolds, walked: melded it is a heap of trees still, with the items of both; as is what is left when the least is popped.
-/
import Derived.Test.YtmkjalpgeljnkaaDoorPBag
import Derived.Test.YtmkjalpgeljnkaaDoorBothW
import Derived.Test.YtmkjalpgeljnkaaDoorWithW
import Derived.Test.YtmkjalpgeljnkaaDoorTold
namespace Go.Proofs.YtmkjalpgeljnkaaDoor
open Go.RowKit Go.Sort Go.Proofs

set_option maxHeartbeats 4000000 in
theorem binoHolds_A (p p' : Option Addr) (n cap n' cap' : Nat) (w : World)
    (C1 : Hid (∀ w1, Below w.heap.size w w1 → Calls Tryd.prog 19 #[.slice p n cap] w1 fun e w' => ∃ q m c, e = .returned (.tuple #[.slice q m c, .bool false]) ∧ Below w1.heap.size w1 w'))
    (C2 : Hid (∀ w1, Below w.heap.size w w1 → Calls Tryd.prog 19 #[.slice p' n' cap'] w1 fun e w' => ∃ q m c b, e = .returned (.tuple #[.slice q m c, .bool b]) ∧ Below w1.heap.size w1 w')) :
    Calls Tryd.prog 4 #[.slice p n cap, .slice p' n' cap'] w fun e w' => e = .returned (.bool true) ∧ Below w.heap.size w w' := by
  have c0 := binoFact_any w
  go_enter Tryd.func4, Tryd.ntmps4
  go_wp2_with fail
  refine c0.mono ?_
  rintro e w1 ⟨rfl, hb1⟩
  clear c0
  go_wp2_with fail
  refine (C1.out w1 hb1).mono ?_
  rintro e w2 ⟨q1, m1, c1, rfl, hb2'⟩
  have hb2 := hb1.trans (hb2'.mono hb1.size)
  clear hb2' hb1
  go_wp2_with fail
  refine (C2.out w2 hb2).mono ?_
  rintro e w3 ⟨q2, m2, c2, b, rfl, hb3'⟩
  have hb3 := hb2.trans (hb3'.mono hb2.size)
  clear hb3' hb2
  go_wp2
  go_ret
  exact ⟨rfl, hb3⟩
set_option maxHeartbeats 4000000 in
theorem binoHolds_B (p p' : Option Addr) (n cap n' cap' : Nat) (w : World)
    (C1 : Hid (∀ w1, Below w.heap.size w w1 → Calls Tryd.prog 19 #[.slice p n cap] w1 fun e w' => ∃ q m c, e = .returned (.tuple #[.slice q m c, .bool true]) ∧ Below w1.heap.size w1 w'))
    (C2 : Hid (∀ w1, Below w.heap.size w w1 → Calls Tryd.prog 19 #[.slice p' n' cap'] w1 fun e w' => ∃ q m c, e = .returned (.tuple #[.slice q m c, .bool false]) ∧ Below w1.heap.size w1 w')) :
    Calls Tryd.prog 4 #[.slice p n cap, .slice p' n' cap'] w fun e w' => e = .returned (.bool true) ∧ Below w.heap.size w w' := by
  have c0 := binoFact_any w
  go_enter Tryd.func4, Tryd.ntmps4
  go_wp2_with fail
  refine c0.mono ?_
  rintro e w1 ⟨rfl, hb1⟩
  clear c0
  go_wp2_with fail
  refine (C1.out w1 hb1).mono ?_
  rintro e w2 ⟨q1, m1, c1, rfl, hb2'⟩
  have hb2 := hb1.trans (hb2'.mono hb1.size)
  clear hb2' hb1
  go_wp2_with fail
  refine (C2.out w2 hb2).mono ?_
  rintro e w3 ⟨q2, m2, c2, rfl, hb3'⟩
  have hb3 := hb2.trans (hb3'.mono hb2.size)
  clear hb3' hb2
  go_wp2
  go_ret
  exact ⟨rfl, hb3⟩
set_option maxHeartbeats 8000000 in
set_option maxRecDepth 4000 in
theorem binoHolds_C (p p' : Option Addr) (n cap n' cap' : Nat) (xs ys : Array (Int × Int)) (w : World) (hn : n ≤ 60) (hn' : n' ≤ 60) (HN : Hid (xs.size = n)) (HN' : Hid (ys.size = n')) (HS : Hid (Sl w (.slice p n cap) xs)) (HS' : Hid (Sl w (.slice p' n' cap') ys)) (HW : Hid (wrong xs = 0)) (HW' : Hid (wrong ys = 0)) (hgl : Glob w) (h60 : 60 < n + n') :
    Calls Tryd.prog 4 #[.slice p n cap, .slice p' n' cap'] w fun e w' => e = .returned (.bool true) ∧ Below w.heap.size w w' := by
  have c0 := binoFact_any w
  go_enter Tryd.func4, Tryd.ntmps4
  go_wp2_with fail
  refine c0.mono ?_
  rintro e w1 ⟨rfl, hb1⟩
  clear c0
  go_wp2_with fail
  refine (planted_good _ xs w1 (HS.out.below hb1) HW.out).mono ?_
  rintro e w2 ⟨q1, l1, c1, g1, rfl, hs1, hg1, hb2'⟩
  rw [HN.out] at hg1
  have hb2 := hb1.trans (hb2'.mono hb1.size)
  have HS1 : Hid (HpAt w2 (.slice q1 l1 c1) (zH g1)) := hs1
  have HG1 : Hid (Plants xs n g1) := hg1
  clear hb2' hb1 hs1 hg1
  go_wp2_with fail
  refine (planted_good _ ys w2 (HS'.out.below hb2) HW'.out).mono ?_
  rintro e w3 ⟨q2, l2, c2, g2, rfl, hs2, hg2, hb3'⟩
  rw [HN'.out] at hg2
  have hb3 := hb2.trans (hb3'.mono hb2.size)
  have HA3 : Hid (HpAt w3 (.slice q1 l1 c1) (zH g1)) := HS1.out.below hb3'
  have HB3 : Hid (HpAt w3 (.slice q2 l2 c2) (zH g2)) := hs2
  have HG2 : Hid (Plants ys n' g2) := hg2
  clear hb3' hb2 hs2 hg2 HS1
  have cM := dMeld_bad _ _ _ _ 4 w3 HA3.out HB3.out HG1.out.ok.fit HG2.out.ok.fit (by unfold meldE; rw [if_pos (binoE_ok HG1.out.ok), if_pos (binoE_ok HG2.out.ok), if_pos (by rw [sizeZ_zH, sizeZ_zH, HG1.out.size, HG2.out.size]; exact h60)]) (by decide)
  go_wp2_with fail
  refine cM.mono ?_
  rintro e w4 ⟨rfl, hb4'⟩
  have hb4 := hb3.trans (hb4'.mono hb3.size)
  have cE := error_any 4 4 w4 (hgl.below hb4)
  have hw : IntKind.i64.wrap ((n : Int) + (n' : Int)) = (n : Int) + (n' : Int) := by rw [IntKind.wrap_i64]; omega
  have hz : (60 : Int) < (n : Int) + (n' : Int) := by omega
  clear hb4' cM
  go_wp2_with fail
  refine cE.mono ?_
  rintro e w5 ⟨rfl, hb5'⟩
  have hb5 := hb4.trans (hb5'.mono hb4.size)
  go_wp2
  go_ret
  exact ⟨rfl, hb5⟩
set_option maxHeartbeats 16000000 in
set_option maxRecDepth 4000 in
theorem binoHolds_D (p p' : Option Addr) (n cap n' cap' : Nat) (xs ys : Array (Int × Int)) (w : World) (_hn : n ≤ 60) (_hn' : n' ≤ 60) (HN : Hid (xs.size = n)) (HN' : Hid (ys.size = n')) (HS : Hid (Sl w (.slice p n cap) xs)) (HS' : Hid (Sl w (.slice p' n' cap') ys)) (HW : Hid (wrong xs = 0)) (HW' : Hid (wrong ys = 0)) (hgl : Glob w) (h60 : n + n' ≤ 60) :
    Calls Tryd.prog 4 #[.slice p n cap, .slice p' n' cap'] w fun e w' => e = .returned (.bool true) ∧ Below w.heap.size w w' := by
  have c0 := binoFact_any w
  go_enter Tryd.func4, Tryd.ntmps4
  go_wp2_with fail
  refine c0.mono ?_
  rintro e w1 ⟨rfl, hb1⟩
  clear c0
  go_wp2_with fail
  refine (planted_good _ xs w1 (HS.out.below hb1) HW.out).mono ?_
  rintro e w2 ⟨q1, l1, c1, g1, rfl, hs1, hg1, hb2'⟩
  rw [HN.out] at hg1
  have hb2 := hb1.trans (hb2'.mono hb1.size)
  have HS1 : Hid (HpAt w2 (.slice q1 l1 c1) (zH g1)) := hs1
  have HG1 : Hid (Plants xs n g1) := hg1
  clear hb2' hb1 hs1 hg1
  go_wp2_with fail
  refine (planted_good _ ys w2 (HS'.out.below hb2) HW'.out).mono ?_
  rintro e w3 ⟨q2, l2, c2, g2, rfl, hs2, hg2, hb3'⟩
  rw [HN'.out] at hg2
  have hb3 := hb2.trans (hb3'.mono hb2.size)
  have HA3 : Hid (HpAt w3 (.slice q1 l1 c1) (zH g1)) := HS1.out.below hb3'
  have HB3 : Hid (HpAt w3 (.slice q2 l2 c2) (zH g2)) := hs2
  have HG2 : Hid (Plants ys n' g2) := hg2
  clear hb3' hb2 hs2 hg2 HS1
  have cM := dMeld_good _ _ g1 g2 w3 HA3.out HB3.out HG1.out.ok HG2.out.ok (by rw [HG1.out.size, HG2.out.size]; exact h60)
  have hmm := HG1.out.ok.meld HG2.out.ok (by rw [HG1.out.size, HG2.out.size]; exact h60)
  have HOK : Hid (OkH (meldH g1 g2)) := hmm.1
  have HZ : Hid ((itemsH (meldH g1 g2)).length = n + n') := by show _ = _; rw [hmm.2.length_eq, List.length_append, HG1.out.size, HG2.out.size]
  have HP : Hid ((itemsH (meldH g1 g2)).Perm (xs.toList ++ ys.toList)) := hmm.2.trans (List.Perm.append (HG1.out.items HN.out) (HG2.out.items HN'.out))
  clear hmm
  go_wp2_with fail
  refine cM.mono ?_
  rintro e w4 ⟨v4, rfl, ho4, hb4'⟩
  have hb4 := hb3.trans (hb4'.mono hb3.size)
  generalize meldH g1 g2 = M at HOK HZ HP ho4
  have HM0 : Hid (HpAt w4 v4 (zH M)) := ho4.heap
  obtain ⟨pm, cm, hv4⟩ := HM0.out.form
  rw [zH_len] at hv4
  subst hv4
  obtain ⟨NM, hNM⟩ : ∃ NM, M.length = NM := ⟨_, rfl⟩
  have HM : Hid (HpAt w4 (.slice pm NM cm) (zH M)) := by show HpAt _ _ _; rw [← hNM]; exact HM0.out
  have HNM : Hid (M.length = NM) := hNM
  have hNM60 : NM ≤ 60 := by rw [← hNM]; exact HOK.out.len_le
  rw [hNM]
  clear ho4 hb4' cM HA3 HB3 HG1 HG2 HM0 hNM
  have cK := dcheck_any _ _ w4 HM.out HOK.out.fit.1 HOK.out.fit.2
  rw [binoE_ok HOK.out, errV_zero] at cK
  go_wp2_with fail
  refine cK.mono ?_
  rintro e w5 ⟨rfl, hb5'⟩
  have hb5 := hb4.trans (hb5'.mono hb4.size)
  have HM5 : Hid (HpAt w5 (.slice pm NM cm) (zH M)) := HM.out.below hb5'
  clear cK hb5' HM hb4 hb3
  have cI := treeItems_heap _ M w5 HM5.out HOK.out
  rw [HZ.out] at cI
  go_wp2_with fail
  refine cI.mono ?_
  rintro e w6 ⟨pi, ci, rfl, hs6, hb6'⟩
  have hb6 := hb5.trans (hb6'.mono hb5.size)
  have HM6 : Hid (HpAt w6 (.slice pm NM cm) (zH M)) := HM5.out.below hb6'
  have HI6 : Hid (Sl w6 (.slice pi (n + n') ci) (itemsH M).toArray) := hs6
  clear cI hb6' HM5 hb5 hs6
  have CB : Hid (∀ w1, Below w.heap.size w w1 → Calls Tryd.prog 22 #[.slice p n cap, .slice p' n' cap'] w1 fun e w' => ∃ u, e = .returned u ∧ Sl w' u (xs.toList ++ ys.toList).toArray ∧ Below w1.heap.size w1 w') := fun w1 hb =>
    (both_any p p' cap cap' n n' xs ys w1 (HS.out.below hb) (HS'.out.below hb) (by rw [HN.out, HN'.out]; omega)).mono fun e w' ⟨u, a, b, c⟩ => ⟨u, a, b.sl, c⟩
  go_wp2_with fail
  refine (CB.out w6 hb6).mono ?_
  rintro e w7 ⟨u7, rfl, hs7, hb7'⟩
  have hb7 := hb6.trans (hb7'.mono hb6.size)
  have HM7 : Hid (HpAt w7 (.slice pm NM cm) (zH M)) := HM6.out.below hb7'
  have cG := bag_perm _ _ _ _ w7 (HI6.out.below hb7') hs7 HP.out (by rw [HZ.out]; omega)
  clear hb7' HM6 HI6 hb6 hs7
  go_wp2_with fail
  refine cG.mono ?_
  rintro e w8 ⟨rfl, hb8'⟩
  have hb8 := hb7.trans (hb8'.mono hb7.size)
  have HM8 : Hid (HpAt w8 (.slice pm NM cm) (zH M)) := HM7.out.below hb8'
  clear hb8' cG HM7 hb7
  rcases Nat.eq_zero_or_pos NM with hN0 | hN0
  · subst hN0
    have hM0 : M = [] := List.eq_nil_of_length_eq_zero HNM.out
    have cP := dPop_bad _ _ 5 w8 HM8.out HOK.out.fit (by unfold popE; rw [if_pos (binoE_ok HOK.out), if_pos (by rw [hM0]; rfl)]) (by decide)
    clear hM0
    go_wp2_with fail
    refine cP.mono ?_
    rintro e w9 ⟨rfl, hb9'⟩
    have hb9 := hb8.trans (hb9'.mono hb8.size)
    have hb10 : Below w.heap.size w (w9.alloc (.cells #[.int .i64 0, .int .i64 0] 24)) := hb9.alloc hb9.size _
    have cE := error_any 5 5 _ (hgl.below hb10)
    clear cP hb9'
    go_wp2_with fail
    refine cE.mono ?_
    rintro e w11 ⟨rfl, hb11'⟩
    have hb11 := hb10.trans (hb11'.mono hb10.size)
    go_wp2
    go_ret
    exact ⟨rfl, hb11⟩
  · have hMn : M ≠ [] := fun e => by have := HNM.out; rw [e] at this; simp at this; omega
    obtain ⟨⟨k, i⟩, hRO, hRP, _, cP⟩ := dPop_ok _ M w8 HM8.out HOK.out hMn
    clear hMn
    have hNq : ((NM : Int) == 0) = false := beq_eq_false_iff_ne.2 (by omega)
    have HRO : Hid (OkH (popH M)) := hRO
    have hRZ : (itemsH (popH M)).length + 1 = n + n' := by have := hRP.length_eq; rw [List.length_cons, HZ.out] at this; exact this
    have HRP : Hid ((itemsH (popH M) ++ [(k, i)]).Perm (xs.toList ++ ys.toList)) := by
      show List.Perm _ _
      exact (List.perm_append_singleton _ _).trans (hRP.trans HP.out)
    obtain ⟨NR, hNR⟩ : ∃ NR, (itemsH (popH M)).length = NR := ⟨_, rfl⟩
    have HRZ : Hid ((itemsH (popH M)).length = NR) := hNR
    have hNR60 : NR ≤ 60 := by omega
    clear hRO hRP hRZ hNR
    go_wp2_with fail
    refine cP.mono ?_
    rintro e w9 ⟨v9, rfl, ho9, hb9'⟩
    have hb9 := hb8.trans (hb9'.mono hb8.size)
    have HR9 : Hid (HpAt w9 v9 (zH (popH M))) := ho9.heap
    obtain ⟨pr, cr, hv9⟩ := HR9.out.form
    obtain ⟨LR, hLR⟩ : ∃ LR, (zH (popH M)).length = LR := ⟨_, rfl⟩
    rw [hLR] at hv9
    subst hv9
    generalize popH M = R at *
    have al : Below w9.heap.size w9 (w9.alloc (.cells #[.int .i64 k, .int .i64 i] 24)) := (Below.refl _ _).alloc (Nat.le_refl _) _
    have HR10 : Hid (HpAt (w9.alloc (.cells #[.int .i64 k, .int .i64 i] 24)) (.slice pr LR cr) (zH R)) := HR9.out.below al
    have hb10 : Below w.heap.size w (w9.alloc (.cells #[.int .i64 k, .int .i64 i] 24)) := hb9.alloc hb9.size _
    have x0 : (w9.alloc (.cells #[.int .i64 k, .int .i64 i] 24)).cell? ⟨w9.heap.size, 0, none⟩ = some (.int .i64 k) := by simp
    have x1 : (w9.alloc (.cells #[.int .i64 k, .int .i64 i] 24)).cell? ⟨w9.heap.size, 1, none⟩ = some (.int .i64 i) := by simp
    have hxl : w9.heap.size < (w9.alloc (.cells #[.int .i64 k, .int .i64 i] 24)).heap.size := by simp
    clear cP hb9' ho9 hb9 hb8 HM8 HZ HOK al HP HR9 hLR HNM
    go_wp2_with fail
    generalize w9.alloc (.cells #[.int .i64 k, .int .i64 i] 24) = wa at HR10 hb10 x0 x1 hxl ⊢
    generalize w9.heap.size = bx at x0 x1 hxl ⊢
    have CC : Hid (∀ w1, Below wa.heap.size wa w1 → Calls Tryd.prog 9 #[.slice pr LR cr] w1 fun e w' => e = .returned .nilIface ∧ Below w1.heap.size w1 w') := fun w1 hb => by
      have := dcheck_any _ _ w1 (HR10.out.below hb) HRO.out.fit.1 HRO.out.fit.2
      rw [binoE_ok HRO.out, errV_zero] at this
      exact this
    have CI : Hid (∀ w1, Below wa.heap.size wa w1 → Calls Tryd.prog 21 #[.slice pr LR cr] w1 fun e w' => ∃ p c, e = .returned (.slice p NR c) ∧ Sl w' (.slice p NR c) (itemsH R).toArray ∧ Below w1.heap.size w1 w') := fun w1 hb => by
      have := treeItems_heap _ R w1 (HR10.out.below hb) HRO.out
      rw [HRZ.out] at this
      exact this
    have CW : Hid (∀ w1 p c, Sl w1 (.slice p NR c) (itemsH R).toArray → Calls Tryd.prog 23 #[.slice p NR c, .agg #[.int .i64 k, .int .i64 i]] w1 fun e w' => ∃ u, e = .returned u ∧ Sl w' u (itemsH R ++ [(k, i)]).toArray ∧ Below w1.heap.size w1 w') := fun w1 p c hs => by
      have := with_any p NR c k i _ w1 (show _ = _ by rw [List.size_toArray, HRZ.out]) (by omega) hs
      rw [show (itemsH R).toArray.push (k, i) = (itemsH R ++ [(k, i)]).toArray by simp] at this
      exact this
    have CG : Hid (∀ w1 u v, Sl w1 u (itemsH R ++ [(k, i)]).toArray → Sl w1 v (xs.toList ++ ys.toList).toArray → Calls Tryd.prog 20 #[u, v] w1 fun e w' => e = .returned (.bool true) ∧ Below w1.heap.size w1 w') := fun w1 u v h1 h2 =>
      bag_perm u v _ _ w1 h1 h2 HRP.out (by rw [List.length_append, HRZ.out]; simp; omega)
    go_region_held3 (fun w' => w'.cell? ⟨bx, 0, none⟩ = some (.int .i64 k) ∧ w'.cell? ⟨bx, 1, none⟩ = some (.int .i64 i)) (first | go_keep | (exact ⟨r0, r1⟩) | (exact ⟨s0, s1⟩) | (exact ⟨z0, z1⟩) | (exact ⟨y0, y1⟩) | (exact ⟨o0, o1⟩)) (first | (go_at_call 9; refine (CC.out _ ?_).mono ?_; (exact below_drewN (Below.refl _ _) 1); rintro e wb ⟨rfl, hbb'⟩; have hbb : Below wa.heap.size wa wb := (below_drewN (Below.refl _ _) 1).trans hbb'; have o0 := (hbb.cell (p := ⟨bx, 0, none⟩) hxl).trans x0; have o1 := (hbb.cell (p := ⟨bx, 1, none⟩) hxl).trans x1; clear hbb') | (go_at_call 21; refine (CI.out _ hbb).mono ?_; rintro e wc ⟨pc, cc, rfl, hsc, hbc'⟩; have hbc := hbb.trans (hbc'.mono hbb.size); have r0 := (hbc.cell (p := ⟨bx, 0, none⟩) hxl).trans x0; have r1 := (hbc.cell (p := ⟨bx, 1, none⟩) hxl).trans x1; have HSC : Hid (Sl wc (.slice pc NR cc) (itemsH R).toArray) := hsc; clear hsc hbc') | (go_at_call 23; refine (CW.out _ _ _ HSC.out).mono ?_; rintro e wd ⟨ud, rfl, hsd, hbd'⟩; have hbd := hbc.trans (hbd'.mono hbc.size); have s0 := (hbd.cell (p := ⟨bx, 0, none⟩) hxl).trans x0; have s1 := (hbd.cell (p := ⟨bx, 1, none⟩) hxl).trans x1; have HSD : Hid (Sl wd ud (itemsH R ++ [(k, i)]).toArray) := hsd; clear hsd hbd') | (go_at_call 22; refine (CB.out _ (hb10.trans (Below.mono hbd hb10.size))).mono ?_; rintro e we ⟨ue, rfl, hse, hbe'⟩; have hbe := hbd.trans (hbe'.mono hbd.size); have z0 := (hbe.cell (p := ⟨bx, 0, none⟩) hxl).trans x0; have z1 := (hbe.cell (p := ⟨bx, 1, none⟩) hxl).trans x1; have HSE : Hid (Sl we ue (xs.toList ++ ys.toList).toArray) := hse; have HSD' : Hid (Sl we ud (itemsH R ++ [(k, i)]).toArray) := HSD.out.below hbe'; clear hse hbe') | (go_at_call 20; refine (CG.out _ _ _ HSD'.out HSE.out).mono ?_; rintro e wf ⟨rfl, hbf'⟩; have hbf := hbe.trans (hbf'.mono hbe.size); have y0 := (hbf.cell (p := ⟨bx, 0, none⟩) hxl).trans x0; have y1 := (hbf.cell (p := ⟨bx, 1, none⟩) hxl).trans x1; clear hbf'))
    all_goals
      go_wp2
      go_ret
      exact ⟨rfl, hb10.trans (Below.mono hbf hb10.size)⟩

theorem binoHolds_any (v v' : Value) (xs ys : Array (Int × Int)) (w : World) (h : Sl w v xs) (h' : Sl w v' ys) (hbig : xs.size ≤ 9223372036854775807) (hbig' : ys.size ≤ 9223372036854775807) (hgl : Glob w) :
    Calls Tryd.prog 4 #[v, v'] w fun e w' => e = .returned (.bool true) ∧ Below w.heap.size w w' := by
  obtain ⟨p, cap, rfl, hcap, hp⟩ := id h
  obtain ⟨p', cap', rfl, hcap', hp'⟩ := id h'
  by_cases h0 : wrong xs = 0
  · by_cases h0' : wrong ys = 0
    · by_cases h60 : 60 < xs.size + ys.size
      · exact binoHolds_C p p' _ cap _ cap' xs ys w (wrong_le h0) (wrong_le h0') rfl rfl h h' h0 h0' hgl h60
      · exact binoHolds_D p p' _ cap _ cap' xs ys w (wrong_le h0) (wrong_le h0') rfl rfl h h' h0 h0' hgl (by omega)
    · exact binoHolds_B p p' _ cap _ cap' w (fun w1 hb => (planted_good _ xs w1 (h.below hb) h0).mono fun e w' ⟨a, m, b, _, c, _, _, d⟩ => ⟨a, m, b, c, d⟩) (fun w1 hb => (planted_bad _ ys w1 (h'.below hb) hbig' h0').mono fun e w' ⟨a, b, c, d, e⟩ => ⟨a, b, c, d, e⟩)
  · refine binoHolds_A p p' _ cap _ cap' w (fun w1 hb => (planted_bad _ xs w1 (h.below hb) hbig h0).mono fun e w' ⟨a, b, c, d, e⟩ => ⟨a, b, c, d, e⟩) (fun w1 hb => ?_)
    by_cases h0' : wrong ys = 0
    · exact (planted_good _ ys w1 (h'.below hb) h0').mono fun e w' ⟨a, m, b, _, c, _, _, d⟩ => ⟨a, m, b, true, c, d⟩
    · exact (planted_bad _ ys w1 (h'.below hb) hbig' h0').mono fun e w' ⟨a, b, c, d, e⟩ => ⟨a, b, c, false, d, e⟩
#print axioms binoHolds_any
end Go.Proofs.YtmkjalpgeljnkaaDoor
