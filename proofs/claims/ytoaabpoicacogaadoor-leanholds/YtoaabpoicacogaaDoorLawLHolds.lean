/-
  The law LeanHolds, walked: melded it leans still, with the items of both; as is what is left when the least is popped.
-/
import Derived.Test.YtoaabpoicacogaaDoorLBag
import Derived.Test.YtoaabpoicacogaaDoorBothW
import Derived.Test.YtoaabpoicacogaaDoorWithW
import Derived.Test.YtoaabpoicacogaaDoorTold
namespace Go.Proofs.YtoaabpoicacogaaDoor
open Go.RowKit Go.Sort Go.Proofs

set_option maxHeartbeats 4000000 in
theorem leanHolds_A (p p' : Option Addr) (n cap n' cap' : Nat) (w : World)
    (C1 : Hid (∀ w1, Below w.heap.size w w1 → Calls Tryd.prog 19 #[.slice p n cap] w1 fun e w' => ∃ q m c, e = .returned (.tuple #[.slice q m c, .bool false]) ∧ Below w1.heap.size w1 w'))
    (C2 : Hid (∀ w1, Below w.heap.size w w1 → Calls Tryd.prog 19 #[.slice p' n' cap'] w1 fun e w' => ∃ q m c b, e = .returned (.tuple #[.slice q m c, .bool b]) ∧ Below w1.heap.size w1 w')) :
    Calls Tryd.prog 4 #[.slice p n cap, .slice p' n' cap'] w fun e w' => e = .returned (.bool true) ∧ Below w.heap.size w w' := by
  have c0 := leanFact_any w
  go_enter Tryd.func4, Tryd.ntmps4
  go_wp2_with fail
  refine c0.mono ?_
  rintro e w1 ⟨rfl, hb1⟩
  clear c0
  go_wp2_with fail
  refine (C1.out w1 hb1).mono ?_
  rintro e w2 ⟨q1, m1, c1, rfl, hb2'⟩
  have hb2 := hb1.trans (hb2'.mono hb1.size)
  clear hb2' hb1
  go_wp2_with fail
  refine (C2.out w2 hb2).mono ?_
  rintro e w3 ⟨q2, m2, c2, b, rfl, hb3'⟩
  have hb3 := hb2.trans (hb3'.mono hb2.size)
  clear hb3' hb2
  go_wp2
  go_ret
  exact ⟨rfl, hb3⟩
set_option maxHeartbeats 4000000 in
theorem leanHolds_B (p p' : Option Addr) (n cap n' cap' : Nat) (w : World)
    (C1 : Hid (∀ w1, Below w.heap.size w w1 → Calls Tryd.prog 19 #[.slice p n cap] w1 fun e w' => ∃ q m c, e = .returned (.tuple #[.slice q m c, .bool true]) ∧ Below w1.heap.size w1 w'))
    (C2 : Hid (∀ w1, Below w.heap.size w w1 → Calls Tryd.prog 19 #[.slice p' n' cap'] w1 fun e w' => ∃ q m c, e = .returned (.tuple #[.slice q m c, .bool false]) ∧ Below w1.heap.size w1 w')) :
    Calls Tryd.prog 4 #[.slice p n cap, .slice p' n' cap'] w fun e w' => e = .returned (.bool true) ∧ Below w.heap.size w w' := by
  have c0 := leanFact_any w
  go_enter Tryd.func4, Tryd.ntmps4
  go_wp2_with fail
  refine c0.mono ?_
  rintro e w1 ⟨rfl, hb1⟩
  clear c0
  go_wp2_with fail
  refine (C1.out w1 hb1).mono ?_
  rintro e w2 ⟨q1, m1, c1, rfl, hb2'⟩
  have hb2 := hb1.trans (hb2'.mono hb1.size)
  clear hb2' hb1
  go_wp2_with fail
  refine (C2.out w2 hb2).mono ?_
  rintro e w3 ⟨q2, m2, c2, rfl, hb3'⟩
  have hb3 := hb2.trans (hb3'.mono hb2.size)
  clear hb3' hb2
  go_wp2
  go_ret
  exact ⟨rfl, hb3⟩
set_option maxHeartbeats 8000000 in
set_option maxRecDepth 4000 in
theorem leanHolds_C (p p' : Option Addr) (n cap n' cap' : Nat) (xs ys : Array (Int × Int)) (w : World) (hn : n ≤ 60) (hn' : n' ≤ 60) (HN : Hid (xs.size = n)) (HN' : Hid (ys.size = n')) (HS : Hid (Sl w (.slice p n cap) xs)) (HS' : Hid (Sl w (.slice p' n' cap') ys)) (HW : Hid (wrong xs = 0)) (HW' : Hid (wrong ys = 0)) (hgl : Glob w) (h60 : 60 < n + n') :
    Calls Tryd.prog 4 #[.slice p n cap, .slice p' n' cap'] w fun e w' => e = .returned (.bool true) ∧ Below w.heap.size w w' := by
  have c0 := leanFact_any w
  go_enter Tryd.func4, Tryd.ntmps4
  go_wp2_with fail
  refine c0.mono ?_
  rintro e w1 ⟨rfl, hb1⟩
  clear c0
  go_wp2_with fail
  refine (grown_good _ xs w1 (HS.out.below hb1) HW.out).mono ?_
  rintro e w2 ⟨q1, c1, t1, he, hs1, hg1, hb2'⟩
  rw [HN.out] at he hs1 hg1
  subst he
  have hb2 := hb1.trans (hb2'.mono hb1.size)
  have HS1 : Hid (SlE EN w2 (.slice q1 n c1) (LT.enc 0 t1)) := hs1
  have HG1 : Hid (GrowsL xs n t1) := hg1
  clear hb2' hb1 hs1 hg1
  go_wp2_with fail
  refine (grown_good _ ys w2 (HS'.out.below hb2) HW'.out).mono ?_
  rintro e w3 ⟨q2, c2, t2, he, hs2, hg2, hb3'⟩
  rw [HN'.out] at he hs2 hg2
  subst he
  have hb3 := hb2.trans (hb3'.mono hb2.size)
  have HA3 : Hid (SlE EN w3 (.slice q1 n c1) (LT.enc 0 t1)) := HS1.out.below hb3'
  have HB3 : Hid (SlE EN w3 (.slice q2 n' c2) (LT.enc 0 t2)) := hs2
  have HG2 : Hid (GrowsL ys n' t2) := hg2
  clear hb3' hb2 hs2 hg2 HS1
  have cM := leanMeld_bad _ _ _ _ 4 w3 HA3.out HB3.out (by rw [LT.enc_length, HG1.out.size]; omega) (by rw [LT.enc_length, HG2.out.size]; omega) (Or.inr ⟨t1, HG1.out.isL hn, Or.inr ⟨t2, HG2.out.isL hn', by rw [HG1.out.size, HG2.out.size]; exact h60, rfl⟩⟩)
  go_wp2_with fail
  refine cM.mono ?_
  rintro e w4 ⟨rfl, hb4'⟩
  have hb4 := hb3.trans (hb4'.mono hb3.size)
  have cE := error_any 4 4 w4 (hgl.below hb4)
  have hw : IntKind.i64.wrap ((n : Int) + (n' : Int)) = (n : Int) + (n' : Int) := by rw [IntKind.wrap_i64]; omega
  have hz : (60 : Int) < (n : Int) + (n' : Int) := by omega
  clear hb4' cM
  go_wp2_with fail
  refine cE.mono ?_
  rintro e w5 ⟨rfl, hb5'⟩
  have hb5 := hb4.trans (hb5'.mono hb4.size)
  go_wp2
  go_ret
  exact ⟨rfl, hb5⟩
set_option maxHeartbeats 16000000 in
set_option maxRecDepth 4000 in
theorem leanHolds_D (p p' : Option Addr) (n cap n' cap' : Nat) (xs ys : Array (Int × Int)) (w : World) (hn : n ≤ 60) (hn' : n' ≤ 60) (HN : Hid (xs.size = n)) (HN' : Hid (ys.size = n')) (HS : Hid (Sl w (.slice p n cap) xs)) (HS' : Hid (Sl w (.slice p' n' cap') ys)) (HW : Hid (wrong xs = 0)) (HW' : Hid (wrong ys = 0)) (hgl : Glob w) (h60 : n + n' ≤ 60) :
    Calls Tryd.prog 4 #[.slice p n cap, .slice p' n' cap'] w fun e w' => e = .returned (.bool true) ∧ Below w.heap.size w w' := by
  have c0 := leanFact_any w
  go_enter Tryd.func4, Tryd.ntmps4
  go_wp2_with fail
  refine c0.mono ?_
  rintro e w1 ⟨rfl, hb1⟩
  clear c0
  go_wp2_with fail
  refine (grown_good _ xs w1 (HS.out.below hb1) HW.out).mono ?_
  rintro e w2 ⟨q1, c1, t1, he, hs1, hg1, hb2'⟩
  rw [HN.out] at he hs1 hg1
  subst he
  have hb2 := hb1.trans (hb2'.mono hb1.size)
  have HS1 : Hid (SlE EN w2 (.slice q1 n c1) (LT.enc 0 t1)) := hs1
  have HG1 : Hid (GrowsL xs n t1) := hg1
  clear hb2' hb1 hs1 hg1
  go_wp2_with fail
  refine (grown_good _ ys w2 (HS'.out.below hb2) HW'.out).mono ?_
  rintro e w3 ⟨q2, c2, t2, he, hs2, hg2, hb3'⟩
  rw [HN'.out] at he hs2 hg2
  subst he
  have hb3 := hb2.trans (hb3'.mono hb2.size)
  have HA3 : Hid (SlE EN w3 (.slice q1 n c1) (LT.enc 0 t1)) := HS1.out.below hb3'
  have HB3 : Hid (SlE EN w3 (.slice q2 n' c2) (LT.enc 0 t2)) := hs2
  have HG2 : Hid (GrowsL ys n' t2) := hg2
  clear hb3' hb2 hs2 hg2 HS1
  have cM := leanMeld_good _ _ _ _ t1 t2 w3 HA3.out HB3.out (HG1.out.isL hn) (HG2.out.isL hn') (by rw [HG1.out.size, HG2.out.size]; exact h60)
  have HL : Hid (IsL (LT.enc 0 (LT.meld t1 t2)) (LT.meld t1 t2)) := (HG1.out.isL hn).meld (HG2.out.isL hn') (by rw [HG1.out.size, HG2.out.size]; exact h60)
  have HZ : Hid ((LT.meld t1 t2).size = n + n') := by show _ = _; rw [LT.meld_size, HG1.out.size, HG2.out.size]
  go_wp2_with fail
  refine cM.mono ?_
  rintro e w4 ⟨v4, rfl, ho4, hb4'⟩
  have hb4 := hb3.trans (hb4'.mono hb3.size)
  obtain ⟨pm, cm, hv4⟩ := ho4.form
  rw [LT.enc_length, HZ.out] at hv4
  subst hv4
  have HM : Hid (SlE EN w4 (.slice pm (n + n') cm) (LT.enc 0 (LT.meld t1 t2))) := ho4.sl
  have HP : Hid ((LT.meld t1 t2).items.Perm (xs.toList ++ ys.toList)) := melded_items HG1.out HG2.out HN.out HN'.out
  clear ho4 hb4' cM HA3 HB3
  generalize hM : LT.meld t1 t2 = M at HL HZ HM HP
  clear hM HG1 HG2
  have cK := leanCheck_good _ _ _ w4 HM.out HL.out
  go_wp2_with fail
  refine cK.mono ?_
  rintro e w5 ⟨rfl, hb5'⟩
  have hb5 := hb4.trans (hb5'.mono hb4.size)
  have HM5 : Hid (SlE EN w5 (.slice pm (n + n') cm) (LT.enc 0 M)) := HM.out.below hb5'
  clear cK hb5' HM hb4 hb3
  have cI := nodeItems_tree _ _ w5 HM5.out (by rw [HZ.out]; omega)
  rw [HZ.out] at cI
  go_wp2_with fail
  refine cI.mono ?_
  rintro e w6 ⟨pi, ci, rfl, hs6, hb6'⟩
  have hb6 := hb5.trans (hb6'.mono hb5.size)
  have HM6 : Hid (SlE EN w6 (.slice pm (n + n') cm) (LT.enc 0 M)) := HM5.out.below hb6'
  have HI6 : Hid (Sl w6 (.slice pi (n + n') ci) M.items.toArray) := hs6
  clear cI hb6' HM5 hb5 hs6
  have CB : Hid (∀ w1, Below w.heap.size w w1 → Calls Tryd.prog 22 #[.slice p n cap, .slice p' n' cap'] w1 fun e w' => ∃ u, e = .returned u ∧ Sl w' u (xs.toList ++ ys.toList).toArray ∧ Below w1.heap.size w1 w') := fun w1 hb =>
    (both_any p p' cap cap' n n' xs ys w1 (HS.out.below hb) (HS'.out.below hb) (by rw [HN.out, HN'.out]; omega)).mono fun e w' ⟨u, a, b, c⟩ => ⟨u, a, b.sl, c⟩
  go_wp2_with fail
  refine (CB.out w6 hb6).mono ?_
  rintro e w7 ⟨u7, rfl, hs7, hb7'⟩
  have hb7 := hb6.trans (hb7'.mono hb6.size)
  have HM7 : Hid (SlE EN w7 (.slice pm (n + n') cm) (LT.enc 0 M)) := HM6.out.below hb7'
  have cG := bag_perm _ _ _ _ w7 (HI6.out.below hb7') hs7 HP.out (by rw [LT.items_length, HZ.out]; omega)
  clear hb7' HM6 HI6 hb6 hs7
  go_wp2_with fail
  refine cG.mono ?_
  rintro e w8 ⟨rfl, hb8'⟩
  have hb8 := hb7.trans (hb8'.mono hb7.size)
  have HM8 : Hid (SlE EN w8 (.slice pm (n + n') cm) (LT.enc 0 M)) := HM7.out.below hb8'
  clear hb8' cG HM7 hb7
  cases M using LT.parts with
  | nil =>
    obtain rfl : n = 0 := by have := HZ.out; simp [LT.size] at this; omega
    obtain rfl : n' = 0 := by have := HZ.out; simp [LT.size] at this; omega
    have cP := leanPop_bad _ _ 5 w8 HM8.out (by simp [LT.enc]) (Or.inr ⟨rfl, rfl⟩)
    go_wp2_with fail
    refine cP.mono ?_
    rintro e w9 ⟨rfl, hb9'⟩
    have hb9 := hb8.trans (hb9'.mono hb8.size)
    have hb10 : Below w.heap.size w (w9.alloc (.cells #[.int .i64 0, .int .i64 0] 24)) := hb9.alloc hb9.size _
    have cE := error_any 5 5 _ (hgl.below hb10)
    clear cP hb9'
    go_wp2_with fail
    refine cE.mono ?_
    rintro e w11 ⟨rfl, hb11'⟩
    have hb11 := hb10.trans (hb11'.mono hb10.size)
    go_wp2
    go_ret
    exact ⟨rfl, hb11⟩
  | node k i a b =>
    have cP := leanPop_good _ _ k i a b w8 HM8.out HL.out
    have hN : 0 < n + n' := by have := HZ.out; simp [LT.size] at this; omega
    have hNq : (((n + n' : Nat) : Int) == 0) = false := beq_eq_false_iff_ne.2 (by omega)
    have HRZ : Hid ((LT.meld a b).size = n + n' - 1) := by show _ = _; have := HZ.out; simp only [LT.size] at this; rw [LT.meld_size]; omega
    have HRL : Hid (IsL (LT.enc 0 (LT.meld a b)) (LT.meld a b)) := IsL.of (LT.meld_leans _ _ HL.out.leans.2.2.2.1 HL.out.leans.2.2.2.2) (HL.out.inR.left.meld HL.out.inR.right) (by rw [HRZ.out]; omega)
    have HRP : Hid (((LT.meld a b).items ++ [(k, i)]).Perm (xs.toList ++ ys.toList)) := by
      show List.Perm _ _
      refine (List.perm_append_singleton _ _).trans (List.Perm.trans (List.Perm.cons _ (LT.meld_items a b)) ?_)
      exact HP.out
    go_wp2_with fail
    refine cP.mono ?_
    rintro e w9 ⟨v9, rfl, ho9, hb9'⟩
    have hb9 := hb8.trans (hb9'.mono hb8.size)
    obtain ⟨pr, cr, hv9⟩ := ho9.form
    rw [LT.enc_length, HRZ.out] at hv9
    subst hv9
    obtain ⟨NR, hNR⟩ : ∃ NR, n + n' - 1 = NR := ⟨_, rfl⟩
    rw [hNR] at ho9 HRZ ⊢
    have hNR60 : NR ≤ 60 := by omega
    have al : Below w9.heap.size w9 (w9.alloc (.cells #[.int .i64 k, .int .i64 i] 24)) := (Below.refl _ _).alloc (Nat.le_refl _) _
    have HR10 : Hid (SlE EN (w9.alloc (.cells #[.int .i64 k, .int .i64 i] 24)) (.slice pr NR cr) (LT.enc 0 (LT.meld a b))) := ho9.sl.below al
    have hb10 : Below w.heap.size w (w9.alloc (.cells #[.int .i64 k, .int .i64 i] 24)) := hb9.alloc hb9.size _
    have x0 : (w9.alloc (.cells #[.int .i64 k, .int .i64 i] 24)).cell? ⟨w9.heap.size, 0, none⟩ = some (.int .i64 k) := by simp
    have x1 : (w9.alloc (.cells #[.int .i64 k, .int .i64 i] 24)).cell? ⟨w9.heap.size, 1, none⟩ = some (.int .i64 i) := by simp
    have hxl : w9.heap.size < (w9.alloc (.cells #[.int .i64 k, .int .i64 i] 24)).heap.size := by simp
    clear cP hb9' ho9 hb9 hb8 HM8 HZ HL al HP
    go_wp2_with fail
    generalize w9.alloc (.cells #[.int .i64 k, .int .i64 i] 24) = wa at HR10 hb10 x0 x1 hxl ⊢
    generalize w9.heap.size = bx at x0 x1 hxl ⊢
    have CC : Hid (∀ w1, Below wa.heap.size wa w1 → Calls Tryd.prog 10 #[.slice pr NR cr] w1 fun e w' => e = .returned .nilIface ∧ Below w1.heap.size w1 w') := fun w1 hb => leanCheck_good _ _ _ w1 (HR10.out.below hb) HRL.out
    have CI : Hid (∀ w1, Below wa.heap.size wa w1 → Calls Tryd.prog 21 #[.slice pr NR cr] w1 fun e w' => ∃ p c, e = .returned (.slice p NR c) ∧ Sl w' (.slice p NR c) (LT.meld a b).items.toArray ∧ Below w1.heap.size w1 w') := fun w1 hb => by
      have := nodeItems_tree _ _ w1 (HR10.out.below hb) (by rw [HRZ.out]; omega)
      rw [HRZ.out] at this
      exact this
    have CW : Hid (∀ w1 p c, Sl w1 (.slice p NR c) (LT.meld a b).items.toArray → Calls Tryd.prog 23 #[.slice p NR c, .agg #[.int .i64 k, .int .i64 i]] w1 fun e w' => ∃ u, e = .returned u ∧ Sl w' u ((LT.meld a b).items ++ [(k, i)]).toArray ∧ Below w1.heap.size w1 w') := fun w1 p c hs => by
      have := with_any p NR c k i _ w1 (show _ = _ by rw [List.size_toArray, LT.items_length, HRZ.out]) (by omega) hs
      rw [show (LT.meld a b).items.toArray.push (k, i) = ((LT.meld a b).items ++ [(k, i)]).toArray by simp] at this
      exact this
    have CG : Hid (∀ w1 u v, Sl w1 u ((LT.meld a b).items ++ [(k, i)]).toArray → Sl w1 v (xs.toList ++ ys.toList).toArray → Calls Tryd.prog 20 #[u, v] w1 fun e w' => e = .returned (.bool true) ∧ Below w1.heap.size w1 w') := fun w1 u v h1 h2 =>
      bag_perm u v _ _ w1 h1 h2 HRP.out (by rw [List.length_append, LT.items_length, HRZ.out]; simp; omega)
    go_region_held3 (fun w' => w'.cell? ⟨bx, 0, none⟩ = some (.int .i64 k) ∧ w'.cell? ⟨bx, 1, none⟩ = some (.int .i64 i)) (first | go_keep | (exact ⟨r0, r1⟩) | (exact ⟨s0, s1⟩) | (exact ⟨z0, z1⟩) | (exact ⟨y0, y1⟩) | (exact ⟨o0, o1⟩))
      (first | (go_at_call 10; refine (CC.out _ ?_).mono ?_; (exact below_dn (Below.refl _ _) 1); rintro e wb ⟨rfl, hbb'⟩; have hbb : Below wa.heap.size wa wb := (below_dn (Below.refl _ _) 1).trans hbb'; have o0 := (hbb.cell (p := ⟨bx, 0, none⟩) hxl).trans x0; have o1 := (hbb.cell (p := ⟨bx, 1, none⟩) hxl).trans x1; clear hbb') | (go_at_call 21; refine (CI.out _ hbb).mono ?_; rintro e wc ⟨pc, cc, rfl, hsc, hbc'⟩; have hbc := hbb.trans (hbc'.mono hbb.size); have r0 := (hbc.cell (p := ⟨bx, 0, none⟩) hxl).trans x0; have r1 := (hbc.cell (p := ⟨bx, 1, none⟩) hxl).trans x1; have HSC : Hid (Sl wc (.slice pc NR cc) (LT.meld a b).items.toArray) := hsc; clear hsc hbc') | (go_at_call 23; refine (CW.out _ _ _ HSC.out).mono ?_; rintro e wd ⟨ud, rfl, hsd, hbd'⟩; have hbd := hbc.trans (hbd'.mono hbc.size); have s0 := (hbd.cell (p := ⟨bx, 0, none⟩) hxl).trans x0; have s1 := (hbd.cell (p := ⟨bx, 1, none⟩) hxl).trans x1; have HSD : Hid (Sl wd ud ((LT.meld a b).items ++ [(k, i)]).toArray) := hsd; clear hsd hbd') | (go_at_call 22; refine (CB.out _ (hb10.trans (Below.mono hbd hb10.size))).mono ?_; rintro e we ⟨ue, rfl, hse, hbe'⟩; have hbe := hbd.trans (hbe'.mono hbd.size); have z0 := (hbe.cell (p := ⟨bx, 0, none⟩) hxl).trans x0; have z1 := (hbe.cell (p := ⟨bx, 1, none⟩) hxl).trans x1; have HSE : Hid (Sl we ue (xs.toList ++ ys.toList).toArray) := hse; have HSD' : Hid (Sl we ud ((LT.meld a b).items ++ [(k, i)]).toArray) := HSD.out.below hbe'; clear hse hbe') | (go_at_call 20; refine (CG.out _ _ _ HSD'.out HSE.out).mono ?_; rintro e wf ⟨rfl, hbf'⟩; have hbf := hbe.trans (hbf'.mono hbe.size); have y0 := (hbf.cell (p := ⟨bx, 0, none⟩) hxl).trans x0; have y1 := (hbf.cell (p := ⟨bx, 1, none⟩) hxl).trans x1; clear hbf'))
    all_goals
      go_wp2
      go_ret
      exact ⟨rfl, hb10.trans (Below.mono hbf hb10.size)⟩

theorem leanHolds_any (v v' : Value) (xs ys : Array (Int × Int)) (w : World) (h : Sl w v xs) (h' : Sl w v' ys) (hbig : xs.size ≤ 9223372036854775807) (hbig' : ys.size ≤ 9223372036854775807) (hgl : Glob w) :
    Calls Tryd.prog 4 #[v, v'] w fun e w' => e = .returned (.bool true) ∧ Below w.heap.size w w' := by
  obtain ⟨p, cap, rfl, hcap, hp⟩ := id h
  obtain ⟨p', cap', rfl, hcap', hp'⟩ := id h'
  by_cases h0 : wrong xs = 0
  · by_cases h0' : wrong ys = 0
    · by_cases h60 : 60 < xs.size + ys.size
      · exact leanHolds_C p p' _ cap _ cap' xs ys w (wrong_le h0) (wrong_le h0') rfl rfl h h' h0 h0' hgl h60
      · exact leanHolds_D p p' _ cap _ cap' xs ys w (wrong_le h0) (wrong_le h0') rfl rfl h h' h0 h0' hgl (by omega)
    · exact leanHolds_B p p' _ cap _ cap' w (fun w1 hb => (grown_good _ xs w1 (h.below hb) h0).mono fun e w' ⟨a, b, _, c, _, _, d⟩ => ⟨a, _, b, c, d⟩) (fun w1 hb => (grown_bad _ ys w1 (h'.below hb) hbig' h0').mono fun e w' ⟨a, b, c, d, e⟩ => ⟨a, b, c, d, e⟩)
  · refine leanHolds_A p p' _ cap _ cap' w (fun w1 hb => (grown_bad _ xs w1 (h.below hb) hbig h0).mono fun e w' ⟨a, b, c, d, e⟩ => ⟨a, b, c, d, e⟩) (fun w1 hb => ?_)
    by_cases h0' : wrong ys = 0
    · exact (grown_good _ ys w1 (h'.below hb) h0').mono fun e w' ⟨a, b, _, c, _, _, d⟩ => ⟨a, _, b, true, c, d⟩
    · exact (grown_bad _ ys w1 (h'.below hb) hbig' h0').mono fun e w' ⟨a, b, c, d, e⟩ => ⟨a, b, c, false, d, e⟩
#print axioms leanHolds_any
end Go.Proofs.YtoaabpoicacogaaDoor
