/-
  The law LeanSpine, walked: the way to the right is short.
-/
import Derived.Test.YtoaabpoicacogaaDoorLGrow
import Derived.Test.YtoaabpoicacogaaDoorTold
namespace Go.Proofs.YtoaabpoicacogaaDoor
open Go.RowKit Go.Sort Go.Proofs

set_option maxHeartbeats 4000000 in
theorem leanSpine_A (p p' : Option Addr) (n cap n' cap' : Nat) (w : World)
    (C1 : Hid (∀ w1, Below w.heap.size w w1 → Calls Tryd.prog 19 #[.slice p n cap] w1 fun e w' => ∃ q m c, e = .returned (.tuple #[.slice q m c, .bool false]) ∧ Below w1.heap.size w1 w'))
    (C2 : Hid (∀ w1, Below w.heap.size w w1 → Calls Tryd.prog 19 #[.slice p' n' cap'] w1 fun e w' => ∃ q m c b, e = .returned (.tuple #[.slice q m c, .bool b]) ∧ Below w1.heap.size w1 w')) :
    Calls Tryd.prog 5 #[.slice p n cap, .slice p' n' cap'] w fun e w' => e = .returned (.bool true) ∧ Below w.heap.size w w' := by
  have c0 := leanFact_any w
  go_enter Tryd.func5, Tryd.ntmps5
  go_wp2_with fail
  refine c0.mono ?_
  rintro e w1 ⟨rfl, hb1⟩
  clear c0
  go_wp2_with fail
  refine (C1.out w1 hb1).mono ?_
  rintro e w2 ⟨q1, m1, c1, rfl, hb2'⟩
  have hb2 := hb1.trans (hb2'.mono hb1.size)
  clear hb2' hb1
  go_wp2_with fail
  refine (C2.out w2 hb2).mono ?_
  rintro e w3 ⟨q2, m2, c2, b, rfl, hb3'⟩
  have hb3 := hb2.trans (hb3'.mono hb2.size)
  clear hb3' hb2
  go_wp2
  go_ret
  exact ⟨rfl, hb3⟩
set_option maxHeartbeats 4000000 in
theorem leanSpine_B (p p' : Option Addr) (n cap n' cap' : Nat) (w : World)
    (C1 : Hid (∀ w1, Below w.heap.size w w1 → Calls Tryd.prog 19 #[.slice p n cap] w1 fun e w' => ∃ q m c, e = .returned (.tuple #[.slice q m c, .bool true]) ∧ Below w1.heap.size w1 w'))
    (C2 : Hid (∀ w1, Below w.heap.size w w1 → Calls Tryd.prog 19 #[.slice p' n' cap'] w1 fun e w' => ∃ q m c, e = .returned (.tuple #[.slice q m c, .bool false]) ∧ Below w1.heap.size w1 w')) :
    Calls Tryd.prog 5 #[.slice p n cap, .slice p' n' cap'] w fun e w' => e = .returned (.bool true) ∧ Below w.heap.size w w' := by
  have c0 := leanFact_any w
  go_enter Tryd.func5, Tryd.ntmps5
  go_wp2_with fail
  refine c0.mono ?_
  rintro e w1 ⟨rfl, hb1⟩
  clear c0
  go_wp2_with fail
  refine (C1.out w1 hb1).mono ?_
  rintro e w2 ⟨q1, m1, c1, rfl, hb2'⟩
  have hb2 := hb1.trans (hb2'.mono hb1.size)
  clear hb2' hb1
  go_wp2_with fail
  refine (C2.out w2 hb2).mono ?_
  rintro e w3 ⟨q2, m2, c2, rfl, hb3'⟩
  have hb3 := hb2.trans (hb3'.mono hb2.size)
  clear hb3' hb2
  go_wp2
  go_ret
  exact ⟨rfl, hb3⟩
set_option maxHeartbeats 8000000 in
set_option maxRecDepth 4000 in
theorem leanSpine_C (p p' : Option Addr) (n cap n' cap' : Nat) (xs ys : Array (Int × Int)) (w : World) (hn : n ≤ 60) (hn' : n' ≤ 60) (HN : Hid (xs.size = n)) (HN' : Hid (ys.size = n')) (HS : Hid (Sl w (.slice p n cap) xs)) (HS' : Hid (Sl w (.slice p' n' cap') ys)) (HW : Hid (wrong xs = 0)) (HW' : Hid (wrong ys = 0)) (hgl : Glob w) (h60 : 60 < n + n') :
    Calls Tryd.prog 5 #[.slice p n cap, .slice p' n' cap'] w fun e w' => e = .returned (.bool true) ∧ Below w.heap.size w w' := by
  have c0 := leanFact_any w
  go_enter Tryd.func5, Tryd.ntmps5
  go_wp2_with fail
  refine c0.mono ?_
  rintro e w1 ⟨rfl, hb1⟩
  clear c0
  go_wp2_with fail
  refine (grown_good _ xs w1 (HS.out.below hb1) HW.out).mono ?_
  rintro e w2 ⟨q1, c1, t1, he, hs1, hg1, hb2'⟩
  rw [HN.out] at he hs1 hg1
  subst he
  have hb2 := hb1.trans (hb2'.mono hb1.size)
  have HS1 : Hid (SlE EN w2 (.slice q1 n c1) (LT.enc 0 t1)) := hs1
  have HG1 : Hid (GrowsL xs n t1) := hg1
  clear hb2' hb1 hs1 hg1
  go_wp2_with fail
  refine (grown_good _ ys w2 (HS'.out.below hb2) HW'.out).mono ?_
  rintro e w3 ⟨q2, c2, t2, he, hs2, hg2, hb3'⟩
  rw [HN'.out] at he hs2 hg2
  subst he
  have hb3 := hb2.trans (hb3'.mono hb2.size)
  have HA3 : Hid (SlE EN w3 (.slice q1 n c1) (LT.enc 0 t1)) := HS1.out.below hb3'
  have HB3 : Hid (SlE EN w3 (.slice q2 n' c2) (LT.enc 0 t2)) := hs2
  have HG2 : Hid (GrowsL ys n' t2) := hg2
  clear hb3' hb2 hs2 hg2 HS1
  have cM := leanMeld_bad _ _ _ _ 4 w3 HA3.out HB3.out (by rw [LT.enc_length, HG1.out.size]; omega) (by rw [LT.enc_length, HG2.out.size]; omega) (Or.inr ⟨t1, HG1.out.isL hn, Or.inr ⟨t2, HG2.out.isL hn', by rw [HG1.out.size, HG2.out.size]; exact h60, rfl⟩⟩)
  go_wp2_with fail
  refine cM.mono ?_
  rintro e w4 ⟨rfl, hb4'⟩
  have hb4 := hb3.trans (hb4'.mono hb3.size)
  have cE := error_any 4 4 w4 (hgl.below hb4)
  clear hb4' cM
  go_wp2_with fail
  refine cE.mono ?_
  rintro e w5 ⟨rfl, hb5'⟩
  have hb5 := hb4.trans (hb5'.mono hb4.size)
  go_wp2
  go_ret
  exact ⟨rfl, hb5⟩
set_option maxHeartbeats 8000000 in
set_option maxRecDepth 4000 in
theorem leanSpine_D (p p' : Option Addr) (n cap n' cap' : Nat) (xs ys : Array (Int × Int)) (w : World) (hn : n ≤ 60) (hn' : n' ≤ 60) (HN : Hid (xs.size = n)) (HN' : Hid (ys.size = n')) (HS : Hid (Sl w (.slice p n cap) xs)) (HS' : Hid (Sl w (.slice p' n' cap') ys)) (HW : Hid (wrong xs = 0)) (HW' : Hid (wrong ys = 0)) (_hgl : Glob w) (h60 : n + n' ≤ 60) :
    Calls Tryd.prog 5 #[.slice p n cap, .slice p' n' cap'] w fun e w' => e = .returned (.bool true) ∧ Below w.heap.size w w' := by
  have c0 := leanFact_any w
  go_enter Tryd.func5, Tryd.ntmps5
  go_wp2_with fail
  refine c0.mono ?_
  rintro e w1 ⟨rfl, hb1⟩
  clear c0
  go_wp2_with fail
  refine (grown_good _ xs w1 (HS.out.below hb1) HW.out).mono ?_
  rintro e w2 ⟨q1, c1, t1, he, hs1, hg1, hb2'⟩
  rw [HN.out] at he hs1 hg1
  subst he
  have hb2 := hb1.trans (hb2'.mono hb1.size)
  have HS1 : Hid (SlE EN w2 (.slice q1 n c1) (LT.enc 0 t1)) := hs1
  have HG1 : Hid (GrowsL xs n t1) := hg1
  clear hb2' hb1 hs1 hg1
  go_wp2_with fail
  refine (grown_good _ ys w2 (HS'.out.below hb2) HW'.out).mono ?_
  rintro e w3 ⟨q2, c2, t2, he, hs2, hg2, hb3'⟩
  rw [HN'.out] at he hs2 hg2
  subst he
  have hb3 := hb2.trans (hb3'.mono hb2.size)
  have HA3 : Hid (SlE EN w3 (.slice q1 n c1) (LT.enc 0 t1)) := HS1.out.below hb3'
  have HB3 : Hid (SlE EN w3 (.slice q2 n' c2) (LT.enc 0 t2)) := hs2
  have HG2 : Hid (GrowsL ys n' t2) := hg2
  clear hb3' hb2 hs2 hg2 HS1
  have cM := leanMeld_good _ _ _ _ t1 t2 w3 HA3.out HB3.out (HG1.out.isL hn) (HG2.out.isL hn') (by rw [HG1.out.size, HG2.out.size]; exact h60)
  have HL : Hid (IsL (LT.enc 0 (LT.meld t1 t2)) (LT.meld t1 t2)) := (HG1.out.isL hn).meld (HG2.out.isL hn') (by rw [HG1.out.size, HG2.out.size]; exact h60)
  have HZ : Hid ((LT.meld t1 t2).size = n + n') := by show _ = _; rw [LT.meld_size, HG1.out.size, HG2.out.size]
  go_wp2_with fail
  refine cM.mono ?_
  rintro e w4 ⟨v4, rfl, ho4, hb4'⟩
  have hb4 := hb3.trans (hb4'.mono hb3.size)
  obtain ⟨pm, cm, hv4⟩ := ho4.form
  rw [LT.enc_length, HZ.out] at hv4
  subst hv4
  have HM : Hid (SlE EN w4 (.slice pm (n + n') cm) (LT.enc 0 (LT.meld t1 t2))) := ho4.sl
  have cS := leanSpine_good _ _ _ w4 HM.out HL.out
  have h2 := LT.spine_short _ HL.out.leans
  have h3 : (LT.meld t1 t2).spine = 0 → n + n' = 0 := fun e => by
    rw [← HZ.out]
    cases hm : LT.meld t1 t2 using LT.parts with
    | nil => rfl
    | node => rw [hm] at e; simp [LT.spine] at e
  have h4 : n + n' = 0 → (LT.meld t1 t2).spine = 0 := fun e => by
    rw [LT.size_zero (HZ.out.trans e)]; rfl
  rw [HZ.out] at h2
  generalize (LT.meld t1 t2).spine = sp at cS h2 h3 h4
  clear HM HL HZ hb4' cM ho4
  obtain ⟨N, hN⟩ : ∃ N, n + n' = N := ⟨_, rfl⟩
  rw [hN] at cS h2 h3 h4 h60 ⊢
  have hsp : sp ≤ 5 := by
    rcases Nat.lt_or_ge sp 6 with q | q
    · omega
    · have := Nat.pow_le_pow_right (show 0 < 2 by omega) q
      omega
  go_wp2_with fail
  refine cS.mono ?_
  rintro e w5 ⟨rfl, hb5'⟩
  have hb5 := hb4.trans (hb5'.mono hb4.size)
  clear hb5' cS
  have hc : sp = 0 ∨ sp = 1 ∨ sp = 2 ∨ sp = 3 ∨ sp = 4 ∨ sp = 5 := by omega
  rcases hc with rfl | rfl | rfl | rfl | rfl | rfl
  · have hN : 0 ≤ N := by omega
    have hNz : (0 : Int) ≤ (N : Int) := by omega
    obtain rfl : N = 0 := by omega
    go_wp2
    go_ret
    exact ⟨rfl, hb5⟩
  · have hN : 1 ≤ N := by omega
    have hNz : (1 : Int) ≤ (N : Int) := by omega
    have hN0 : (0 : Int) < (N : Int) := by omega
    go_wp2
    go_ret
    refine ⟨?_, hb5⟩
    show Ending.returned (Value.bool (decide (0 < N))) = _
    rw [decide_eq_true (show 0 < N by omega)]
  · have hN : 3 ≤ N := by omega
    have hNz : (3 : Int) ≤ (N : Int) := by omega
    have hN0 : (0 : Int) < (N : Int) := by omega
    go_wp2
    go_ret
    refine ⟨?_, hb5⟩
    show Ending.returned (Value.bool (decide (0 < N))) = _
    rw [decide_eq_true (show 0 < N by omega)]
  · have hN : 7 ≤ N := by omega
    have hNz : (7 : Int) ≤ (N : Int) := by omega
    have hN0 : (0 : Int) < (N : Int) := by omega
    go_wp2
    go_ret
    refine ⟨?_, hb5⟩
    show Ending.returned (Value.bool (decide (0 < N))) = _
    rw [decide_eq_true (show 0 < N by omega)]
  · have hN : 15 ≤ N := by omega
    have hNz : (15 : Int) ≤ (N : Int) := by omega
    have hN0 : (0 : Int) < (N : Int) := by omega
    go_wp2
    go_ret
    refine ⟨?_, hb5⟩
    show Ending.returned (Value.bool (decide (0 < N))) = _
    rw [decide_eq_true (show 0 < N by omega)]
  · have hN : 31 ≤ N := by omega
    have hNz : (31 : Int) ≤ (N : Int) := by omega
    have hN0 : (0 : Int) < (N : Int) := by omega
    go_wp2
    go_ret
    refine ⟨?_, hb5⟩
    show Ending.returned (Value.bool (decide (0 < N))) = _
    rw [decide_eq_true (show 0 < N by omega)]

theorem leanSpine_any (v v' : Value) (xs ys : Array (Int × Int)) (w : World) (h : Sl w v xs) (h' : Sl w v' ys) (hbig : xs.size ≤ 9223372036854775807) (hbig' : ys.size ≤ 9223372036854775807) (hgl : Glob w) :
    Calls Tryd.prog 5 #[v, v'] w fun e w' => e = .returned (.bool true) ∧ Below w.heap.size w w' := by
  obtain ⟨p, cap, rfl, hcap, hp⟩ := id h
  obtain ⟨p', cap', rfl, hcap', hp'⟩ := id h'
  by_cases h0 : wrong xs = 0
  · by_cases h0' : wrong ys = 0
    · by_cases h60 : 60 < xs.size + ys.size
      · exact leanSpine_C p p' _ cap _ cap' xs ys w (wrong_le h0) (wrong_le h0') rfl rfl h h' h0 h0' hgl h60
      · exact leanSpine_D p p' _ cap _ cap' xs ys w (wrong_le h0) (wrong_le h0') rfl rfl h h' h0 h0' hgl (by omega)
    · exact leanSpine_B p p' _ cap _ cap' w (fun w1 hb => (grown_good _ xs w1 (h.below hb) h0).mono fun e w' ⟨a, b, _, c, _, _, d⟩ => ⟨a, _, b, c, d⟩) (fun w1 hb => (grown_bad _ ys w1 (h'.below hb) hbig' h0').mono fun e w' ⟨a, b, c, d, e⟩ => ⟨a, b, c, d, e⟩)
  · refine leanSpine_A p p' _ cap _ cap' w (fun w1 hb => (grown_bad _ xs w1 (h.below hb) hbig h0).mono fun e w' ⟨a, b, c, d, e⟩ => ⟨a, b, c, d, e⟩) (fun w1 hb => ?_)
    by_cases h0' : wrong ys = 0
    · exact (grown_good _ ys w1 (h'.below hb) h0').mono fun e w' ⟨a, b, _, c, _, _, d⟩ => ⟨a, _, b, true, c, d⟩
    · exact (grown_bad _ ys w1 (h'.below hb) hbig' h0').mono fun e w' ⟨a, b, c, d, e⟩ => ⟨a, b, c, false, d, e⟩
#print axioms leanSpine_any
end Go.Proofs.YtoaabpoicacogaaDoor
