/-
  The law LeanSame, walked: the other way round it has the same least key and the same items; melded with none it is as it was.
-/
import Derived.Test.YtoaabpoicacogaaDoorLBag
import Derived.Test.YtoaabpoicacogaaDoorSameN
import Derived.Test.YtoaabpoicacogaaDoorTold
namespace Go.Proofs.YtoaabpoicacogaaDoor
open Go.RowKit Go.Sort Go.Proofs

/-- Heaps with the same items have the same least key. -/
theorem roots_same {k i k' i' : Int} {a b a' b' : LT} (hp : (LT.node k i a b).items.Perm (LT.node k' i' a' b').items) (h : LT.Leans (.node k i a b)) (h' : LT.Leans (.node k' i' a' b')) : k = k' := by
  have h1 := LT.root_least (.node k i a b) k (show k ≤ k from Int.le_refl k) h (k', i') (hp.mem_iff.2 (by simp [LT.items]))
  have h2 := LT.root_least (.node k' i' a' b') k' (show k' ≤ k' from Int.le_refl k') h' (k, i) (hp.mem_iff.1 (by simp [LT.items]))
  simp only at h1 h2
  omega

set_option maxHeartbeats 4000000 in
theorem leanSame_A (p p' : Option Addr) (n cap n' cap' : Nat) (w : World)
    (C1 : Hid (∀ w1, Below w.heap.size w w1 → Calls Tryd.prog 19 #[.slice p n cap] w1 fun e w' => ∃ q m c, e = .returned (.tuple #[.slice q m c, .bool false]) ∧ Below w1.heap.size w1 w'))
    (C2 : Hid (∀ w1, Below w.heap.size w w1 → Calls Tryd.prog 19 #[.slice p' n' cap'] w1 fun e w' => ∃ q m c b, e = .returned (.tuple #[.slice q m c, .bool b]) ∧ Below w1.heap.size w1 w')) :
    Calls Tryd.prog 7 #[.slice p n cap, .slice p' n' cap'] w fun e w' => e = .returned (.bool true) ∧ Below w.heap.size w w' := by
  have c0 := leanFact_any w
  go_enter Tryd.func7, Tryd.ntmps7
  go_wp2_with fail
  refine c0.mono ?_
  rintro e w1 ⟨rfl, hb1⟩
  clear c0
  go_wp2_with fail
  refine (C1.out w1 hb1).mono ?_
  rintro e w2 ⟨q1, m1, c1, rfl, hb2'⟩
  have hb2 := hb1.trans (hb2'.mono hb1.size)
  clear hb2' hb1
  go_wp2_with fail
  refine (C2.out w2 hb2).mono ?_
  rintro e w3 ⟨q2, m2, c2, b, rfl, hb3'⟩
  have hb3 := hb2.trans (hb3'.mono hb2.size)
  clear hb3' hb2
  go_wp2
  go_ret
  exact ⟨rfl, hb3⟩
set_option maxHeartbeats 4000000 in
theorem leanSame_B (p p' : Option Addr) (n cap n' cap' : Nat) (w : World)
    (C1 : Hid (∀ w1, Below w.heap.size w w1 → Calls Tryd.prog 19 #[.slice p n cap] w1 fun e w' => ∃ q m c, e = .returned (.tuple #[.slice q m c, .bool true]) ∧ Below w1.heap.size w1 w'))
    (C2 : Hid (∀ w1, Below w.heap.size w w1 → Calls Tryd.prog 19 #[.slice p' n' cap'] w1 fun e w' => ∃ q m c, e = .returned (.tuple #[.slice q m c, .bool false]) ∧ Below w1.heap.size w1 w')) :
    Calls Tryd.prog 7 #[.slice p n cap, .slice p' n' cap'] w fun e w' => e = .returned (.bool true) ∧ Below w.heap.size w w' := by
  have c0 := leanFact_any w
  go_enter Tryd.func7, Tryd.ntmps7
  go_wp2_with fail
  refine c0.mono ?_
  rintro e w1 ⟨rfl, hb1⟩
  clear c0
  go_wp2_with fail
  refine (C1.out w1 hb1).mono ?_
  rintro e w2 ⟨q1, m1, c1, rfl, hb2'⟩
  have hb2 := hb1.trans (hb2'.mono hb1.size)
  clear hb2' hb1
  go_wp2_with fail
  refine (C2.out w2 hb2).mono ?_
  rintro e w3 ⟨q2, m2, c2, rfl, hb3'⟩
  have hb3 := hb2.trans (hb3'.mono hb2.size)
  clear hb3' hb2
  go_wp2
  go_ret
  exact ⟨rfl, hb3⟩
set_option maxHeartbeats 8000000 in
set_option maxRecDepth 4000 in
theorem leanSame_C (p p' : Option Addr) (n cap n' cap' : Nat) (xs ys : Array (Int × Int)) (w : World) (hn : n ≤ 60) (hn' : n' ≤ 60) (HN : Hid (xs.size = n)) (HN' : Hid (ys.size = n')) (HS : Hid (Sl w (.slice p n cap) xs)) (HS' : Hid (Sl w (.slice p' n' cap') ys)) (HW : Hid (wrong xs = 0)) (HW' : Hid (wrong ys = 0)) (hgl : Glob w) (h60 : 60 < n + n') :
    Calls Tryd.prog 7 #[.slice p n cap, .slice p' n' cap'] w fun e w' => e = .returned (.bool true) ∧ Below w.heap.size w w' := by
  have c0 := leanFact_any w
  go_enter Tryd.func7, Tryd.ntmps7
  go_wp2_with fail
  refine c0.mono ?_
  rintro e w1 ⟨rfl, hb1⟩
  clear c0
  go_wp2_with fail
  refine (grown_good _ xs w1 (HS.out.below hb1) HW.out).mono ?_
  rintro e w2 ⟨q1, c1, t1, he, hs1, hg1, hb2'⟩
  rw [HN.out] at he hs1 hg1
  subst he
  have hb2 := hb1.trans (hb2'.mono hb1.size)
  have HS1 : Hid (SlE EN w2 (.slice q1 n c1) (LT.enc 0 t1)) := hs1
  have HG1 : Hid (GrowsL xs n t1) := hg1
  clear hb2' hb1 hs1 hg1
  go_wp2_with fail
  refine (grown_good _ ys w2 (HS'.out.below hb2) HW'.out).mono ?_
  rintro e w3 ⟨q2, c2, t2, he, hs2, hg2, hb3'⟩
  rw [HN'.out] at he hs2 hg2
  subst he
  have hb3 := hb2.trans (hb3'.mono hb2.size)
  have HA3 : Hid (SlE EN w3 (.slice q1 n c1) (LT.enc 0 t1)) := HS1.out.below hb3'
  have HB3 : Hid (SlE EN w3 (.slice q2 n' c2) (LT.enc 0 t2)) := hs2
  have HG2 : Hid (GrowsL ys n' t2) := hg2
  clear hb3' hb2 hs2 hg2 HS1
  have cM := leanMeld_bad _ _ _ _ 4 w3 HA3.out HB3.out (by rw [LT.enc_length, HG1.out.size]; omega) (by rw [LT.enc_length, HG2.out.size]; omega) (Or.inr ⟨t1, HG1.out.isL hn, Or.inr ⟨t2, HG2.out.isL hn', by rw [HG1.out.size, HG2.out.size]; exact h60, rfl⟩⟩)
  go_wp2_with fail
  refine cM.mono ?_
  rintro e w4 ⟨rfl, hb4'⟩
  have hb4 := hb3.trans (hb4'.mono hb3.size)
  have cM2 := leanMeld_bad _ _ _ _ 4 w4 (HB3.out.below hb4') (HA3.out.below hb4') (by rw [LT.enc_length, HG2.out.size]; omega) (by rw [LT.enc_length, HG1.out.size]; omega) (Or.inr ⟨t2, HG2.out.isL hn', Or.inr ⟨t1, HG1.out.isL hn, by rw [HG1.out.size, HG2.out.size]; omega, rfl⟩⟩)
  clear hb4' cM
  go_wp2_with fail
  refine cM2.mono ?_
  rintro e w5 ⟨rfl, hb5'⟩
  have hb5 := hb4.trans (hb5'.mono hb4.size)
  have cE := fun w1 (hb : Below w.heap.size w w1) => error_any 4 4 w1 (hgl.below hb)
  clear hb5' cM2
  go_wp2_with fail
  refine (cE w5 hb5).mono ?_
  rintro e w6 ⟨rfl, hb6'⟩
  have hb6 := hb5.trans (hb6'.mono hb5.size)
  go_wp2_with fail
  refine (cE w6 hb6).mono ?_
  rintro e w7 ⟨rfl, hb7'⟩
  have hb7 := hb6.trans (hb7'.mono hb6.size)
  go_wp2
  go_ret
  exact ⟨rfl, hb7⟩
set_option maxHeartbeats 16000000 in
set_option maxRecDepth 4000 in
theorem leanSame_D (p p' : Option Addr) (n cap n' cap' : Nat) (xs ys : Array (Int × Int)) (w : World) (hn : n ≤ 60) (hn' : n' ≤ 60) (HN : Hid (xs.size = n)) (HN' : Hid (ys.size = n')) (HS : Hid (Sl w (.slice p n cap) xs)) (HS' : Hid (Sl w (.slice p' n' cap') ys)) (HW : Hid (wrong xs = 0)) (HW' : Hid (wrong ys = 0)) (_hgl : Glob w) (h60 : n + n' ≤ 60) :
    Calls Tryd.prog 7 #[.slice p n cap, .slice p' n' cap'] w fun e w' => e = .returned (.bool true) ∧ Below w.heap.size w w' := by
  have c0 := leanFact_any w
  go_enter Tryd.func7, Tryd.ntmps7
  go_wp2_with fail
  refine c0.mono ?_
  rintro e w1 ⟨rfl, hb1⟩
  clear c0
  go_wp2_with fail
  refine (grown_good _ xs w1 (HS.out.below hb1) HW.out).mono ?_
  rintro e w2 ⟨q1, c1, t1, he, hs1, hg1, hb2'⟩
  rw [HN.out] at he hs1 hg1
  subst he
  have hb2 := hb1.trans (hb2'.mono hb1.size)
  have HS1 : Hid (SlE EN w2 (.slice q1 n c1) (LT.enc 0 t1)) := hs1
  have HG1 : Hid (GrowsL xs n t1) := hg1
  clear hb2' hb1 hs1 hg1
  go_wp2_with fail
  refine (grown_good _ ys w2 (HS'.out.below hb2) HW'.out).mono ?_
  rintro e w3 ⟨q2, c2, t2, he, hs2, hg2, hb3'⟩
  rw [HN'.out] at he hs2 hg2
  subst he
  have hb3 := hb2.trans (hb3'.mono hb2.size)
  have HA3 : Hid (SlE EN w3 (.slice q1 n c1) (LT.enc 0 t1)) := HS1.out.below hb3'
  have HB3 : Hid (SlE EN w3 (.slice q2 n' c2) (LT.enc 0 t2)) := hs2
  have HG2 : Hid (GrowsL ys n' t2) := hg2
  clear hb3' hb2 hs2 hg2 HS1
  have cM := leanMeld_good _ _ _ _ t1 t2 w3 HA3.out HB3.out (HG1.out.isL hn) (HG2.out.isL hn') (by rw [HG1.out.size, HG2.out.size]; exact h60)
  have HL : Hid (IsL (LT.enc 0 (LT.meld t1 t2)) (LT.meld t1 t2)) := (HG1.out.isL hn).meld (HG2.out.isL hn') (by rw [HG1.out.size, HG2.out.size]; exact h60)
  have HZ : Hid ((LT.meld t1 t2).size = n + n') := by show _ = _; rw [LT.meld_size, HG1.out.size, HG2.out.size]
  go_wp2_with fail
  refine cM.mono ?_
  rintro e w4 ⟨v4, rfl, ho4, hb4'⟩
  have hb4 := hb3.trans (hb4'.mono hb3.size)
  obtain ⟨pm, cm, hv4⟩ := ho4.form
  rw [LT.enc_length, HZ.out] at hv4
  subst hv4
  have HA4 : Hid (SlE EN w4 (.slice q1 n c1) (LT.enc 0 t1)) := HA3.out.below hb4'
  have HB4 : Hid (SlE EN w4 (.slice q2 n' c2) (LT.enc 0 t2)) := HB3.out.below hb4'
  have HM : Hid (SlE EN w4 (.slice pm (n + n') cm) (LT.enc 0 (LT.meld t1 t2))) := ho4.sl
  have cM2 := leanMeld_good _ _ _ _ t2 t1 w4 HB4.out HA4.out (HG2.out.isL hn') (HG1.out.isL hn) (by rw [HG1.out.size, HG2.out.size]; omega)
  have HL2 : Hid (IsL (LT.enc 0 (LT.meld t2 t1)) (LT.meld t2 t1)) := (HG2.out.isL hn').meld (HG1.out.isL hn) (by rw [HG1.out.size, HG2.out.size]; omega)
  have HZ2 : Hid ((LT.meld t2 t1).size = n + n') := by show _ = _; rw [LT.meld_size, HG1.out.size, HG2.out.size]; omega
  have HPP : Hid ((LT.meld t1 t2).items.Perm (LT.meld t2 t1).items) := (LT.meld_items t1 t2).trans (List.perm_append_comm.trans (LT.meld_items t2 t1).symm)
  clear hb4' cM ho4 HA3 HB3 hb3
  go_wp2_with fail
  refine cM2.mono ?_
  rintro e w5 ⟨v5, rfl, ho5, hb5'⟩
  have hb5 := hb4.trans (hb5'.mono hb4.size)
  obtain ⟨pn, cn, hv5⟩ := ho5.form
  rw [LT.enc_length, HZ2.out] at hv5
  subst hv5
  have HM5 : Hid (SlE EN w5 (.slice pm (n + n') cm) (LT.enc 0 (LT.meld t1 t2))) := HM.out.below hb5'
  have HQ5 : Hid (SlE EN w5 (.slice pn (n + n') cn) (LT.enc 0 (LT.meld t2 t1))) := ho5.sl
  have HA5 : Hid (SlE EN w5 (.slice q1 n c1) (LT.enc 0 t1)) := HA4.out.below hb5'
  have cX := leanMeld_good _ (.slice none 0 0) _ [] t1 .nil w5 HA5.out (SlE.empty _ _ _) (HG1.out.isL hn) IsL.nil (by rw [HG1.out.size]; simpa [LT.size] using hn)
  rw [LT.meld_nil_right] at cX
  clear hb5' ho5 cM2 hb4 HM HA4 HB4
  go_wp2_with fail
  refine cX.mono ?_
  rintro e w6 ⟨v6, rfl, ho6, hb6'⟩
  have hb6 := hb5.trans (hb6'.mono hb5.size)
  obtain ⟨p5, c5, hv6⟩ := ho6.form
  rw [LT.enc_length, HG1.out.size] at hv6
  subst hv6
  have HM6 : Hid (SlE EN w6 (.slice pm (n + n') cm) (LT.enc 0 (LT.meld t1 t2))) := HM5.out.below hb6'
  have HQ6 : Hid (SlE EN w6 (.slice pn (n + n') cn) (LT.enc 0 (LT.meld t2 t1))) := HQ5.out.below hb6'
  have HA6 : Hid (SlE EN w6 (.slice q1 n c1) (LT.enc 0 t1)) := HA5.out.below hb6'
  have HX6 : Hid (SlE EN w6 (.slice p5 n c5) (LT.enc 0 t1)) := ho6.sl
  have cY := leanMeld_good (.slice none 0 0) _ [] _ .nil t1 w6 (SlE.empty _ _ _) HA6.out IsL.nil (HG1.out.isL hn) (by rw [HG1.out.size]; simpa [LT.size] using hn)
  rw [LT.meld_nil_left] at cY
  clear hb6' ho6 cX hb5 HM5 HQ5 HA5
  go_wp2_with fail
  refine cY.mono ?_
  rintro e wa ⟨v7, rfl, ho7, hb7'⟩
  have hba := hb6.trans (hb7'.mono hb6.size)
  obtain ⟨p6, c6, hv7⟩ := ho7.form
  rw [LT.enc_length, HG1.out.size] at hv7
  subst hv7
  obtain ⟨N, hN⟩ : ∃ N, n + n' = N := ⟨_, rfl⟩
  rw [hN] at HM6 HQ6 HZ HZ2 h60 ⊢
  have HMa : Hid (SlE EN wa (.slice pm N cm) (LT.enc 0 (LT.meld t1 t2))) := HM6.out.below hb7'
  have HQa : Hid (SlE EN wa (.slice pn N cn) (LT.enc 0 (LT.meld t2 t1))) := HQ6.out.below hb7'
  have HAa : Hid (SlE EN wa (.slice q1 n c1) (LT.enc 0 t1)) := HA6.out.below hb7'
  have HXa : Hid (SlE EN wa (.slice p5 n c5) (LT.enc 0 t1)) := HX6.out.below hb7'
  have HYa : Hid (SlE EN wa (.slice p6 n c6) (LT.enc 0 t1)) := ho7.sl
  have hl1 : (LT.enc 0 t1).length ≤ 1000 := by rw [LT.enc_length, HG1.out.size]; omega
  clear hb7' ho7 cY hb6 HM6 HQ6 HA6 HX6
  generalize hM1 : LT.meld t1 t2 = M1 at HL HZ HPP HMa
  generalize hM2 : LT.meld t2 t1 = M2 at HL2 HZ2 HPP HQa
  generalize LT.enc 0 t1 = A1 at HAa HXa HYa hl1
  clear hM1 hM2 HG1 HG2
  obtain ⟨I1, hI1⟩ : ∃ I, M1.items = I := ⟨_, rfl⟩
  obtain ⟨I2, hI2⟩ : ∃ I, M2.items = I := ⟨_, rfl⟩
  have CI1 : Hid (∀ w1, Below wa.heap.size wa w1 → Calls Tryd.prog 21 #[.slice pm N cm] w1 fun e w' => ∃ p c, e = .returned (.slice p N c) ∧ Sl w' (.slice p N c) I1.toArray ∧ Below w1.heap.size w1 w') := fun w1 hb => by
    have := nodeItems_tree _ _ w1 (HMa.out.below hb) (by rw [HZ.out]; omega)
    rw [HZ.out, hI1] at this
    exact this
  have CI2 : Hid (∀ w1, Below wa.heap.size wa w1 → Calls Tryd.prog 21 #[.slice pn N cn] w1 fun e w' => ∃ p c, e = .returned (.slice p N c) ∧ Sl w' (.slice p N c) I2.toArray ∧ Below w1.heap.size w1 w') := fun w1 hb => by
    have := nodeItems_tree _ _ w1 (HQa.out.below hb) (by rw [HZ2.out]; omega)
    rw [HZ2.out, hI2] at this
    exact this
  have CG : Hid (∀ w1 u v, Sl w1 u I1.toArray → Sl w1 v I2.toArray → Calls Tryd.prog 20 #[u, v] w1 fun e w' => e = .returned (.bool true) ∧ Below w1.heap.size w1 w') := fun w1 u v h1 h2 =>
    bag_perm u v _ _ w1 h1 h2 (by rw [← hI1, ← hI2]; exact HPP.out) (by rw [← hI1, LT.items_length, HZ.out]; omega)
  have CN1 : Hid (∀ w1, Below wa.heap.size wa w1 → Calls Tryd.prog 14 #[.slice p5 n c5, .slice q1 n c1] w1 fun e w' => e = .returned (.bool true) ∧ Below w1.heap.size w1 w') := fun w1 hb => nodes_same _ _ A1 w1 (HXa.out.below hb) (HAa.out.below hb) hl1
  have CN2 : Hid (∀ w1, Below wa.heap.size wa w1 → Calls Tryd.prog 14 #[.slice p6 n c6, .slice q1 n c1] w1 fun e w' => e = .returned (.bool true) ∧ Below w1.heap.size w1 w') := fun w1 hb => nodes_same _ _ A1 w1 (HYa.out.below hb) (HAa.out.below hb) hl1
  clear HXa HYa HAa
  rcases Nat.eq_zero_or_pos N with hN0 | hN0
  · subst hN0
    obtain rfl : n = 0 := by omega
    obtain rfl : n' = 0 := by omega
    have cI : ∀ p c q, Calls Tryd.prog 21 #[.slice p 0 c] (wa.drewN q) fun e w' => e = .returned (.slice none 0 0) ∧ ∃ m, w' = wa.drewN m := fun p c q => (nodeItems_none p c _).mono fun e w' ⟨a, b⟩ => ⟨a, q, b⟩
    have cB : ∀ q, Calls Tryd.prog 20 #[.slice none 0 0, .slice none 0 0] (wa.drewN q) fun e w' => e = .returned (.bool true) ∧ ∃ m, w' = wa.drewN m := fun q => by
      have := bag_any (.slice none 0 0) (.slice none 0 0) #[] #[] (wa.drewN q) (Sl.nil _) (Sl.nil _) (by simp)
      rw [bagB_intro rfl (fun _ => rfl)] at this
      exact this.mono fun e w' ⟨a, m, b⟩ => ⟨a, q + m, by rw [b, World.drewN_drewN]⟩
    have cN : ∀ p c p' c' q, Calls Tryd.prog 14 #[.slice p 0 c, .slice p' 0 c'] (wa.drewN q) fun e w' => e = .returned (.bool true) ∧ ∃ m, w' = wa.drewN m := fun p c p' c' q =>
      (nodes_none p p' c c' (wa.drewN q)).mono fun e w' ⟨a, m, b⟩ => ⟨a, q + m, by rw [b, World.drewN_drewN]⟩
    clear HMa HQa CI1 CI2 CG CN1 CN2
    go_wp2_with fail
    go_quiet (first | (go_at_call 21; exact cI _ _ _) | (go_at_call 20; exact cB _) | (go_at_call 14; exact cN _ _ _ _ _))
    go_wp2
    go_ret
    exact ⟨rfl, below_dn hba _⟩
  · have hNq : ((N : Int) == 0) = false := beq_eq_false_iff_ne.2 (by omega)
    have hNz : (0 : Int) < (N : Int) := by omega
    obtain ⟨bm, om, rfl, _, _, hrm⟩ := HMa.out.some hN0
    obtain ⟨bn, on, rfl, _, _, hrn⟩ := HQa.out.some hN0
    have hlm := hrm.1
    have hln := hrn.1
    obtain ⟨k, ym, yn⟩ : ∃ k, wa.cell? ⟨bm, om, none⟩ = some (.int .i64 k) ∧ wa.cell? ⟨bn, on, none⟩ = some (.int .i64 k) := by
      cases M1 using LT.parts with
      | nil => have := HZ.out; simp [LT.size] at this; omega
      | node k i a b =>
        cases M2 using LT.parts with
        | nil => have := HZ2.out; simp [LT.size] at this; omega
        | node k' i' a' b' =>
          have e := roots_same HPP.out HL.out.leans HL2.out.leans
          subst e
          have h1 := (hrm.node (show (LT.enc 0 (.node k i a b))[0]? = some (k, i, LT.place 1 a, LT.place (1 + a.size) b) by simp [LT.enc])).1
          have h2 := (hrn.node (show (LT.enc 0 (.node k i' a' b'))[0]? = some (k, i', LT.place 1 a', LT.place (1 + a'.size) b') by simp [LT.enc])).1
          simp only [Nat.zero_mul, Nat.add_zero] at h1 h2
          exact ⟨k, h1, h2⟩
    clear HMa HQa hrm hrn
    have hI1 := trivial
    have hI2 := trivial
    go_wp2_with fail
    go_region_held3 (fun w' => w'.cell? ⟨bm, om, none⟩ = some (.int .i64 k) ∧ w'.cell? ⟨bn, on, none⟩ = some (.int .i64 k)) (first | go_keep | (exact ⟨r0, r1⟩) | (exact ⟨s0, s1⟩) | (exact ⟨z0, z1⟩) | (exact ⟨y0, y1⟩) | (exact ⟨o0, o1⟩))
      (first | (go_at_call_of 21 (Value.slice (some ⟨bm, om, none⟩) N cm); refine (CI1.out _ ?_).mono ?_; (exact below_dn (Below.refl _ _) 1); rintro e wb ⟨pi, ci, rfl, hsb, hbb'⟩; have hbb : Below wa.heap.size wa wb := (below_dn (Below.refl _ _) 1).trans hbb'; have r0 := (hbb.cell (p := ⟨bm, om, none⟩) hlm).trans ym; have r1 := (hbb.cell (p := ⟨bn, on, none⟩) hln).trans yn; have HSB : Hid (Sl wb (.slice pi N ci) I1.toArray) := hsb; clear hsb hbb') | (go_at_call_of 21 (Value.slice (some ⟨bn, on, none⟩) N cn); refine (CI2.out _ hbb).mono ?_; rintro e wc ⟨pj, cj, rfl, hsc, hbc'⟩; have hbc := hbb.trans (hbc'.mono hbb.size); have s0 := (hbc.cell (p := ⟨bm, om, none⟩) hlm).trans ym; have s1 := (hbc.cell (p := ⟨bn, on, none⟩) hln).trans yn; have HSC : Hid (Sl wc (.slice pj N cj) I2.toArray) := hsc; have HSB' : Hid (Sl wc (.slice pi N ci) I1.toArray) := HSB.out.below hbc'; clear hsc hbc') | (go_at_call 20; refine (CG.out _ _ _ HSB'.out HSC.out).mono ?_; rintro e wd ⟨rfl, hbd'⟩; have hbd := hbc.trans (hbd'.mono hbc.size); have z0 := (hbd.cell (p := ⟨bm, om, none⟩) hlm).trans ym; have z1 := (hbd.cell (p := ⟨bn, on, none⟩) hln).trans yn; clear hbd') | (go_at_call_of 14 (Value.slice p5 n c5); refine (CN1.out _ hbd).mono ?_; rintro e we ⟨rfl, hbe'⟩; have hbe := hbd.trans (hbe'.mono hbd.size); have y0 := (hbe.cell (p := ⟨bm, om, none⟩) hlm).trans ym; have y1 := (hbe.cell (p := ⟨bn, on, none⟩) hln).trans yn; clear hbe') | (go_at_call_of 14 (Value.slice p6 n c6); refine (CN2.out _ hbe).mono ?_; rintro e wf ⟨rfl, hbf'⟩; have hbf := hbe.trans (hbf'.mono hbe.size); have o0 := (hbf.cell (p := ⟨bm, om, none⟩) hlm).trans ym; have o1 := (hbf.cell (p := ⟨bn, on, none⟩) hln).trans yn; clear hbf'))
    all_goals
      go_wp2
      go_ret
      exact ⟨rfl, hba.trans (Below.mono hbf hba.size)⟩

theorem leanSame_any (v v' : Value) (xs ys : Array (Int × Int)) (w : World) (h : Sl w v xs) (h' : Sl w v' ys) (hbig : xs.size ≤ 9223372036854775807) (hbig' : ys.size ≤ 9223372036854775807) (hgl : Glob w) :
    Calls Tryd.prog 7 #[v, v'] w fun e w' => e = .returned (.bool true) ∧ Below w.heap.size w w' := by
  obtain ⟨p, cap, rfl, hcap, hp⟩ := id h
  obtain ⟨p', cap', rfl, hcap', hp'⟩ := id h'
  by_cases h0 : wrong xs = 0
  · by_cases h0' : wrong ys = 0
    · by_cases h60 : 60 < xs.size + ys.size
      · exact leanSame_C p p' _ cap _ cap' xs ys w (wrong_le h0) (wrong_le h0') rfl rfl h h' h0 h0' hgl h60
      · exact leanSame_D p p' _ cap _ cap' xs ys w (wrong_le h0) (wrong_le h0') rfl rfl h h' h0 h0' hgl (by omega)
    · exact leanSame_B p p' _ cap _ cap' w (fun w1 hb => (grown_good _ xs w1 (h.below hb) h0).mono fun e w' ⟨a, b, _, c, _, _, d⟩ => ⟨a, _, b, c, d⟩) (fun w1 hb => (grown_bad _ ys w1 (h'.below hb) hbig' h0').mono fun e w' ⟨a, b, c, d, e⟩ => ⟨a, b, c, d, e⟩)
  · refine leanSame_A p p' _ cap _ cap' w (fun w1 hb => (grown_bad _ xs w1 (h.below hb) hbig h0).mono fun e w' ⟨a, b, c, d, e⟩ => ⟨a, b, c, d, e⟩) (fun w1 hb => ?_)
    by_cases h0' : wrong ys = 0
    · exact (grown_good _ ys w1 (h'.below hb) h0').mono fun e w' ⟨a, b, _, c, _, _, d⟩ => ⟨a, _, b, true, c, d⟩
    · exact (grown_bad _ ys w1 (h'.below hb) hbig' h0').mono fun e w' ⟨a, b, c, d, e⟩ => ⟨a, b, c, false, d, e⟩
#print axioms leanSame_any
end Go.Proofs.YtoaabpoicacogaaDoor
