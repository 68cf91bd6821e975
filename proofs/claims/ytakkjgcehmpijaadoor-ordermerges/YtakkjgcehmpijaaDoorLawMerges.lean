/-
  The law OrderMerges, walked: of two lists sorted the merged one is both, one behind the other, sorted.
-/
import Derived.Test.YtakkjgcehmpijaaDoorMrgE
import Derived.Test.YtakkjgcehmpijaaDoorBothW
import Derived.Test.YtakkjgcehmpijaaDoorKnownW
import Derived.Test.YtakkjgcehmpijaaDoorTold
namespace Go.Proofs.YtakkjgcehmpijaaDoor
open Go.RowKit Go.Sort Go.Proofs

theorem StEq.append {a a' b b' : List (Int × Int)} (h : StEq a a') (g : StEq b b') : StEq (a ++ b) (a' ++ b') := fun k => by rw [List.filter_append, List.filter_append, h k, g k]
theorem wrong_big {xs : Array (Int × Int)} (h : 60 < xs.size) : wrong xs = 4 := by unfold wrong; rw [if_pos h]
theorem wrong_both {xs ys : Array (Int × Int)} (h1 : wrong xs = 0) (h2 : wrong ys = 0) (h : xs.size + ys.size ≤ 60) : wrong (xs ++ ys) = 0 := by
  have o : ∀ zs : Array (Int × Int), wrong zs = 0 → anyOut zs = false := fun zs hz => by
    unfold wrong at hz
    rw [if_neg (by have := wrong_le hz; omega)] at hz
    cases e : anyOut zs
    · rfl
    · rw [e] at hz; simp at hz
  have o1 := o xs h1
  have o2 := o ys h2
  unfold wrong
  rw [if_neg (by simp; omega)]
  unfold anyOut at o1 o2 ⊢
  rw [Array.toList_append, List.any_append, o1, o2]; rfl
theorem sorts_wrongS {xs zs : Array (Int × Int)} (h : Sorts xs zs) (h0 : wrong xs = 0) : wrongS zs = 0 := by
  unfold wrongS
  rw [h.wrong, if_pos h0, srt_srtB h.srt]; rfl
theorem Sorts.both {xs ys as' bs os : Array (Int × Int)} (h1 : Sorts xs as') (h2 : Sorts ys bs) (h : Sorts (as' ++ bs) os) : Sorts (xs ++ ys) os :=
  ⟨by rw [h.size, Array.size_append, Array.size_append, h1.size, h2.size], by
    have := h.st
    rw [Array.toList_append] at this ⊢
    exact (StEq.append h1.st h2.st).trans this, h.srt⟩

set_option maxHeartbeats 4000000 in
set_option maxRecDepth 4000 in
theorem merges_1 (p q : Option Addr) (ca cb A B : Nat) (w : World) (k : Nat) (C0 : Hid (∀ w1, Below w.heap.size w w1 → Calls Tryd.prog 14 #[] w1 fun e w' => e = .returned (.bool true) ∧ Below w1.heap.size w1 w')) (C1 : Hid (∀ w1, Below w.heap.size w w1 → Calls Tryd.prog 15 #[.slice p A ca] w1 fun e w' => e = .returned (.tuple #[.slice none 0 0, .iface 48 (.int .i64 k)]) ∧ Below w1.heap.size w1 w')) (C2 : Hid (∀ w1, Below w.heap.size w w1 → Calls Tryd.prog 15 #[.slice q B cb] w1 fun e w' => ∃ u, e = .returned u ∧ (∃ s k, u = .tuple #[s, .iface 48 (.int .i64 k)]) ∧ Below w1.heap.size w1 w')) :
    Calls Tryd.prog 4 #[.slice p A ca, .slice q B cb] w fun e w' => e = .returned (.bool true) ∧ Below w.heap.size w w' := by
  go_enter Tryd.func4, Tryd.ntmps4
  go_wp2_with fail
  refine (C0.out w (Below.refl _ _)).mono ?_
  rintro e w1 ⟨rfl, hb1'⟩
  have hb1 : Below w.heap.size w w1 := hb1'
  go_wp2_with fail
  refine (C1.out w1 hb1).mono ?_
  rintro e w2 ⟨rfl, hb2'⟩
  have hb2 : Below w.heap.size w w2 := hb1.trans (hb2'.mono hb1.size)
  go_wp2_with fail
  refine (C2.out w2 hb2).mono ?_
  rintro e w3 ⟨u, rfl, ⟨s, k3, rfl⟩, hb3'⟩
  have hb3 := hb2.trans (hb3'.mono hb2.size)
  go_wp2
  go_ret
  exact ⟨rfl, hb3⟩

set_option maxHeartbeats 4000000 in
set_option maxRecDepth 4000 in
theorem merges_2 (p q : Option Addr) (ca cb A B : Nat) (w : World) (k : Nat) (ys : Array (Int × Int)) (C0 : Hid (∀ w1, Below w.heap.size w w1 → Calls Tryd.prog 14 #[] w1 fun e w' => e = .returned (.bool true) ∧ Below w1.heap.size w1 w')) (C1 : Hid (∀ w1, Below w.heap.size w w1 → Calls Tryd.prog 15 #[.slice p A ca] w1 fun e w' => e = .returned (.tuple #[.slice none 0 0, .iface 48 (.int .i64 k)]) ∧ Below w1.heap.size w1 w')) (C2 : Hid (∀ w1, Below w.heap.size w w1 → Calls Tryd.prog 15 #[.slice q B cb] w1 fun e w' => ∃ g zs, e = .returned (.tuple #[.slice (some ⟨g, 0, none⟩) B B, .nilIface]) ∧ RdAt w' g 0 zs ∧ Sorts ys zs ∧ Below w1.heap.size w1 w')) :
    Calls Tryd.prog 4 #[.slice p A ca, .slice q B cb] w fun e w' => e = .returned (.bool true) ∧ Below w.heap.size w w' := by
  go_enter Tryd.func4, Tryd.ntmps4
  go_wp2_with fail
  refine (C0.out w (Below.refl _ _)).mono ?_
  rintro e w1 ⟨rfl, hb1'⟩
  have hb1 : Below w.heap.size w w1 := hb1'
  go_wp2_with fail
  refine (C1.out w1 hb1).mono ?_
  rintro e w2 ⟨rfl, hb2'⟩
  have hb2 : Below w.heap.size w w2 := hb1.trans (hb2'.mono hb1.size)
  go_wp2_with fail
  refine (C2.out w2 hb2).mono ?_
  rintro e w3 ⟨g, zs, rfl, _, _, hb3'⟩
  have hb3 := hb2.trans (hb3'.mono hb2.size)
  go_wp2
  go_ret
  exact ⟨rfl, hb3⟩

set_option maxHeartbeats 4000000 in
set_option maxRecDepth 4000 in
theorem merges_3 (p q : Option Addr) (ca cb A B : Nat) (w : World) (k : Nat) (xs : Array (Int × Int)) (C0 : Hid (∀ w1, Below w.heap.size w w1 → Calls Tryd.prog 14 #[] w1 fun e w' => e = .returned (.bool true) ∧ Below w1.heap.size w1 w')) (C1 : Hid (∀ w1, Below w.heap.size w w1 → Calls Tryd.prog 15 #[.slice p A ca] w1 fun e w' => ∃ g zs, e = .returned (.tuple #[.slice (some ⟨g, 0, none⟩) A A, .nilIface]) ∧ RdAt w' g 0 zs ∧ Sorts xs zs ∧ Below w1.heap.size w1 w')) (C2 : Hid (∀ w1, Below w.heap.size w w1 → Calls Tryd.prog 15 #[.slice q B cb] w1 fun e w' => e = .returned (.tuple #[.slice none 0 0, .iface 48 (.int .i64 k)]) ∧ Below w1.heap.size w1 w')) :
    Calls Tryd.prog 4 #[.slice p A ca, .slice q B cb] w fun e w' => e = .returned (.bool true) ∧ Below w.heap.size w w' := by
  go_enter Tryd.func4, Tryd.ntmps4
  go_wp2_with fail
  refine (C0.out w (Below.refl _ _)).mono ?_
  rintro e w1 ⟨rfl, hb1'⟩
  have hb1 : Below w.heap.size w w1 := hb1'
  go_wp2_with fail
  refine (C1.out w1 hb1).mono ?_
  rintro e w2 ⟨g, zs, rfl, _, _, hb2'⟩
  have hb2 := hb1.trans (hb2'.mono hb1.size)
  go_wp2_with fail
  refine (C2.out w2 hb2).mono ?_
  rintro e w3 ⟨rfl, hb3'⟩
  have hb3 : Below w.heap.size w w3 := hb2.trans (hb3'.mono hb2.size)
  go_wp2
  go_ret
  exact ⟨rfl, hb3⟩

set_option maxHeartbeats 4000000 in
set_option maxRecDepth 4000 in
theorem merges_4 (p q : Option Addr) (ca cb A B : Nat) (w : World) (xs ys : Array (Int × Int)) (HA : Hid (xs.size = A)) (HB : Hid (ys.size = B)) (hx : Hid (wrong xs = 0)) (hy : Hid (wrong ys = 0)) (l1 : A ≤ 60) (l2 : B ≤ 60) (h60 : 60 < A + B) (C0 : Hid (∀ w1, Below w.heap.size w w1 → Calls Tryd.prog 14 #[] w1 fun e w' => e = .returned (.bool true) ∧ Below w1.heap.size w1 w')) (C1 : Hid (∀ w1, Below w.heap.size w w1 → Calls Tryd.prog 15 #[.slice p A ca] w1 fun e w' => ∃ g zs, e = .returned (.tuple #[.slice (some ⟨g, 0, none⟩) A A, .nilIface]) ∧ RdAt w' g 0 zs ∧ Sorts xs zs ∧ Below w1.heap.size w1 w')) (C2 : Hid (∀ w1, Below w.heap.size w w1 → Calls Tryd.prog 15 #[.slice q B cb] w1 fun e w' => ∃ g zs, e = .returned (.tuple #[.slice (some ⟨g, 0, none⟩) B B, .nilIface]) ∧ RdAt w' g 0 zs ∧ Sorts ys zs ∧ Below w1.heap.size w1 w')) (C3 : Hid (∀ w1, Below w.heap.size w w1 → Calls Tryd.prog 16 #[.slice p A ca, .slice q B cb] w1 fun e w' => ∃ u, e = .returned u ∧ OwnI w' w1.heap.size u (xs.toList ++ ys.toList) ∧ Below w1.heap.size w1 w')) (C4 : Hid (∀ w1, Below w.heap.size w w1 → Calls Tryd.prog 10 #[.iface 48 (.int .i64 4), .int .i64 4] w1 fun e w' => e = .returned (.bool true) ∧ Below w1.heap.size w1 w')) :
    Calls Tryd.prog 4 #[.slice p A ca, .slice q B cb] w fun e w' => e = .returned (.bool true) ∧ Below w.heap.size w w' := by
  have hwr : IntKind.i64.wrap ((A : Int) + (B : Int)) = (A : Int) + (B : Int) := by rw [IntKind.wrap_i64]; omega
  have hz : (60 : Int) < (A : Int) + (B : Int) := by omega
  go_enter Tryd.func4, Tryd.ntmps4
  go_wp2_with fail
  refine (C0.out w (Below.refl _ _)).mono ?_
  rintro e w1 ⟨rfl, hb1'⟩
  have hb1 : Below w.heap.size w w1 := hb1'
  go_wp2_with fail
  refine (C1.out w1 hb1).mono ?_
  rintro e w2 ⟨ga, za, rfl, ra, sa, hb2'⟩
  have hb2 := hb1.trans (hb2'.mono hb1.size)
  have RA : Hid (RdAt w2 ga 0 za) := ra
  have SA : Hid (Sorts xs za) := sa
  clear ra sa
  go_wp2_with fail
  refine (C2.out w2 hb2).mono ?_
  rintro e w3 ⟨gb, zb, rfl, rb, sb, hb3'⟩
  have hb3 := hb2.trans (hb3'.mono hb2.size)
  have RB : Hid (RdAt w3 gb 0 zb) := rb
  have SB : Hid (Sorts ys zb) := sb
  clear rb sb
  have eA : za.size = A := by rw [SA.out.size]; exact HA.out
  have eB : zb.size = B := by rw [SB.out.size]; exact HB.out
  have la : Sl w3 (.slice (some ⟨ga, 0, none⟩) za.size za.size) za := Sl.of_rd (RA.out.below hb3' RA.out.1) (Nat.le_refl _)
  have lb : Sl w3 (.slice (some ⟨gb, 0, none⟩) zb.size zb.size) zb := Sl.of_rd RB.out (Nat.le_refl _)
  have em : wrongM za zb = 4 := by unfold wrongM; rw [if_pos (sorts_wrongS SA.out hx.out), if_pos (sorts_wrongS SB.out hy.out), if_pos (by omega)]
  have cm := merge_bad (some ⟨ga, 0, none⟩) (some ⟨gb, 0, none⟩) za.size zb.size za zb w3 la lb (by omega) (by omega) (by rw [em]; decide)
  rw [em, eA, eB] at cm
  clear la lb em eA eB
  go_wp2_with fail
  refine cm.mono ?_
  rintro e w4 ⟨rfl, hb4'⟩
  have hb4 := hb3.trans (hb4'.mono hb3.size)
  clear cm
  go_wp2_with fail
  refine (C3.out w4 hb4).mono ?_
  rintro e w5 ⟨u, rfl, ho, hb5'⟩
  have hb5 := hb4.trans (hb5'.mono hb4.size)
  have hs : Sl w5 u (xs ++ ys) := by have := ho.sl; rw [show (xs.toList ++ ys.toList).toArray = xs ++ ys by simp] at this; exact this
  have hsz : (xs ++ ys).size = A + B := by rw [Array.size_append, HA.out, HB.out]
  have cs := sort_bad u (xs ++ ys) w5 hs (by omega) 4 (wrong_big (by omega)) (by decide)
  clear ho hs hsz
  go_wp2_with fail
  refine cs.mono ?_
  rintro e w6 ⟨rfl, hb6'⟩
  have hb6 := hb5.trans (hb6'.mono hb5.size)
  clear cs
  go_wp2_with fail
  refine (C4.out w6 hb6).mono ?_
  rintro e w7 ⟨rfl, hb7'⟩
  have hb7 : Below w.heap.size w w7 := hb6.trans (hb7'.mono hb6.size)
  go_wp2
  go_ret
  exact ⟨rfl, hb7⟩

set_option maxHeartbeats 4000000 in
set_option maxRecDepth 4000 in
theorem merges_5 (p q : Option Addr) (ca cb A B : Nat) (w : World) (xs ys : Array (Int × Int)) (HA : Hid (xs.size = A)) (HB : Hid (ys.size = B)) (hx : Hid (wrong xs = 0)) (hy : Hid (wrong ys = 0)) (h60 : A + B ≤ 60) (C0 : Hid (∀ w1, Below w.heap.size w w1 → Calls Tryd.prog 14 #[] w1 fun e w' => e = .returned (.bool true) ∧ Below w1.heap.size w1 w')) (C1 : Hid (∀ w1, Below w.heap.size w w1 → Calls Tryd.prog 15 #[.slice p A ca] w1 fun e w' => ∃ g zs, e = .returned (.tuple #[.slice (some ⟨g, 0, none⟩) A A, .nilIface]) ∧ RdAt w' g 0 zs ∧ Sorts xs zs ∧ Below w1.heap.size w1 w')) (C2 : Hid (∀ w1, Below w.heap.size w w1 → Calls Tryd.prog 15 #[.slice q B cb] w1 fun e w' => ∃ g zs, e = .returned (.tuple #[.slice (some ⟨g, 0, none⟩) B B, .nilIface]) ∧ RdAt w' g 0 zs ∧ Sorts ys zs ∧ Below w1.heap.size w1 w')) (C3 : Hid (∀ w1, Below w.heap.size w w1 → Calls Tryd.prog 16 #[.slice p A ca, .slice q B cb] w1 fun e w' => ∃ u, e = .returned u ∧ OwnI w' w1.heap.size u (xs.toList ++ ys.toList) ∧ Below w1.heap.size w1 w')) :
    Calls Tryd.prog 4 #[.slice p A ca, .slice q B cb] w fun e w' => e = .returned (.bool true) ∧ Below w.heap.size w w' := by
  go_enter Tryd.func4, Tryd.ntmps4
  go_wp2_with fail
  refine (C0.out w (Below.refl _ _)).mono ?_
  rintro e w1 ⟨rfl, hb1'⟩
  have hb1 : Below w.heap.size w w1 := hb1'
  go_wp2_with fail
  refine (C1.out w1 hb1).mono ?_
  rintro e w2 ⟨ga, za, rfl, ra, sa, hb2'⟩
  have hb2 := hb1.trans (hb2'.mono hb1.size)
  have RA : Hid (RdAt w2 ga 0 za) := ra
  have SA : Hid (Sorts xs za) := sa
  clear ra sa
  go_wp2_with fail
  refine (C2.out w2 hb2).mono ?_
  rintro e w3 ⟨gb, zb, rfl, rb, sb, hb3'⟩
  have hb3 := hb2.trans (hb3'.mono hb2.size)
  have RB : Hid (RdAt w3 gb 0 zb) := rb
  have SB : Hid (Sorts ys zb) := sb
  clear rb sb
  have eA : za.size = A := by rw [SA.out.size]; exact HA.out
  have eB : zb.size = B := by rw [SB.out.size]; exact HB.out
  have la : Sl w3 (.slice (some ⟨ga, 0, none⟩) za.size za.size) za := Sl.of_rd (RA.out.below hb3' RA.out.1) (Nat.le_refl _)
  have lb : Sl w3 (.slice (some ⟨gb, 0, none⟩) zb.size zb.size) zb := Sl.of_rd RB.out (Nat.le_refl _)
  have em : wrongM za zb = 0 := by unfold wrongM; rw [if_pos (sorts_wrongS SA.out hx.out), if_pos (sorts_wrongS SB.out hy.out), if_neg (by omega)]
  have cm := merge_good (some ⟨ga, 0, none⟩) (some ⟨gb, 0, none⟩) za.size zb.size za zb w3 la lb em
  rw [eA, eB] at cm
  clear la lb em eA eB
  go_wp2_with fail
  refine cm.mono ?_
  rintro e w4 ⟨x, rfl, os, hox, hsx, hb4'⟩
  have hb4 := hb3.trans (hb4'.mono hb3.size)
  have HOX : Hid (OwnI w4 w3.heap.size x os) := hox
  have HSX : Hid (Sorts (xs ++ ys) os.toArray) := SA.out.both SB.out hsx
  clear cm hox hsx
  go_wp2_with fail
  refine (C3.out w4 hb4).mono ?_
  rintro e w5 ⟨u, rfl, ho, hb5'⟩
  have hb5 := hb4.trans (hb5'.mono hb4.size)
  have hs : Sl w5 u (xs ++ ys) := by have := ho.sl; rw [show (xs.toList ++ ys.toList).toArray = xs ++ ys by simp] at this; exact this
  have hsz : (xs ++ ys).size = A + B := by rw [Array.size_append, HA.out, HB.out]
  have HSZ : Hid ((xs ++ ys).size = A + B) := hsz
  have cs := sort_good u (xs ++ ys) w5 hs (wrong_both hx.out hy.out (by rw [HA.out, HB.out]; exact h60))
  rw [hsz] at cs
  clear ho hs hsz
  go_wp2_with fail
  refine cs.mono ?_
  rintro e w6 ⟨g6, zs, rfl, rz, sz, hb6'⟩
  have hb6 := hb5.trans (hb6'.mono hb5.size)
  have RZ : Hid (RdAt w6 g6 0 zs) := rz
  have SZ : Hid (Sorts (xs ++ ys) zs) := sz
  clear cs rz sz
  have c7 := items_any x _ os.toArray zs w6 ((HOX.out.below hb5').below hb6').sl (Sl.of_rd (cap := A + B) RZ.out (by rw [SZ.out.size, HSZ.out]; exact Nat.le_refl _)) (by rw [HSX.out.size, HSZ.out]; omega)
  rw [decide_eq_true (HSX.out.unique SZ.out), SZ.out.size, HSZ.out] at c7
  go_wp2_with fail
  refine c7.mono ?_
  rintro e w7 ⟨rfl, q7, hw7⟩
  have hb7 : Below w.heap.size w w7 := by rw [hw7]; exact below_drewN hb6 q7
  clear hw7
  go_wp2
  go_ret
  exact ⟨rfl, hb7⟩

theorem orderMerges_any (u v : Value) (xs ys : Array (Int × Int)) (w : World) (hu : Sl w u xs) (hv : Sl w v ys) (h1 : xs.size ≤ 9223372036854775807) (h2 : ys.size ≤ 9223372036854775807) (hgl : Glob w) :
    Calls Tryd.prog 4 #[u, v] w fun e w' => e = .returned (.bool true) ∧ Below w.heap.size w w' := by
  obtain ⟨p, ca, rfl, _⟩ := id hu
  obtain ⟨q, cb, rfl, _⟩ := id hv
  have c0 := fun w1 (_ : Below w.heap.size w w1) => known_any w1
  have g1 := fun h w1 (hb : Below w.heap.size w w1) => sort_good _ xs w1 (hu.below hb) h
  have g2 := fun h w1 (hb : Below w.heap.size w w1) => sort_good _ ys w1 (hv.below hb) h
  have b1 := fun k hk h0 w1 (hb : Below w.heap.size w w1) => sort_bad _ xs w1 (hu.below hb) h1 k hk h0
  have b2 := fun k hk h0 w1 (hb : Below w.heap.size w w1) => sort_bad _ ys w1 (hv.below hb) h2 k hk h0
  by_cases a1 : wrong xs = 0
  · by_cases a2 : wrong ys = 0
    · have l1 := wrong_le a1
      have l2 := wrong_le a2
      have c3 := fun w1 (hb : Below w.heap.size w w1) => both_any p q ca cb xs.size ys.size xs ys w1 (hu.below hb) (hv.below hb) (by omega)
      by_cases h60 : 60 < xs.size + ys.size
      · have c4 := fun w1 (hb : Below w.heap.size w w1) => error_any 4 4 w1 (hgl.below hb)
        exact merges_4 p q ca cb xs.size ys.size w xs ys rfl rfl a1 a2 l1 l2 h60 c0 (g1 a1) (g2 a2) c3 c4
      · exact merges_5 p q ca cb xs.size ys.size w xs ys rfl rfl a1 a2 (by omega) c0 (g1 a1) (g2 a2) c3
    · exact merges_3 p q ca cb xs.size ys.size w _ xs c0 (g1 a1) (b2 _ rfl a2)
  · by_cases a2 : wrong ys = 0
    · exact merges_2 p q ca cb xs.size ys.size w _ ys c0 (b1 _ rfl a1) (g2 a2)
    · exact merges_1 p q ca cb xs.size ys.size w _ c0 (b1 _ rfl a1) (fun w1 hb => (b2 _ rfl a2 w1 hb).mono fun e w' ⟨h, g⟩ => ⟨_, h, ⟨_, _, rfl⟩, g⟩)
#print axioms orderMerges_any
end Go.Proofs.YtakkjgcehmpijaaDoor
