/-
  bino.Meld and bino.Push.
-/
import Derived.Test.YtmkjalpgeljnkaaDoorDCheck
import Derived.Test.YtmkjalpgeljnkaaDoorDRead
import Derived.Test.YtmkjalpgeljnkaaDoorDWrit
namespace Go.Proofs.YtmkjalpgeljnkaaDoor
open Go.RowKit Go.Sort Go.Proofs

theorem carTo_te {g1 g2 : List TrL} (h1 : IsH g1) (h2 : IsH g2) (j : Nat) : TE j (carTo (digitH g1) (digitH g2) j 0 []) := by
  have := (meldTo_spec (digitH g1) (digitH g2) (digitH_te h1) (digitH_te h2) j 0 [] (Or.inl rfl)).2.2.1
  rw [Nat.zero_add] at this
  exact this
theorem outAt_te {g1 g2 : List TrL} (h1 : IsH g1) (h2 : IsH g2) (j : Nat) : TE j (outAt (digitH g1) (digitH g2) j) := (pick_step (carTo_te h1 h2 j) (digitH_te h1 j) (digitH_te h2 j)).1
theorem dig_len {g : List TrL} (h : IsH g) (j : Nat) (hj : j < 6) : (digitH g j).length ≤ 1000 := by
  have := (digitH_te h j).len (by omega); omega
theorem car_len {g1 g2 : List TrL} (h1 : IsH g1) (h2 : IsH g2) (j : Nat) (hj : j ≤ 6) : (carTo (digitH g1) (digitH g2) j 0 []).length ≤ 1000 := by
  have := (carTo_te h1 h2 j).len (by omega); omega
theorem out_len {g1 g2 : List TrL} (h1 : IsH g1) (h2 : IsH g2) (j : Nat) (hj : j < 6) : (outAt (digitH g1) (digitH g2) j).length ≤ 1000 := by
  have := (outAt_te h1 h2 j).len (by omega); omega
theorem OkH.cat {g : List TrL} (h : OkH g) : catTo (digitH g) 6 0 = itemsH g := catTo_digit 6 0 g h.isH.rise fun t ht => ⟨Nat.zero_le _, by have := h.rank t ht; omega⟩
theorem OkH.high {g : List TrL} (h : OkH g) (j : Nat) (hj : 6 ≤ j) : digitH g j = [] := digitH_none fun t ht => by have := h.rank t ht; omega
/-- Six ranks are enough. -/
theorem meldH_six {g1 g2 : List TrL} (h1 : OkH g1) (h2 : OkH g2) (h : (itemsH g1).length + (itemsH g2).length ≤ 60) : meldH g1 g2 = putTo (outAt (digitH g1) (digitH g2)) 6 := by
  have hc : carTo (digitH g1) (digitH g2) 6 0 [] = [] := by
    obtain ⟨_, _, s3, s4⟩ := meldTo_spec (digitH g1) (digitH g2) (digitH_te h1.isH) (digitH_te h2.isH) 6 0 [] (Or.inl rfl)
    rcases s3 with e | s3
    · exact e
    · rw [h1.cat, h2.cat] at s4
      have e := s4.length_eq
      have l := s3.len
      simp only [List.length_append, List.nil_append] at e
      rw [l] at e
      simp at e
      omega
  unfold meldH
  rw [meldTo_add (digitH g1) (digitH g2) 6 2 0, hc, ← meldTo_put]
  have e : meldTo (digitH g1) (digitH g2) 2 (0 + 6) [] = [] := by
    simp only [meldTo]
    rw [h1.high (0 + 6) (by omega), h2.high (0 + 6) (by omega), h1.high (0 + 6 + 1) (by omega), h2.high (0 + 6 + 1) (by omega)]
    simp [pickL, optL, outD, carD, putR]
  rw [e, List.append_nil]

set_option maxHeartbeats 4000000 in
theorem dMeld_A (p1 p2 : Option Addr) (n1 c1 n2 c2 k : Nat) (w : World)
    (C1 : Hid (Calls Tryd.prog 9 #[.slice p1 n1 c1] w fun e w' => e = .returned (.iface 56 (.int .i64 k)) ∧ Below w.heap.size w w')) :
    Calls Tryd.prog 12 #[.slice p1 n1 c1, .slice p2 n2 c2] w fun e w' => e = .returned (.tuple #[.slice none 0 0, .iface 56 (.int .i64 k)]) ∧ Below w.heap.size w w' := by
  go_enter Tryd.func12, Tryd.ntmps12
  go_wp2_with fail
  refine C1.out.mono ?_
  rintro e w1 ⟨rfl, hb⟩
  go_wp2
  go_ret2
  exact ⟨rfl, hb⟩
set_option maxHeartbeats 4000000 in
theorem dMeld_B (p1 p2 : Option Addr) (n1 c1 n2 c2 k : Nat) (w : World)
    (C1 : Hid (Calls Tryd.prog 9 #[.slice p1 n1 c1] w fun e w' => e = .returned .nilIface ∧ Below w.heap.size w w'))
    (C2 : Hid (∀ w1, Below w.heap.size w w1 → Calls Tryd.prog 9 #[.slice p2 n2 c2] w1 fun e w' => e = .returned (.iface 56 (.int .i64 k)) ∧ Below w1.heap.size w1 w')) :
    Calls Tryd.prog 12 #[.slice p1 n1 c1, .slice p2 n2 c2] w fun e w' => e = .returned (.tuple #[.slice none 0 0, .iface 56 (.int .i64 k)]) ∧ Below w.heap.size w w' := by
  go_enter Tryd.func12, Tryd.ntmps12
  go_wp2_with fail
  refine C1.out.mono ?_
  rintro e w1 ⟨rfl, hb⟩
  go_wp2_with fail
  refine (C2.out w1 hb).mono ?_
  rintro e w2 ⟨rfl, hb2⟩
  go_wp2
  go_ret2
  exact ⟨rfl, hb.trans (hb2.mono hb.size)⟩
set_option maxHeartbeats 32000000 in
set_option maxRecDepth 8000 in
theorem dMeld_C (p1 p2 : Option Addr) (n1 c1 n2 c2 m1 m2 : Nat) (g1 g2 : List TrL) (w : World) (h1 : m1 ≤ 60) (h2 : m2 ≤ 60) (h3 : 60 < m1 + m2) (HM1 : Hid ((itemsH g1).length = m1)) (HM2 : Hid ((itemsH g2).length = m2)) (HG1 : Hid (OkH g1)) (HG2 : Hid (OkH g2)) (HA : Hid (HpAt w (.slice p1 n1 c1) (zH g1))) (HB : Hid (HpAt w (.slice p2 n2 c2) (zH g2)))
    (C1 : Hid (Calls Tryd.prog 9 #[.slice p1 n1 c1] w fun e w' => e = .returned .nilIface ∧ Below w.heap.size w w'))
    (C2 : Hid (∀ w1, Below w.heap.size w w1 → Calls Tryd.prog 9 #[.slice p2 n2 c2] w1 fun e w' => e = .returned .nilIface ∧ Below w1.heap.size w1 w')) :
    Calls Tryd.prog 12 #[.slice p1 n1 c1, .slice p2 n2 c2] w fun e w' => e = .returned (.tuple #[.slice none 0 0, .iface 56 (.int .i64 4)]) ∧ Below w.heap.size w w' := by
  have hw : IntKind.i64.wrap ((m1 : Int) + (m2 : Int)) = (m1 : Int) + (m2 : Int) := by rw [IntKind.wrap_i64]; omega
  have hz : (60 : Int) < (m1 : Int) + (m2 : Int) := by omega
  go_enter Tryd.func12, Tryd.ntmps12
  go_wp2_with fail
  refine C1.out.mono ?_
  rintro e w1 ⟨rfl, hb1⟩
  go_wp2_with fail
  refine (C2.out w1 hb1).mono ?_
  rintro e w2 ⟨rfl, hb2'⟩
  have hb2 := hb1.trans (hb2'.mono hb1.size)
  clear hb2' hb1
  have cR1 := read_any _ g1 w2 (HA.out.below hb2) HG1.out
  go_wp2_with fail
  refine cR1.mono ?_
  rintro e w3 ⟨d1, he, hd1, hb3'⟩
  obtain ⟨a0, a1, a2, a3, a4, a5, rfl⟩ := six hd1.1
  have he' : e = .returned (.agg #[.slice a0.1 a0.2.1 a0.2.2, .slice a1.1 a1.2.1 a1.2.2, .slice a2.1 a2.2.1 a2.2.2, .slice a3.1 a3.2.1 a3.2.2, .slice a4.1 a4.2.1 a4.2.2, .slice a5.1 a5.2.1 a5.2.2]) := he
  subst he'
  have hb3 := hb2.trans (hb3'.mono hb2.size)
  have HD1 : Hid (DgAt w3 [a0, a1, a2, a3, a4, a5] (digitH g1)) := hd1.below hb3'
  clear he hd1 hb3' cR1 hb2
  have cR2 := read_any _ g2 w3 (HB.out.below hb3) HG2.out
  go_wp2_with fail
  refine cR2.mono ?_
  rintro e w4 ⟨d2, he, hd2, hb4'⟩
  obtain ⟨b0, b1, b2, b3, b4, b5, rfl⟩ := six hd2.1
  have he' : e = .returned (.agg #[.slice b0.1 b0.2.1 b0.2.2, .slice b1.1 b1.2.1 b1.2.2, .slice b2.1 b2.2.1 b2.2.2, .slice b3.1 b3.2.1 b3.2.2, .slice b4.1 b4.2.1 b4.2.2, .slice b5.1 b5.2.1 b5.2.2]) := he
  subst he'
  have hb4 := hb3.trans (hb4'.mono hb3.size)
  have HD1b : Hid (DgAt w4 [a0, a1, a2, a3, a4, a5] (digitH g1)) := HD1.out.below hb4'
  have HD2b : Hid (DgAt w4 [b0, b1, b2, b3, b4, b5] (digitH g2)) := hd2.below hb4'
  clear he hd2 hb4' cR2 hb3 HD1
  have HW5 : Hid (Below w4.heap.size w4 ((w4.alloc (.cells #[.slice a0.1 a0.2.1 a0.2.2, .slice a1.1 a1.2.1 a1.2.2, .slice a2.1 a2.2.1 a2.2.2, .slice a3.1 a3.2.1 a3.2.2, .slice a4.1 a4.2.1 a4.2.2, .slice a5.1 a5.2.1 a5.2.2] 62)).alloc (.cells #[.slice b0.1 b0.2.1 b0.2.2, .slice b1.1 b1.2.1 b1.2.2, .slice b2.1 b2.2.1 b2.2.2, .slice b3.1 b3.2.1 b3.2.2, .slice b4.1 b4.2.1 b4.2.2, .slice b5.1 b5.2.1 b5.2.2] 62))) := ((Below.refl _ _).alloc (Nat.le_refl _) _).alloc (by simp) _
  have HSA : Hid (WrE ES ((w4.alloc (.cells #[.slice a0.1 a0.2.1 a0.2.2, .slice a1.1 a1.2.1 a1.2.2, .slice a2.1 a2.2.1 a2.2.2, .slice a3.1 a3.2.1 a3.2.2, .slice a4.1 a4.2.1 a4.2.2, .slice a5.1 a5.2.1 a5.2.2] 62)).alloc (.cells #[.slice b0.1 b0.2.1 b0.2.2, .slice b1.1 b1.2.1 b1.2.2, .slice b2.1 b2.2.1 b2.2.2, .slice b3.1 b3.2.1 b3.2.2, .slice b4.1 b4.2.1 b4.2.2, .slice b5.1 b5.2.1 b5.2.2] 62)) w4.heap.size 0 [a0, a1, a2, a3, a4, a5]) := (new_six w4 a0 a1 a2 a3 a4 a5 _).alloc' _
  have HSB : Hid (WrE ES ((w4.alloc (.cells #[.slice a0.1 a0.2.1 a0.2.2, .slice a1.1 a1.2.1 a1.2.2, .slice a2.1 a2.2.1 a2.2.2, .slice a3.1 a3.2.1 a3.2.2, .slice a4.1 a4.2.1 a4.2.2, .slice a5.1 a5.2.1 a5.2.2] 62)).alloc (.cells #[.slice b0.1 b0.2.1 b0.2.2, .slice b1.1 b1.2.1 b1.2.2, .slice b2.1 b2.2.1 b2.2.2, .slice b3.1 b3.2.1 b3.2.2, .slice b4.1 b4.2.1 b4.2.2, .slice b5.1 b5.2.1 b5.2.2] 62)) (w4.heap.size + 1) 0 [b0, b1, b2, b3, b4, b5]) := by
    show WrE _ _ _ _ _
    have h := new_six (w4.alloc (.cells #[.slice a0.1 a0.2.1 a0.2.2, .slice a1.1 a1.2.1 a1.2.2, .slice a2.1 a2.2.1 a2.2.2, .slice a3.1 a3.2.1 a3.2.2, .slice a4.1 a4.2.1 a4.2.2, .slice a5.1 a5.2.1 a5.2.2] 62)) b0 b1 b2 b3 b4 b5 62
    rw [show (w4.alloc (.cells #[.slice a0.1 a0.2.1 a0.2.2, .slice a1.1 a1.2.1 a1.2.2, .slice a2.1 a2.2.1 a2.2.2, .slice a3.1 a3.2.1 a3.2.2, .slice a4.1 a4.2.1 a4.2.2, .slice a5.1 a5.2.1 a5.2.2] 62)).heap.size = w4.heap.size + 1 by simp] at h
    exact h
  go_wp2_with fail
  generalize ((w4.alloc (.cells #[.slice a0.1 a0.2.1 a0.2.2, .slice a1.1 a1.2.1 a1.2.2, .slice a2.1 a2.2.1 a2.2.2, .slice a3.1 a3.2.1 a3.2.2, .slice a4.1 a4.2.1 a4.2.2, .slice a5.1 a5.2.1 a5.2.2] 62)).alloc (.cells #[.slice b0.1 b0.2.1 b0.2.2, .slice b1.1 b1.2.1 b1.2.2, .slice b2.1 b2.2.1 b2.2.2, .slice b3.1 b3.2.1 b3.2.2, .slice b4.1 b4.2.1 b4.2.2, .slice b5.1 b5.2.1 b5.2.2] 62)) = w5 at HW5 HSA HSB ⊢
  have hga : w4.heap.size < w5.heap.size := HSA.out.lt
  have hgb : w4.heap.size + 1 < w5.heap.size := HSB.out.lt
  obtain ⟨⟨xa0, xa1, xa2, xa3, xa4, xa5⟩, _⟩ := HSA.out.six
  obtain ⟨⟨xb0, xb1, xb2, xb3, xb4, xb5⟩, _⟩ := HSB.out.six
  have HB5 : Hid (Below w.heap.size w w5) := hb4.trans (HW5.out.mono hb4.size)
  have HD1c : Hid (DgAt w5 [a0, a1, a2, a3, a4, a5] (digitH g1)) := HD1b.out.below HW5.out
  have HD2c : Hid (DgAt w5 [b0, b1, b2, b3, b4, b5] (digitH g2)) := HD2b.out.below HW5.out
  clear HSA HSB HW5 hb4 HD1b HD2b
  generalize w4.heap.size + 1 = gb at *
  generalize w4.heap.size = ga at *
  have CS1 : Hid (∀ W, Calls Tryd.prog 35 #[.agg #[.slice a0.1 a0.2.1 a0.2.2, .slice a1.1 a1.2.1 a1.2.2, .slice a2.1 a2.2.1 a2.2.2, .slice a3.1 a3.2.1 a3.2.2, .slice a4.1 a4.2.1 a4.2.2, .slice a5.1 a5.2.1 a5.2.2]] W fun e w' => e = .returned (.int .i64 (m1 : Int)) ∧ Below W.heap.size W w') := by
    show ∀ W, _
    intro W
    have := dsize_any _ _ w5 W HD1c.out (fun j hj => dig_len HG1.out.isH j hj)
    rw [HG1.out.cat, HM1.out] at this
    exact this
  have CS2 : Hid (∀ W, Calls Tryd.prog 35 #[.agg #[.slice b0.1 b0.2.1 b0.2.2, .slice b1.1 b1.2.1 b1.2.2, .slice b2.1 b2.2.1 b2.2.2, .slice b3.1 b3.2.1 b3.2.2, .slice b4.1 b4.2.1 b4.2.2, .slice b5.1 b5.2.1 b5.2.2]] W fun e w' => e = .returned (.int .i64 (m2 : Int)) ∧ Below W.heap.size W w') := by
    show ∀ W, _
    intro W
    have := dsize_any _ _ w5 W HD2c.out (fun j hj => dig_len HG2.out.isH j hj)
    rw [HG2.out.cat, HM2.out] at this
    exact this
  go_region_held3 (fun w' => w'.cell? ⟨ga, 0, none⟩ = some (.slice a0.1 a0.2.1 a0.2.2) ∧ w'.cell? ⟨ga, 1, none⟩ = some (.slice a1.1 a1.2.1 a1.2.2) ∧ w'.cell? ⟨ga, 2, none⟩ = some (.slice a2.1 a2.2.1 a2.2.2) ∧ w'.cell? ⟨ga, 3, none⟩ = some (.slice a3.1 a3.2.1 a3.2.2) ∧ w'.cell? ⟨ga, 4, none⟩ = some (.slice a4.1 a4.2.1 a4.2.2) ∧ w'.cell? ⟨ga, 5, none⟩ = some (.slice a5.1 a5.2.1 a5.2.2) ∧ w'.cell? ⟨gb, 0, none⟩ = some (.slice b0.1 b0.2.1 b0.2.2) ∧ w'.cell? ⟨gb, 1, none⟩ = some (.slice b1.1 b1.2.1 b1.2.2) ∧ w'.cell? ⟨gb, 2, none⟩ = some (.slice b2.1 b2.2.1 b2.2.2) ∧ w'.cell? ⟨gb, 3, none⟩ = some (.slice b3.1 b3.2.1 b3.2.2) ∧ w'.cell? ⟨gb, 4, none⟩ = some (.slice b4.1 b4.2.1 b4.2.2) ∧ w'.cell? ⟨gb, 5, none⟩ = some (.slice b5.1 b5.2.1 b5.2.2)) (first | go_keep | (exact ⟨ya0, ya1, ya2, ya3, ya4, ya5, yb0, yb1, yb2, yb3, yb4, yb5⟩) | (exact ⟨za0, za1, za2, za3, za4, za5, zb0, zb1, zb2, zb3, zb4, zb5⟩)) (first | (go_at_call_of 35 (Value.agg #[.slice a0.1 a0.2.1 a0.2.2, .slice a1.1 a1.2.1 a1.2.2, .slice a2.1 a2.2.1 a2.2.2, .slice a3.1 a3.2.1 a3.2.2, .slice a4.1 a4.2.1 a4.2.2, .slice a5.1 a5.2.1 a5.2.2]); refine (CS1.out _).mono ?_; rintro e w6 ⟨rfl, hb6'⟩; have hb6 : Below w5.heap.size w5 w6 := (below_drewN (Below.refl _ _) 1).trans hb6'; have hga6 := Nat.lt_of_lt_of_le hga hb6.size; have hgb6 := Nat.lt_of_lt_of_le hgb hb6.size; have ya0 := (hb6.cell (p := ⟨ga, 0, none⟩) hga).trans xa0; have ya1 := (hb6.cell (p := ⟨ga, 1, none⟩) hga).trans xa1; have ya2 := (hb6.cell (p := ⟨ga, 2, none⟩) hga).trans xa2; have ya3 := (hb6.cell (p := ⟨ga, 3, none⟩) hga).trans xa3; have ya4 := (hb6.cell (p := ⟨ga, 4, none⟩) hga).trans xa4; have ya5 := (hb6.cell (p := ⟨ga, 5, none⟩) hga).trans xa5; have yb0 := (hb6.cell (p := ⟨gb, 0, none⟩) hgb).trans xb0; have yb1 := (hb6.cell (p := ⟨gb, 1, none⟩) hgb).trans xb1; have yb2 := (hb6.cell (p := ⟨gb, 2, none⟩) hgb).trans xb2; have yb3 := (hb6.cell (p := ⟨gb, 3, none⟩) hgb).trans xb3; have yb4 := (hb6.cell (p := ⟨gb, 4, none⟩) hgb).trans xb4; have yb5 := (hb6.cell (p := ⟨gb, 5, none⟩) hgb).trans xb5; clear hb6') | (go_at_call_of 35 (Value.agg #[.slice b0.1 b0.2.1 b0.2.2, .slice b1.1 b1.2.1 b1.2.2, .slice b2.1 b2.2.1 b2.2.2, .slice b3.1 b3.2.1 b3.2.2, .slice b4.1 b4.2.1 b4.2.2, .slice b5.1 b5.2.1 b5.2.2]); refine (CS2.out _).mono ?_; rintro e w7 ⟨rfl, hb7'⟩; have hb7 : Below w5.heap.size w5 w7 := hb6.trans (hb7'.mono hb6.size); have za0 := (hb7.cell (p := ⟨ga, 0, none⟩) hga).trans xa0; have za1 := (hb7.cell (p := ⟨ga, 1, none⟩) hga).trans xa1; have za2 := (hb7.cell (p := ⟨ga, 2, none⟩) hga).trans xa2; have za3 := (hb7.cell (p := ⟨ga, 3, none⟩) hga).trans xa3; have za4 := (hb7.cell (p := ⟨ga, 4, none⟩) hga).trans xa4; have za5 := (hb7.cell (p := ⟨ga, 5, none⟩) hga).trans xa5; have zb0 := (hb7.cell (p := ⟨gb, 0, none⟩) hgb).trans xb0; have zb1 := (hb7.cell (p := ⟨gb, 1, none⟩) hgb).trans xb1; have zb2 := (hb7.cell (p := ⟨gb, 2, none⟩) hgb).trans xb2; have zb3 := (hb7.cell (p := ⟨gb, 3, none⟩) hgb).trans xb3; have zb4 := (hb7.cell (p := ⟨gb, 4, none⟩) hgb).trans xb4; have zb5 := (hb7.cell (p := ⟨gb, 5, none⟩) hgb).trans xb5; clear hb7'))
  all_goals
    go_wp2
    go_ret2
    exact ⟨rfl, HB5.out.trans (hb7.mono HB5.out.size)⟩
set_option maxHeartbeats 32000000 in
set_option maxRecDepth 8000 in
theorem dMeld_D (p1 p2 : Option Addr) (n1 c1 n2 c2 m1 m2 : Nat) (g1 g2 : List TrL) (w : World) (h1 : m1 ≤ 60) (h2 : m2 ≤ 60) (h3 : m1 + m2 ≤ 60) (HM1 : Hid ((itemsH g1).length = m1)) (HM2 : Hid ((itemsH g2).length = m2)) (HG1 : Hid (OkH g1)) (HG2 : Hid (OkH g2)) (HA : Hid (HpAt w (.slice p1 n1 c1) (zH g1))) (HB : Hid (HpAt w (.slice p2 n2 c2) (zH g2)))
    (C1 : Hid (Calls Tryd.prog 9 #[.slice p1 n1 c1] w fun e w' => e = .returned .nilIface ∧ Below w.heap.size w w'))
    (C2 : Hid (∀ w1, Below w.heap.size w w1 → Calls Tryd.prog 9 #[.slice p2 n2 c2] w1 fun e w' => e = .returned .nilIface ∧ Below w1.heap.size w1 w')) :
    Calls Tryd.prog 12 #[.slice p1 n1 c1, .slice p2 n2 c2] w fun e w' => ∃ u, e = .returned (.tuple #[u, .nilIface]) ∧ NewH w.heap.size w' u (meldH g1 g2) ∧ Below w.heap.size w w' := by
  have hw : IntKind.i64.wrap ((m1 : Int) + (m2 : Int)) = (m1 : Int) + (m2 : Int) := by rw [IntKind.wrap_i64]; omega
  have hz : ¬ (60 : Int) < (m1 : Int) + (m2 : Int) := by omega
  go_enter Tryd.func12, Tryd.ntmps12
  go_wp2_with fail
  refine C1.out.mono ?_
  rintro e w1 ⟨rfl, hb1⟩
  go_wp2_with fail
  refine (C2.out w1 hb1).mono ?_
  rintro e w2 ⟨rfl, hb2'⟩
  have hb2 := hb1.trans (hb2'.mono hb1.size)
  clear hb2' hb1
  have cR1 := read_any _ g1 w2 (HA.out.below hb2) HG1.out
  go_wp2_with fail
  refine cR1.mono ?_
  rintro e w3 ⟨d1, he, hd1, hb3'⟩
  obtain ⟨a0, a1, a2, a3, a4, a5, rfl⟩ := six hd1.1
  have he' : e = .returned (.agg #[.slice a0.1 a0.2.1 a0.2.2, .slice a1.1 a1.2.1 a1.2.2, .slice a2.1 a2.2.1 a2.2.2, .slice a3.1 a3.2.1 a3.2.2, .slice a4.1 a4.2.1 a4.2.2, .slice a5.1 a5.2.1 a5.2.2]) := he
  subst he'
  have hb3 := hb2.trans (hb3'.mono hb2.size)
  have HD1 : Hid (DgAt w3 [a0, a1, a2, a3, a4, a5] (digitH g1)) := hd1.below hb3'
  clear he hd1 hb3' cR1 hb2
  have cR2 := read_any _ g2 w3 (HB.out.below hb3) HG2.out
  go_wp2_with fail
  refine cR2.mono ?_
  rintro e w4 ⟨d2, he, hd2, hb4'⟩
  obtain ⟨b0, b1, b2, b3, b4, b5, rfl⟩ := six hd2.1
  have he' : e = .returned (.agg #[.slice b0.1 b0.2.1 b0.2.2, .slice b1.1 b1.2.1 b1.2.2, .slice b2.1 b2.2.1 b2.2.2, .slice b3.1 b3.2.1 b3.2.2, .slice b4.1 b4.2.1 b4.2.2, .slice b5.1 b5.2.1 b5.2.2]) := he
  subst he'
  have hb4 := hb3.trans (hb4'.mono hb3.size)
  have HD1b : Hid (DgAt w4 [a0, a1, a2, a3, a4, a5] (digitH g1)) := HD1.out.below hb4'
  have HD2b : Hid (DgAt w4 [b0, b1, b2, b3, b4, b5] (digitH g2)) := hd2.below hb4'
  clear he hd2 hb4' cR2 hb3 HD1
  have HW5 : Hid (Below w4.heap.size w4 ((w4.alloc (.cells #[.slice a0.1 a0.2.1 a0.2.2, .slice a1.1 a1.2.1 a1.2.2, .slice a2.1 a2.2.1 a2.2.2, .slice a3.1 a3.2.1 a3.2.2, .slice a4.1 a4.2.1 a4.2.2, .slice a5.1 a5.2.1 a5.2.2] 62)).alloc (.cells #[.slice b0.1 b0.2.1 b0.2.2, .slice b1.1 b1.2.1 b1.2.2, .slice b2.1 b2.2.1 b2.2.2, .slice b3.1 b3.2.1 b3.2.2, .slice b4.1 b4.2.1 b4.2.2, .slice b5.1 b5.2.1 b5.2.2] 62))) := ((Below.refl _ _).alloc (Nat.le_refl _) _).alloc (by simp) _
  have HSA : Hid (WrE ES ((w4.alloc (.cells #[.slice a0.1 a0.2.1 a0.2.2, .slice a1.1 a1.2.1 a1.2.2, .slice a2.1 a2.2.1 a2.2.2, .slice a3.1 a3.2.1 a3.2.2, .slice a4.1 a4.2.1 a4.2.2, .slice a5.1 a5.2.1 a5.2.2] 62)).alloc (.cells #[.slice b0.1 b0.2.1 b0.2.2, .slice b1.1 b1.2.1 b1.2.2, .slice b2.1 b2.2.1 b2.2.2, .slice b3.1 b3.2.1 b3.2.2, .slice b4.1 b4.2.1 b4.2.2, .slice b5.1 b5.2.1 b5.2.2] 62)) w4.heap.size 0 [a0, a1, a2, a3, a4, a5]) := (new_six w4 a0 a1 a2 a3 a4 a5 _).alloc' _
  have HSB : Hid (WrE ES ((w4.alloc (.cells #[.slice a0.1 a0.2.1 a0.2.2, .slice a1.1 a1.2.1 a1.2.2, .slice a2.1 a2.2.1 a2.2.2, .slice a3.1 a3.2.1 a3.2.2, .slice a4.1 a4.2.1 a4.2.2, .slice a5.1 a5.2.1 a5.2.2] 62)).alloc (.cells #[.slice b0.1 b0.2.1 b0.2.2, .slice b1.1 b1.2.1 b1.2.2, .slice b2.1 b2.2.1 b2.2.2, .slice b3.1 b3.2.1 b3.2.2, .slice b4.1 b4.2.1 b4.2.2, .slice b5.1 b5.2.1 b5.2.2] 62)) (w4.heap.size + 1) 0 [b0, b1, b2, b3, b4, b5]) := by
    show WrE _ _ _ _ _
    have h := new_six (w4.alloc (.cells #[.slice a0.1 a0.2.1 a0.2.2, .slice a1.1 a1.2.1 a1.2.2, .slice a2.1 a2.2.1 a2.2.2, .slice a3.1 a3.2.1 a3.2.2, .slice a4.1 a4.2.1 a4.2.2, .slice a5.1 a5.2.1 a5.2.2] 62)) b0 b1 b2 b3 b4 b5 62
    rw [show (w4.alloc (.cells #[.slice a0.1 a0.2.1 a0.2.2, .slice a1.1 a1.2.1 a1.2.2, .slice a2.1 a2.2.1 a2.2.2, .slice a3.1 a3.2.1 a3.2.2, .slice a4.1 a4.2.1 a4.2.2, .slice a5.1 a5.2.1 a5.2.2] 62)).heap.size = w4.heap.size + 1 by simp] at h
    exact h
  go_wp2_with fail
  generalize ((w4.alloc (.cells #[.slice a0.1 a0.2.1 a0.2.2, .slice a1.1 a1.2.1 a1.2.2, .slice a2.1 a2.2.1 a2.2.2, .slice a3.1 a3.2.1 a3.2.2, .slice a4.1 a4.2.1 a4.2.2, .slice a5.1 a5.2.1 a5.2.2] 62)).alloc (.cells #[.slice b0.1 b0.2.1 b0.2.2, .slice b1.1 b1.2.1 b1.2.2, .slice b2.1 b2.2.1 b2.2.2, .slice b3.1 b3.2.1 b3.2.2, .slice b4.1 b4.2.1 b4.2.2, .slice b5.1 b5.2.1 b5.2.2] 62)) = w5 at HW5 HSA HSB ⊢
  have hga : w4.heap.size < w5.heap.size := HSA.out.lt
  have hgb : w4.heap.size + 1 < w5.heap.size := HSB.out.lt
  obtain ⟨⟨xa0, xa1, xa2, xa3, xa4, xa5⟩, _⟩ := HSA.out.six
  obtain ⟨⟨xb0, xb1, xb2, xb3, xb4, xb5⟩, _⟩ := HSB.out.six
  have HB5 : Hid (Below w.heap.size w w5) := hb4.trans (HW5.out.mono hb4.size)
  have HD1c : Hid (DgAt w5 [a0, a1, a2, a3, a4, a5] (digitH g1)) := HD1b.out.below HW5.out
  have HD2c : Hid (DgAt w5 [b0, b1, b2, b3, b4, b5] (digitH g2)) := HD2b.out.below HW5.out
  clear HSA HSB HW5 hb4 HD1b HD2b
  generalize w4.heap.size + 1 = gb at *
  generalize w4.heap.size = ga at *
  have CS1 : Hid (∀ W, Calls Tryd.prog 35 #[.agg #[.slice a0.1 a0.2.1 a0.2.2, .slice a1.1 a1.2.1 a1.2.2, .slice a2.1 a2.2.1 a2.2.2, .slice a3.1 a3.2.1 a3.2.2, .slice a4.1 a4.2.1 a4.2.2, .slice a5.1 a5.2.1 a5.2.2]] W fun e w' => e = .returned (.int .i64 (m1 : Int)) ∧ Below W.heap.size W w') := by
    show ∀ W, _
    intro W
    have := dsize_any _ _ w5 W HD1c.out (fun j hj => dig_len HG1.out.isH j hj)
    rw [HG1.out.cat, HM1.out] at this
    exact this
  have CS2 : Hid (∀ W, Calls Tryd.prog 35 #[.agg #[.slice b0.1 b0.2.1 b0.2.2, .slice b1.1 b1.2.1 b1.2.2, .slice b2.1 b2.2.1 b2.2.2, .slice b3.1 b3.2.1 b3.2.2, .slice b4.1 b4.2.1 b4.2.2, .slice b5.1 b5.2.1 b5.2.2]] W fun e w' => e = .returned (.int .i64 (m2 : Int)) ∧ Below W.heap.size W w') := by
    show ∀ W, _
    intro W
    have := dsize_any _ _ w5 W HD2c.out (fun j hj => dig_len HG2.out.isH j hj)
    rw [HG2.out.cat, HM2.out] at this
    exact this
  have CM : Hid (∀ W, Below w5.heap.size w5 W → Calls Tryd.prog 37 #[.agg #[.slice a0.1 a0.2.1 a0.2.2, .slice a1.1 a1.2.1 a1.2.2, .slice a2.1 a2.2.1 a2.2.2, .slice a3.1 a3.2.1 a3.2.2, .slice a4.1 a4.2.1 a4.2.2, .slice a5.1 a5.2.1 a5.2.2], .agg #[.slice b0.1 b0.2.1 b0.2.2, .slice b1.1 b1.2.1 b1.2.2, .slice b2.1 b2.2.1 b2.2.2, .slice b3.1 b3.2.1 b3.2.2, .slice b4.1 b4.2.1 b4.2.2, .slice b5.1 b5.2.1 b5.2.2]] W fun e w' => ∃ d, e = .returned (agV d) ∧ DgAt w' d (outAt (digitH g1) (digitH g2)) ∧ Below W.heap.size W w') := by
    show ∀ W, _
    intro W hb
    have := melded_any [a0, a1, a2, a3, a4, a5] [b0, b1, b2, b3, b4, b5] (digitH g1) (digitH g2) W (HD1c.out.below hb) (HD2c.out.below hb) (dig_len HG1.out.isH) (dig_len HG2.out.isH) (car_len HG1.out.isH HG2.out.isH)
    exact this
  go_region_held3 (fun w' => w'.cell? ⟨ga, 0, none⟩ = some (.slice a0.1 a0.2.1 a0.2.2) ∧ w'.cell? ⟨ga, 1, none⟩ = some (.slice a1.1 a1.2.1 a1.2.2) ∧ w'.cell? ⟨ga, 2, none⟩ = some (.slice a2.1 a2.2.1 a2.2.2) ∧ w'.cell? ⟨ga, 3, none⟩ = some (.slice a3.1 a3.2.1 a3.2.2) ∧ w'.cell? ⟨ga, 4, none⟩ = some (.slice a4.1 a4.2.1 a4.2.2) ∧ w'.cell? ⟨ga, 5, none⟩ = some (.slice a5.1 a5.2.1 a5.2.2) ∧ w'.cell? ⟨gb, 0, none⟩ = some (.slice b0.1 b0.2.1 b0.2.2) ∧ w'.cell? ⟨gb, 1, none⟩ = some (.slice b1.1 b1.2.1 b1.2.2) ∧ w'.cell? ⟨gb, 2, none⟩ = some (.slice b2.1 b2.2.1 b2.2.2) ∧ w'.cell? ⟨gb, 3, none⟩ = some (.slice b3.1 b3.2.1 b3.2.2) ∧ w'.cell? ⟨gb, 4, none⟩ = some (.slice b4.1 b4.2.1 b4.2.2) ∧ w'.cell? ⟨gb, 5, none⟩ = some (.slice b5.1 b5.2.1 b5.2.2)) (first | go_keep | (exact ⟨ya0, ya1, ya2, ya3, ya4, ya5, yb0, yb1, yb2, yb3, yb4, yb5⟩) | (exact ⟨za0, za1, za2, za3, za4, za5, zb0, zb1, zb2, zb3, zb4, zb5⟩)) (first | (go_at_call_of 35 (Value.agg #[.slice a0.1 a0.2.1 a0.2.2, .slice a1.1 a1.2.1 a1.2.2, .slice a2.1 a2.2.1 a2.2.2, .slice a3.1 a3.2.1 a3.2.2, .slice a4.1 a4.2.1 a4.2.2, .slice a5.1 a5.2.1 a5.2.2]); refine (CS1.out _).mono ?_; rintro e w6 ⟨rfl, hb6'⟩; have hb6 : Below w5.heap.size w5 w6 := (below_drewN (Below.refl _ _) 1).trans hb6'; have hga6 := Nat.lt_of_lt_of_le hga hb6.size; have hgb6 := Nat.lt_of_lt_of_le hgb hb6.size; have ya0 := (hb6.cell (p := ⟨ga, 0, none⟩) hga).trans xa0; have ya1 := (hb6.cell (p := ⟨ga, 1, none⟩) hga).trans xa1; have ya2 := (hb6.cell (p := ⟨ga, 2, none⟩) hga).trans xa2; have ya3 := (hb6.cell (p := ⟨ga, 3, none⟩) hga).trans xa3; have ya4 := (hb6.cell (p := ⟨ga, 4, none⟩) hga).trans xa4; have ya5 := (hb6.cell (p := ⟨ga, 5, none⟩) hga).trans xa5; have yb0 := (hb6.cell (p := ⟨gb, 0, none⟩) hgb).trans xb0; have yb1 := (hb6.cell (p := ⟨gb, 1, none⟩) hgb).trans xb1; have yb2 := (hb6.cell (p := ⟨gb, 2, none⟩) hgb).trans xb2; have yb3 := (hb6.cell (p := ⟨gb, 3, none⟩) hgb).trans xb3; have yb4 := (hb6.cell (p := ⟨gb, 4, none⟩) hgb).trans xb4; have yb5 := (hb6.cell (p := ⟨gb, 5, none⟩) hgb).trans xb5; clear hb6') | (go_at_call_of 35 (Value.agg #[.slice b0.1 b0.2.1 b0.2.2, .slice b1.1 b1.2.1 b1.2.2, .slice b2.1 b2.2.1 b2.2.2, .slice b3.1 b3.2.1 b3.2.2, .slice b4.1 b4.2.1 b4.2.2, .slice b5.1 b5.2.1 b5.2.2]); refine (CS2.out _).mono ?_; rintro e w7 ⟨rfl, hb7'⟩; have hb7 : Below w5.heap.size w5 w7 := hb6.trans (hb7'.mono hb6.size); have za0 := (hb7.cell (p := ⟨ga, 0, none⟩) hga).trans xa0; have za1 := (hb7.cell (p := ⟨ga, 1, none⟩) hga).trans xa1; have za2 := (hb7.cell (p := ⟨ga, 2, none⟩) hga).trans xa2; have za3 := (hb7.cell (p := ⟨ga, 3, none⟩) hga).trans xa3; have za4 := (hb7.cell (p := ⟨ga, 4, none⟩) hga).trans xa4; have za5 := (hb7.cell (p := ⟨ga, 5, none⟩) hga).trans xa5; have zb0 := (hb7.cell (p := ⟨gb, 0, none⟩) hgb).trans xb0; have zb1 := (hb7.cell (p := ⟨gb, 1, none⟩) hgb).trans xb1; have zb2 := (hb7.cell (p := ⟨gb, 2, none⟩) hgb).trans xb2; have zb3 := (hb7.cell (p := ⟨gb, 3, none⟩) hgb).trans xb3; have zb4 := (hb7.cell (p := ⟨gb, 4, none⟩) hgb).trans xb4; have zb5 := (hb7.cell (p := ⟨gb, 5, none⟩) hgb).trans xb5; clear hb7'))
  all_goals
    go_wp2_with fail
    refine (CM.out w7 hb7).mono ?_
    rintro e w8 ⟨d3, he, hd3, hb8'⟩
    obtain ⟨e0, e1, e2, e3, e4, e5, rfl⟩ := six hd3.1
    have he' : e = .returned (.agg #[.slice e0.1 e0.2.1 e0.2.2, .slice e1.1 e1.2.1 e1.2.2, .slice e2.1 e2.2.1 e2.2.2, .slice e3.1 e3.2.1 e3.2.2, .slice e4.1 e4.2.1 e4.2.2, .slice e5.1 e5.2.1 e5.2.2]) := he
    subst he'
    have hb8 : Below w.heap.size w w8 := HB5.out.trans ((hb7.trans (hb8'.mono hb7.size)).mono HB5.out.size)
    have CW : Hid (Calls Tryd.prog 36 #[.agg #[.slice e0.1 e0.2.1 e0.2.2, .slice e1.1 e1.2.1 e1.2.2, .slice e2.1 e2.2.1 e2.2.2, .slice e3.1 e3.2.1 e3.2.2, .slice e4.1 e4.2.1 e4.2.2, .slice e5.1 e5.2.1 e5.2.2]] w8 fun e w' => ∃ u, e = .returned u ∧ NewH w8.heap.size w' u (putTo (outAt (digitH g1) (digitH g2)) 6) ∧ Below w8.heap.size w8 w') := by
      show Calls _ _ _ _ _
      have := written_any [e0, e1, e2, e3, e4, e5] (outAt (digitH g1) (digitH g2)) w8 hd3 (out_len HG1.out.isH HG2.out.isH)
      exact this
    clear he hd3 hb8' hb7 za0 za1 za2 za3 za4 za5 zb0 zb1 zb2 zb3 zb4 zb5
    go_wp2_with fail
    refine CW.out.mono ?_
    rintro e w9 ⟨u, rfl, hu, hb9'⟩
    have HU : Hid (NewH w8.heap.size w9 u (putTo (outAt (digitH g1) (digitH g2)) 6)) := hu
    clear hu
    go_wp2
    go_ret2
    refine ⟨_, rfl, ?_, hb8.trans (hb9'.mono hb8.size)⟩
    rw [meldH_six HG1.out HG2.out (by rw [HM1.out, HM2.out]; exact h3)]
    exact HU.out.weak hb8.size
/-- What is wrong with two heaps that are to be melded. -/
def meldE (h1 h2 : List (Int × List (Int × Int))) : Nat := if binoE h1 = 0 then (if binoE h2 = 0 then (if 60 < sizeZ h1 + sizeZ h2 then 4 else 0) else binoE h2) else binoE h1
/-- The bounds of what comes in. -/
def FitH (h : List (Int × List (Int × Int))) : Prop := h.length ≤ 9223372036854775807 ∧ ∀ t ∈ h, t.2.length ≤ 9223372036854775807
theorem OkH.fit {g : List TrL} (h : OkH g) : FitH (zH g) := by
  refine ⟨by rw [zH_len]; have := h.len_le; omega, fun t ht => ?_⟩
  unfold zH at ht
  obtain ⟨u, hu, rfl⟩ := List.mem_map.1 ht
  have h1 := mem_items_len hu
  have h2 := h.size
  show u.2.length ≤ _
  omega
theorem dMeld_bad (v1 v2 : Value) (h1 h2 : List (Int × List (Int × Int))) (k : Nat) (w : World) (H1 : HpAt w v1 h1) (H2 : HpAt w v2 h2) (f1 : FitH h1) (f2 : FitH h2) (hk : meldE h1 h2 = k) (h0 : k ≠ 0) :
    Calls Tryd.prog 12 #[v1, v2] w fun e w' => e = .returned (.tuple #[.slice none 0 0, .iface 56 (.int .i64 k)]) ∧ Below w.heap.size w w' := by
  obtain ⟨p1, c1, rfl⟩ := H1.form
  obtain ⟨p2, c2, rfl⟩ := H2.form
  have k1 := dcheck_any _ h1 w H1 f1.1 f1.2
  unfold meldE at hk
  by_cases e1 : binoE h1 = 0
  · rw [if_pos e1] at hk
    rw [e1, errV_zero] at k1
    have k2 := fun w1 (hb : Below w.heap.size w w1) => dcheck_any _ h2 w1 (H2.below hb) f2.1 f2.2
    by_cases e2 : binoE h2 = 0
    · rw [if_pos e2] at hk
      rw [e2, errV_zero] at k2
      by_cases h60 : 60 < sizeZ h1 + sizeZ h2
      · rw [if_pos h60] at hk
        subst hk
        obtain ⟨g1, rfl, G1⟩ := binoE_zero e1
        obtain ⟨g2, rfl, G2⟩ := binoE_zero e2
        rw [sizeZ_zH, sizeZ_zH] at h60
        exact dMeld_C p1 p2 _ c1 _ c2 _ _ g1 g2 w G1.size G2.size h60 rfl rfl G1 G2 H1 H2 k1 k2
      · rw [if_neg h60] at hk; exact absurd hk.symm h0
    · rw [if_neg e2] at hk
      rw [errV_pos e2, hk] at k2
      exact dMeld_B p1 p2 _ c1 _ c2 k w k1 k2
  · rw [if_neg e1] at hk
    rw [errV_pos e1, hk] at k1
    exact dMeld_A p1 p2 _ c1 _ c2 k w k1
theorem dMeld_good (v1 v2 : Value) (g1 g2 : List TrL) (w : World) (H1 : HpAt w v1 (zH g1)) (H2 : HpAt w v2 (zH g2)) (G1 : OkH g1) (G2 : OkH g2) (h60 : (itemsH g1).length + (itemsH g2).length ≤ 60) :
    Calls Tryd.prog 12 #[v1, v2] w fun e w' => ∃ u, e = .returned (.tuple #[u, .nilIface]) ∧ NewH w.heap.size w' u (meldH g1 g2) ∧ Below w.heap.size w w' := by
  obtain ⟨p1, c1, rfl⟩ := H1.form
  obtain ⟨p2, c2, rfl⟩ := H2.form
  have k1 := dcheck_any _ _ w H1 G1.fit.1 G1.fit.2
  rw [binoE_ok G1, errV_zero] at k1
  have k2 := fun w1 (hb : Below w.heap.size w w1) => dcheck_any _ _ w1 (H2.below hb) G2.fit.1 G2.fit.2
  rw [binoE_ok G2, errV_zero] at k2
  exact dMeld_D p1 p2 _ c1 _ c2 _ _ g1 g2 w G1.size G2.size h60 rfl rfl G1 G2 H1 H2 k1 k2

/-- The heap of an item alone. -/
abbrev aloneH (x : Int × Int) : List TrL := [(0, [x])]
abbrev aloneW (w : World) (x0 x1 : Int) : World := ((w.alloc (.cells #[.int .i64 x0, .int .i64 x1] 24)).alloc (.cells #[.int .i64 x0, .int .i64 x1] 24)).alloc (.cells #[.int .i64 0, .slice (some ⟨w.heap.size + 1, 0, none⟩) 1 1] 37)
theorem aloneB (w : World) (x0 x1 : Int) : Below w.heap.size w (aloneW w x0 x1) := (((Below.refl _ _).alloc (Nat.le_refl _) _).alloc (by simp) _).alloc (by simp; omega) _
theorem alone_at (w : World) (x0 x1 : Int) : HpAt (aloneW w x0 x1) (.slice (some ⟨w.heap.size + 1 + 1, 0, none⟩) 1 1) (zH (aloneH (x0, x1))) := by
  have hsz : ((w.alloc (.cells #[.int .i64 x0, .int .i64 x1] 24)).alloc (.cells #[.int .i64 x0, .int .i64 x1] 24)).heap.size = w.heap.size + 1 + 1 := by simp
  have key : ∀ (o : Nat) (u : Value), (#[.int .i64 x0, .int .i64 x1] : Array Value)[o]? = some u → (aloneW w x0 x1).cell? ⟨w.heap.size + 1, o, none⟩ = some u := fun o u hu => by
    have h : ((w.alloc (.cells #[.int .i64 x0, .int .i64 x1] 24)).alloc (.cells #[.int .i64 x0, .int .i64 x1] 24)).cell? ⟨(w.alloc (.cells #[.int .i64 x0, .int .i64 x1] 24)).heap.size, o, none⟩ = some u := by
      match o, hu with
      | 0, hu => cases hu; simp
      | 1, hu => cases hu; simp
      | o + 2, hu => simp at hu
    rw [show (w.alloc (.cells #[.int .i64 x0, .int .i64 x1] 24)).heap.size = w.heap.size + 1 by simp] at h
    exact (((Below.refl _ _).alloc (Nat.le_refl _) _).cell (p := ⟨w.heap.size + 1, o, none⟩) (by rw [hsz]; exact Nat.lt_succ_self _)).trans h
  have q0 := key 0 _ rfl
  have q1 := key 1 _ rfl
  refine ⟨[(0, some ⟨w.heap.size + 1, 0, none⟩, 1, 1)], SlE.of_rd ⟨by simp, fun j v hv => ?_⟩ rfl (Nat.le_refl _), rfl, fun i r l e => ?_⟩
  · rw [El.flat_one] at hv
    have := new_tree ((w.alloc (.cells #[.int .i64 x0, .int .i64 x1] 24)).alloc (.cells #[.int .i64 x0, .int .i64 x1] 24)) (w.heap.size + 1 + 1) hsz.symm 0 (some ⟨w.heap.size + 1, 0, none⟩) 1 1 j v hv
    rw [show ((⟨w.heap.size + 1 + 1, 0, none⟩ : Addr).add j) = ⟨w.heap.size + 1 + 1, 0 + j, none⟩ by unfold Addr.add; split <;> simp_all] at this
    exact this
  · match i, e with
    | 0, e =>
      cases e
      refine ⟨_, rfl, _, 1, rfl, Nat.le_refl _, Or.inr ⟨w.heap.size + 1, 0, rfl, by simp, fun i hi => ?_⟩⟩
      have h0 : i = 0 := by simp at hi; exact hi
      subst h0
      exact ⟨q0, q1⟩
    | i + 1, e => simp [zH] at e
theorem alone_ok {x : Int × Int} (h : outB x = false) : OkH (aloneH x) :=
  ⟨IsH.one (IsT.one x), fun t ht => by rw [List.mem_singleton.1 ht]; exact Nat.zero_le _, fun y hy => by simp [itemsH] at hy; rw [hy]; exact h, by simp [itemsH]⟩
theorem alone_fit (x : Int × Int) : FitH (zH (aloneH x)) := ⟨by simp [zH], fun t ht => by simp [zH] at ht; rw [ht]; simp⟩
theorem alone_bad {x : Int × Int} (h : outB x = true) : binoE (zH (aloneH x)) = 1 := by
  have h0 : rankE (-1) (zH (aloneH x)) = 0 := by simp [zH, rankE]
  exact outE_bad (i := 0) (r := 0) (l := [x]) h0 rfl (by unfold anyOut; simp [h])
set_option maxHeartbeats 4000000 in
theorem dPush_A (p : Option Addr) (n cap k : Nat) (x0 x1 : Int) (w : World)
    (C : Hid (Calls Tryd.prog 12 #[.slice p n cap, .slice (some ⟨w.heap.size + 1 + 1, 0, none⟩) 1 1] (((w.alloc (.cells #[.int .i64 x0, .int .i64 x1] 24)).alloc (.cells #[.int .i64 x0, .int .i64 x1] 24)).alloc (.cells #[.int .i64 0, .slice (some ⟨w.heap.size + 1, 0, none⟩) 1 1] 37)) fun e w' => e = .returned (.tuple #[.slice none 0 0, .iface 56 (.int .i64 k)]) ∧ Below w.heap.size w w')) :
    Calls Tryd.prog 15 #[.slice p n cap, .agg #[.int .i64 x0, .int .i64 x1]] w fun e w' => e = .returned (.tuple #[.slice none 0 0, .iface 56 (.int .i64 k)]) ∧ Below w.heap.size w w' := by
  go_enter Tryd.func15, Tryd.ntmps15
  go_wp2_with fail
  refine C.out.mono ?_
  rintro e w2 ⟨rfl, hb⟩
  go_wp2
  go_ret2
  exact ⟨rfl, hb⟩
set_option maxHeartbeats 4000000 in
theorem dPush_B (p : Option Addr) (n cap : Nat) (x0 x1 : Int) (w : World) (g : List TrL)
    (C : Hid (Calls Tryd.prog 12 #[.slice p n cap, .slice (some ⟨w.heap.size + 1 + 1, 0, none⟩) 1 1] (((w.alloc (.cells #[.int .i64 x0, .int .i64 x1] 24)).alloc (.cells #[.int .i64 x0, .int .i64 x1] 24)).alloc (.cells #[.int .i64 0, .slice (some ⟨w.heap.size + 1, 0, none⟩) 1 1] 37)) fun e w' => ∃ u, e = .returned (.tuple #[u, .nilIface]) ∧ NewH w.heap.size w' u g ∧ Below w.heap.size w w')) :
    Calls Tryd.prog 15 #[.slice p n cap, .agg #[.int .i64 x0, .int .i64 x1]] w fun e w' => ∃ u, e = .returned (.tuple #[u, .nilIface]) ∧ NewH w.heap.size w' u g ∧ Below w.heap.size w w' := by
  go_enter Tryd.func15, Tryd.ntmps15
  go_wp2_with fail
  refine C.out.mono ?_
  rintro e w2 ⟨u, rfl, hu, hb⟩
  have HU : Hid (NewH w.heap.size w2 u g) := hu
  clear hu
  go_wp2
  go_ret2
  exact ⟨_, rfl, HU.out, hb⟩
theorem dPush_bad (v : Value) (x0 x1 : Int) (h : List (Int × List (Int × Int))) (k : Nat) (w : World) (H : HpAt w v h) (f : FitH h) (hk : meldE h (zH (aloneH (x0, x1))) = k) (h0 : k ≠ 0) :
    Calls Tryd.prog 15 #[v, .agg #[.int .i64 x0, .int .i64 x1]] w fun e w' => e = .returned (.tuple #[.slice none 0 0, .iface 56 (.int .i64 k)]) ∧ Below w.heap.size w w' := by
  obtain ⟨p, cap, rfl⟩ := H.form
  refine dPush_A p _ cap k x0 x1 w ?_
  have hb := aloneB w x0 x1
  exact (dMeld_bad _ _ h _ k _ (H.below hb) (alone_at w x0 x1) f (alone_fit _) hk h0).mono fun e w' ⟨a, b⟩ => ⟨a, hb.trans (b.mono hb.size)⟩
theorem dPush_good (v : Value) (x0 x1 : Int) (g : List TrL) (w : World) (H : HpAt w v (zH g)) (G : OkH g) (ho : outB (x0, x1) = false) (h60 : (itemsH g).length < 60) :
    Calls Tryd.prog 15 #[v, .agg #[.int .i64 x0, .int .i64 x1]] w fun e w' => ∃ u, e = .returned (.tuple #[u, .nilIface]) ∧ NewH w.heap.size w' u (meldH g (aloneH (x0, x1))) ∧ Below w.heap.size w w' := by
  obtain ⟨p, cap, rfl⟩ := H.form
  refine dPush_B p _ cap x0 x1 w _ ?_
  have hb := aloneB w x0 x1
  exact (dMeld_good _ _ g (aloneH (x0, x1)) _ (H.below hb) (alone_at w x0 x1) G (alone_ok ho) (by simp [itemsH] at h60 ⊢; omega)).mono fun e w' ⟨u, a, b, c⟩ => ⟨u, a, b.weak hb.size, hb.trans (c.mono hb.size)⟩
#print axioms dPush_bad
#print axioms dPush_good
end Go.Proofs.YtmkjalpgeljnkaaDoor
