/-
  The law HuffSays, walked: the lengths for any weights, what any cost, and whether any fit. (Written by wip/gen/husays.py.)
-/
import Derived.Test.YtimlgdedgjpkdaaDoorRefH4
import Derived.Test.YtimlgdedgjpkdaaDoorTold
namespace Go.Proofs.YtimlgdedgjpkdaaDoor
open Go.RowKit Go.Sort Go.Proofs

/-- The lengths that are told. -/
def wantL (l : List Int) : List Int := if wrongC l 1000 = 0 then lensU (natL l) else []
theorem wantL_ok {l : List Int} (h : wrongC l 1000 = 0) : wantL l = lensU (natL l) := by unfold wantL; rw [if_pos h]
theorem wantL_bad {l : List Int} (h : wrongC l 1000 ≠ 0) : wantL l = [] := by unfold wantL; rw [if_neg h]
theorem lengths_any {w : World} {v : Value} {l : List Int} (h : SlE EZ w v l) (hbig : l.length ≤ 9223372036854775807) :
    Calls Tryd.prog 15 #[v] w fun e w' => ∃ u, e = .returned (.tuple #[u, errV (wrongC l 1000)]) ∧ SlE EZ w' u (wantL l) ∧ Below w.heap.size w w' := by
  by_cases h0 : wrongC l 1000 = 0
  · rw [wantL_ok h0]
    refine (lengths_ok h h0).mono ?_
    rintro e w' ⟨g, c, rfl, hc, hr, _, hb⟩
    exact ⟨_, by rw [errC_nil h0], SlE.of_rd hr (by rw [lensU_len, natL_len]) hc, hb⟩
  · rw [wantL_bad h0]
    refine (lengths_bad h hbig h0).mono ?_
    rintro e w' ⟨rfl, rfl⟩
    exact ⟨_, by rw [errC_ne h0], SlE.empty _ _ _, Below.refl _ _⟩
theorem cost_any {W : World} {vw vl : Value} {w l : List Int} (hw : SlE EZ W vw w) (hl : SlE EZ W vl l) (hbig : w.length ≤ 9223372036854775807) (hbig2 : l.length ≤ 9223372036854775807) :
    Calls Tryd.prog 17 #[vw, vl] W fun e w' => e = .returned (.tuple #[.int .i64 (cstA w l : Nat), errV (wrongP w l)]) ∧ w' = W := by
  by_cases h0 : wrongP w l = 0
  · rw [cst_good h0, errC_nil h0]
    exact cost_ok hw hl h0
  · rw [cst_bad h0, errC_ne h0]
    exact cost_bad hw hl hbig hbig2 h0
theorem fits_any {w : World} {v : Value} {l : List Int} (h : SlE EZ w v l) (hbig : l.length ≤ 9223372036854775807) :
    Calls Tryd.prog 19 #[v] w fun e w' => e = .returned (.tuple #[.bool (fitA l), .bool (fitF l), errV (wrongC l 40)]) ∧ w' = w := by
  by_cases h0 : wrongC l 40 = 0
  · obtain ⟨e1, e2⟩ := fit_good h0
    rw [e1, e2, errC_nil h0]
    exact fits_ok h h0
  · obtain ⟨e1, e2⟩ := fit_bad h0
    rw [e1, e2, errC_ne h0]
    exact fits_bad h hbig h0
theorem err_same (k : Nat) (w : World) (hG : Glob w) : Calls Tryd.prog 8 #[errV k, .int .i64 k] w fun e w' => e = .returned (.bool true) ∧ Below w.heap.size w w' := by
  have := error_any k k w hG
  simpa using this
set_option maxHeartbeats 16000000 in
set_option maxRecDepth 20000 in
theorem huffSays_ok {w : World} {p p2 : Option Addr} {n cap n2 cap2 : Nat} {l l2 : List Int} (h : SlE EZ w (.slice p n cap) l) (h2 : SlE EZ w (.slice p2 n2 cap2) l2) (hbig : l.length ≤ 9223372036854775807) (hbig2 : l2.length ≤ 9223372036854775807) (hG : Glob w) (h0 : wrongC l 1000 = 0) :
    Calls Tryd.prog 4 #[.slice p n cap, .slice p2 n2 cap2] w fun e w' => e = .returned (.bool true) ∧ Below w.heap.size w w' := by
  have C0 := weights_any _ l w h hbig
  have HX := hidp h
  have HY := hidp h2
  have HGL := hidp hG
  have H0 := hidp h0
  have HBG := hidp hbig
  have HBG2 := hidp hbig2
  rw [h0] at C0
  have HC0 := hidp C0
  have HC1 := hidp (refLengths_any h h0)
  clear h h2 hG h0 C0 hbig hbig2
  go_enter Tryd.func4, Tryd.ntmps4
  go_wp2_with fail
  refine HC0.out.mono ?_
  rintro e w0 ⟨rfl, hw⟩
  subst hw
  go_wp2_with fail
  refine HC1.out.mono ?_
  rintro e w1 ⟨u1, rfl, hs1, hb1⟩
  have HS1 := hidp hs1
  have HB1 := hidp hb1
  clear hs1 hb1 HC0 HC1
  have C2 := lengths_any (HX.out.below HB1.out) HBG.out
  rw [wantL_ok H0.out, errC_nil H0.out] at C2
  have E0 : ∀ W, Glob W → Calls Tryd.prog 8 #[.nilIface, .int .i64 0] W fun e w' => e = .returned (.bool true) ∧ Below W.heap.size W w' := fun W hg => err_same 0 W hg
  have HC2 := hidp C2
  have HE0 := hidp E0
  clear C2 E0
  go_wp2_with fail
  refine HC2.out.mono ?_
  rintro e w2 ⟨u2, rfl, hs2, hb2⟩
  have hb12 := HB1.out.trans (hb2.mono HB1.out.size)
  have HG2 := hidp (HGL.out.below hb12)
  have HS1' := hidp (HS1.out.below hb2)
  have HS2 := hidp hs2
  have HB2 := hidp hb12
  clear hs2 hb2 hb12 HC2 HS1 HB1
  go_wp2_with (first | (go_at_call 8; refine (HE0.out _ HG2.out).mono ?_; rintro e w3 ⟨rfl, hb3⟩; have HB3 := hidp hb3; clear hb3) | (go_at_call 12; refine (sameI_any (HS2.out.below HB3.out) (HS1'.out.below HB3.out) (by rw [lensU_len, natL_len]; exact HBG.out)).mono ?_; rintro e w4 ⟨rfl, q4, rfl⟩; simp only [decide_true]))
  have hb4 := below_drewN (HB2.out.trans (HB3.out.mono HB2.out.size)) q4
  have HX4 := hidp (HX.out.below hb4)
  have HY4 := hidp (HY.out.below hb4)
  have HG4 := hidp (HGL.out.below hb4)
  have HB4 := hidp hb4
  clear hb4 HB3 HG2 HX HY HE0 HB2
  generalize w3.drewN q4 = w4 at HX4 HY4 HG4 HB4 ⊢
  have C5 := refCost_any HX4.out HY4.out HBG.out
  have C6 := fun q => cost_any (HX4.out.below (below_drewN (Below.refl _ w4) q)) (HY4.out.below (below_drewN (Below.refl _ w4) q)) HBG.out HBG2.out
  obtain ⟨zp, hzp⟩ : ∃ zp, wrongP l l2 = zp := ⟨_, rfl⟩
  obtain ⟨cs, hcs⟩ : ∃ cs, cstA l l2 = cs := ⟨_, rfl⟩
  have E1 := err_same zp
  obtain ⟨ep, hep⟩ : ∃ ep, errV zp = ep := ⟨_, rfl⟩
  rw [hzp, hcs] at C5
  simp only [hzp, hcs, hep] at C6
  rw [hep] at E1
  have hcc : ((cs : Int) == (cs : Int)) = true := by simp
  have HC5 := hidp C5
  have HC6 := hidp C6
  have HE1 := hidp E1
  clear C5 C6 E1 hzp hcs hep
  go_wp2_with fail
  refine HC5.out.mono ?_
  rintro e w5 ⟨rfl, q5, hw5⟩
  subst hw5
  go_wp2_with fail
  refine (HC6.out q5).mono ?_
  rintro e w6 ⟨rfl, hw6⟩
  subst hw6
  have HG5 := hidp (HG4.out.below (below_drewN (Below.refl _ w4) q5))
  go_wp2_with (go_at_call 8; refine (HE1.out _ HG5.out).mono ?_; rintro e w7 ⟨rfl, hb7⟩; have HB7 := hidp hb7; clear hb7)
  have hb7 := (below_drewN HB4.out q5).trans (HB7.out.mono (below_drewN HB4.out q5).size)
  have hk7 := (below_drewN (Below.refl _ w4) q5).trans HB7.out
  have hb47 : Below w4.heap.size w4 w7 := hk7
  have HY7 := hidp (HY4.out.below hb47)
  have HG7 := hidp (HG4.out.below hb47)
  have HBZ := hidp hb7
  clear hb7 hk7 hb47 HB7 HG5 HC5 HC6 HE1 HX4 HY4 HG4 HB4
  have C8 := refFits_any HY7.out HBG2.out
  have C9 := fits_any HY7.out HBG2.out
  obtain ⟨zf, hzf⟩ : ∃ zf, wrongC l2 40 = zf := ⟨_, rfl⟩
  have E2 := err_same zf
  obtain ⟨ef, hef⟩ : ∃ ef, errV zf = ef := ⟨_, rfl⟩
  rw [hzf] at C8
  rw [hzf, hef] at C9
  rw [hef] at E2
  obtain ⟨ba, hba⟩ : ∃ b, fitA l2 = b := ⟨_, rfl⟩
  obtain ⟨bf, hbf⟩ : ∃ b, fitF l2 = b := ⟨_, rfl⟩
  rw [hba, hbf] at C8 C9
  have HC8 := hidp C8
  have HC9 := hidp C9
  have HE2 := hidp E2
  have hbb : (ba == ba) = true := by simp
  have hbb2 : (bf == bf) = true := by simp
  clear C8 C9 E2 hzf hef hba hbf
  go_wp2_with fail
  refine HC8.out.mono ?_
  rintro e w8 ⟨rfl, hw8⟩
  subst hw8
  go_wp2_with fail
  refine HC9.out.mono ?_
  rintro e w9 ⟨rfl, hw9⟩
  subst hw9
  go_wp2_with (go_at_call 8; refine (HE2.out _ HG7.out).mono ?_; rintro e w10 ⟨rfl, hb10⟩; have HB10 := hidp hb10; clear hb10)
  go_ret
  exact ⟨by simp, HBZ.out.trans (HB10.out.mono HBZ.out.size)⟩
set_option maxHeartbeats 16000000 in
set_option maxRecDepth 20000 in
theorem huffSays_bad {w : World} {p p2 : Option Addr} {n cap n2 cap2 : Nat} {l l2 : List Int} (h : SlE EZ w (.slice p n cap) l) (h2 : SlE EZ w (.slice p2 n2 cap2) l2) (hbig : l.length ≤ 9223372036854775807) (hbig2 : l2.length ≤ 9223372036854775807) (hG : Glob w) (h0 : wrongC l 1000 ≠ 0) :
    Calls Tryd.prog 4 #[.slice p n cap, .slice p2 n2 cap2] w fun e w' => e = .returned (.bool true) ∧ Below w.heap.size w w' := by
  have C0 := weights_any _ l w h hbig
  have HX := hidp h
  have HY := hidp h2
  have HGL := hidp hG
  have H0 := hidp h0
  have HBG := hidp hbig
  have HBG2 := hidp hbig2
  obtain ⟨z, hz⟩ : ∃ z, wrongC l 1000 = z := ⟨_, rfl⟩
  have C2 := lengths_any h hbig
  rw [wantL_bad h0, hz] at C2
  rw [hz] at C0 h0
  have E0 := err_same z
  have hz1 : ((z : Int) == 0) = false := beq_eq_false_iff_ne.2 (by omega)
  obtain ⟨ev, hev⟩ : ∃ ev, errV z = ev := ⟨_, rfl⟩
  rw [hev] at C2 E0
  have HC0 := hidp C0
  have HC2 := hidp C2
  have HE0 := hidp E0
  clear h h2 hG h0 C0 C2 E0 hbig hbig2 hz hev H0
  go_enter Tryd.func4, Tryd.ntmps4
  go_wp2_with fail
  refine HC0.out.mono ?_
  rintro e w0 ⟨rfl, hw⟩
  subst hw
  go_wp2_with fail
  refine HC2.out.mono ?_
  rintro e w2 ⟨u2, rfl, hs2, hb2⟩
  have HG2 := hidp (HGL.out.below hb2)
  have HS2 := hidp hs2
  have HB2 := hidp hb2
  clear hs2 hb2 HC2 HC0
  go_wp2_with (first | (go_at_call 8; refine (HE0.out _ HG2.out).mono ?_; rintro e w3 ⟨rfl, hb3⟩; have HB3 := hidp hb3; clear hb3) | (go_at_call 12; refine (sameI_any (HS2.out.below HB3.out) (SlE.empty w3 none 0) (by simp)).mono ?_; rintro e w4 ⟨rfl, q4, rfl⟩; simp only [decide_true]))
  have hb4 := below_drewN (HB2.out.trans (HB3.out.mono HB2.out.size)) q4
  have HX4 := hidp (HX.out.below hb4)
  have HY4 := hidp (HY.out.below hb4)
  have HG4 := hidp (HGL.out.below hb4)
  have HB4 := hidp hb4
  clear hb4 HB3 HG2 HX HY HE0 HB2
  generalize w3.drewN q4 = w4 at HX4 HY4 HG4 HB4 ⊢
  have C5 := refCost_any HX4.out HY4.out HBG.out
  have C6 := fun q => cost_any (HX4.out.below (below_drewN (Below.refl _ w4) q)) (HY4.out.below (below_drewN (Below.refl _ w4) q)) HBG.out HBG2.out
  obtain ⟨zp, hzp⟩ : ∃ zp, wrongP l l2 = zp := ⟨_, rfl⟩
  obtain ⟨cs, hcs⟩ : ∃ cs, cstA l l2 = cs := ⟨_, rfl⟩
  have E1 := err_same zp
  obtain ⟨ep, hep⟩ : ∃ ep, errV zp = ep := ⟨_, rfl⟩
  rw [hzp, hcs] at C5
  simp only [hzp, hcs, hep] at C6
  rw [hep] at E1
  have hcc : ((cs : Int) == (cs : Int)) = true := by simp
  have HC5 := hidp C5
  have HC6 := hidp C6
  have HE1 := hidp E1
  clear C5 C6 E1 hzp hcs hep
  go_wp2_with fail
  refine HC5.out.mono ?_
  rintro e w5 ⟨rfl, q5, hw5⟩
  subst hw5
  go_wp2_with fail
  refine (HC6.out q5).mono ?_
  rintro e w6 ⟨rfl, hw6⟩
  subst hw6
  have HG5 := hidp (HG4.out.below (below_drewN (Below.refl _ w4) q5))
  go_wp2_with (go_at_call 8; refine (HE1.out _ HG5.out).mono ?_; rintro e w7 ⟨rfl, hb7⟩; have HB7 := hidp hb7; clear hb7)
  have hb7 := (below_drewN HB4.out q5).trans (HB7.out.mono (below_drewN HB4.out q5).size)
  have hk7 := (below_drewN (Below.refl _ w4) q5).trans HB7.out
  have hb47 : Below w4.heap.size w4 w7 := hk7
  have HY7 := hidp (HY4.out.below hb47)
  have HG7 := hidp (HG4.out.below hb47)
  have HBZ := hidp hb7
  clear hb7 hk7 hb47 HB7 HG5 HC5 HC6 HE1 HX4 HY4 HG4 HB4
  have C8 := refFits_any HY7.out HBG2.out
  have C9 := fits_any HY7.out HBG2.out
  obtain ⟨zf, hzf⟩ : ∃ zf, wrongC l2 40 = zf := ⟨_, rfl⟩
  have E2 := err_same zf
  obtain ⟨ef, hef⟩ : ∃ ef, errV zf = ef := ⟨_, rfl⟩
  rw [hzf] at C8
  rw [hzf, hef] at C9
  rw [hef] at E2
  obtain ⟨ba, hba⟩ : ∃ b, fitA l2 = b := ⟨_, rfl⟩
  obtain ⟨bf, hbf⟩ : ∃ b, fitF l2 = b := ⟨_, rfl⟩
  rw [hba, hbf] at C8 C9
  have HC8 := hidp C8
  have HC9 := hidp C9
  have HE2 := hidp E2
  have hbb : (ba == ba) = true := by simp
  have hbb2 : (bf == bf) = true := by simp
  clear C8 C9 E2 hzf hef hba hbf
  go_wp2_with fail
  refine HC8.out.mono ?_
  rintro e w8 ⟨rfl, hw8⟩
  subst hw8
  go_wp2_with fail
  refine HC9.out.mono ?_
  rintro e w9 ⟨rfl, hw9⟩
  subst hw9
  go_wp2_with (go_at_call 8; refine (HE2.out _ HG7.out).mono ?_; rintro e w10 ⟨rfl, hb10⟩; have HB10 := hidp hb10; clear hb10)
  go_ret
  exact ⟨by simp, HBZ.out.trans (HB10.out.mono HBZ.out.size)⟩
theorem huffSays_any (v v2 : Value) (xs ys : List Int) (w : World) (h : SlE EZ w v xs) (h2 : SlE EZ w v2 ys) (hbig : xs.length ≤ 9223372036854775807) (hbig2 : ys.length ≤ 9223372036854775807) (hG : Glob w) :
    Calls Tryd.prog 4 #[v, v2] w fun e w' => e = .returned (.bool true) ∧ Below w.heap.size w w' := by
  obtain ⟨p, cap, rfl, _⟩ := id h
  obtain ⟨p2, cap2, rfl, _⟩ := id h2
  by_cases h0 : wrongC xs 1000 = 0
  · exact huffSays_ok h h2 hbig hbig2 hG h0
  · exact huffSays_bad h h2 hbig hbig2 hG h0
#print axioms huffSays_any
end Go.Proofs.YtimlgdedgjpkdaaDoor
