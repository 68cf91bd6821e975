/-
  The law HuffBest, walked: no code costs less.
-/
import Derived.Test.YtimlgdedgjpkdaaLawHuFull
namespace Go.Proofs.Ytimlgdedgjpkdaa
open Go.RowKit Go.Sort Go.Proofs

theorem fits_some {w : World} {v : Value} {l : List Int} (h : SlE EZ w v l) (hbig : l.length ≤ 9223372036854775807) :
    ∃ (a b : Bool) (u : Value), Calls Try.prog 10 #[v] w fun e w' => e = .returned (.tuple #[.bool a, .bool b, u]) ∧ w' = w := by
  by_cases h0 : wrongC l 40 = 0
  · exact ⟨_, _, _, fits_ok h h0⟩
  · exact ⟨_, _, _, fits_bad h hbig h0⟩
theorem cost_err {W : World} {vw vl : Value} {w l : List Int} (hw : SlE EZ W vw w) (hl : SlE EZ W vl l) (hbig : w.length ≤ 9223372036854775807) (hbig2 : l.length ≤ 9223372036854775807) (h0 : wrongP w l ≠ 0) :
    ∃ k : Nat, Calls Try.prog 9 #[vw, vl] W fun e w' => e = .returned (.tuple #[.int .i64 0, .iface 37 (.int .i64 k)]) ∧ w' = W := ⟨_, cost_bad hw hl hbig hbig2 h0⟩
theorem wrongP_lens {l : List Int} (h0 : wrongC l 1000 = 0) : wrongP l (lensU (natL l)) = 0 := by
  obtain ⟨hp, h40, _⟩ := wrongC_zero h0
  exact wrongP_of h0 (by rw [lensU_len, natL_len]) (lensU_ok (by rw [natL_len]; exact hp) (by rw [natL_len]; exact h40))
/-- What the lengths for weights cost. -/
theorem cost_lens {W : World} {vw vl : Value} {w : List Int} (hw : SlE EZ W vw w) (hl : SlE EZ W vl (lensU (natL w))) (h0 : wrongC w 1000 = 0) :
    Calls Try.prog 9 #[vw, vl] W fun e w' => e = .returned (.tuple #[.int .i64 (costW (wl (natL w)) : Nat), .nilIface]) ∧ w' = W := by
  have := cost_ok hw hl (wrongP_lens h0)
  rw [zip_wl] at this
  exact this
set_option maxHeartbeats 16000000 in
set_option maxRecDepth 20000 in
theorem huffBest_bad {w : World} {p p2 : Option Addr} {n cap n2 cap2 : Nat} {l : List Int} (h : SlE EZ w (.slice p n cap) l) (hbig : l.length ≤ 9223372036854775807) (h0 : wrongC l 1000 ≠ 0) :
    Calls Try.prog 3 #[.slice p n cap, .slice p2 n2 cap2] w fun e w' => e = .returned (.bool true) ∧ Below w.heap.size w w' := by
  have C0 := hidp (huffFact_any w)
  have HX := hidp h
  have H0 := hidp h0
  clear h h0
  go_enter Try.func3, Try.ntmps3
  go_wp2_with fail
  refine C0.out.mono ?_
  rintro e w1 ⟨rfl, hb1⟩
  obtain ⟨k, c1⟩ := lengths_err (HX.out.below hb1) hbig H0.out
  have HC1 := hidp c1
  have HB1 := hidp hb1
  clear c1 hb1 C0
  go_wp2_with fail
  refine HC1.out.mono ?_
  rintro e w2 ⟨rfl, rfl⟩
  go_wp2
  go_ret
  exact ⟨rfl, HB1.out⟩
set_option maxHeartbeats 16000000 in
set_option maxRecDepth 20000 in
theorem huffBest_ok {w : World} {p p2 : Option Addr} {n cap n2 cap2 : Nat} {l l2 : List Int} (h : SlE EZ w (.slice p n cap) l) (h2 : SlE EZ w (.slice p2 n2 cap2) l2) (hbig2 : l2.length ≤ 9223372036854775807) (h0 : wrongC l 1000 = 0) :
    Calls Try.prog 3 #[.slice p n cap, .slice p2 n2 cap2] w fun e w' => e = .returned (.bool true) ∧ Below w.heap.size w w' := by
  have C0 := hidp (huffFact_any w)
  obtain ⟨hp, h40, hrng⟩ := wrongC_zero h0
  have hn := h.len.1
  have HX := hidp h
  have HY := hidp h2
  have H0 := hidp h0
  have HN := hidp hn
  have HL40 := hidp h40
  clear h h2 h0 hp h40 hrng hn
  go_enter Try.func3, Try.ntmps3
  go_wp2_with fail
  refine C0.out.mono ?_
  rintro e w1 ⟨rfl, hb1⟩
  have HC1 := hidp (lengths_sl (HX.out.below hb1) H0.out)
  rw [← HN.out] at HC1
  have HB1 := hidp hb1
  clear hb1 C0
  go_wp2_with fail
  refine HC1.out.mono ?_
  rintro e w2 ⟨g, c, rfl, hs2, _, hb2⟩
  have hb12 := HB1.out.trans (hb2.mono HB1.out.size)
  have HC2 := hidp (cost_lens (HX.out.below hb12) hs2 H0.out)
  have HC3 := hidp (fits_lens hs2 H0.out)
  have HX2 := hidp (HX.out.below hb12)
  have HY2 := hidp (HY.out.below hb12)
  have HB2 := hidp hb12
  clear hs2 hb2 hb12 HC1 HB1 HX HY
  obtain ⟨N, hN⟩ : ∃ N, costW (wl (natL l)) = N := ⟨_, rfl⟩
  rw [hN] at HC2
  have HNN := hidp hN
  clear hN
  go_wp2_with fail
  refine HC2.out.mono ?_
  rintro e w3 ⟨rfl, hw3⟩
  subst hw3
  go_wp2_with fail
  refine HC3.out.mono ?_
  rintro e w4 ⟨rfl, hw4⟩
  subst hw4
  by_cases hP : wrongP l l2 = 0
  · have c4 := cost_ok HX2.out HY2.out hP
    have hlc := (wrongP_zero hP).2.2
    have c5 := fits_ok HY2.out hlc
    obtain ⟨K, hK⟩ : ∃ K, costW (zipI l l2) = K := ⟨_, rfl⟩
    have hbest := fun hr => lensU_best H0.out hP hr (List.Perm.refl _)
    rw [HNN.out, hK] at hbest
    rw [hK] at c4
    by_cases hR : roomI l2 ≤ 1099511627776
    · have hNK := hbest hR
      have hz : (N : Int) ≤ (K : Int) := by omega
      rw [decide_eq_true hR] at c5
      generalize decide (roomI l2 = 1099511627776) = b at c5
      have HC4 := hidp c4
      have HC5 := hidp c5
      clear c4 c5 hbest hK hR hlc hP HX2 HY2 HC2 HC3
      go_wp2_with fail
      refine HC4.out.mono ?_
      rintro e w5 ⟨rfl, hw5⟩
      subst hw5
      go_wp2_with fail
      refine HC5.out.mono ?_
      rintro e w6 ⟨rfl, rfl⟩
      go_wp2
      go_ret
      exact ⟨by simp, HB2.out⟩
    · rw [decide_eq_false hR] at c5
      generalize decide (roomI l2 = 1099511627776) = b at c5
      have HC4 := hidp c4
      have HC5 := hidp c5
      clear c4 c5 hbest hK hR hlc hP HX2 HY2 HC2 HC3
      go_wp2_with fail
      refine HC4.out.mono ?_
      rintro e w5 ⟨rfl, hw5⟩
      subst hw5
      go_wp2_with fail
      refine HC5.out.mono ?_
      rintro e w6 ⟨rfl, rfl⟩
      go_wp2
      go_ret
      exact ⟨rfl, HB2.out⟩
  · obtain ⟨k, c4⟩ := cost_err HX2.out HY2.out (by have := HL40.out; omega) hbig2 hP
    obtain ⟨a, b, u, c5⟩ := fits_some HY2.out hbig2
    have HC4 := hidp c4
    have HC5 := hidp c5
    clear c4 c5 hP HX2 HY2 HC2 HC3
    go_wp2_with fail
    refine HC4.out.mono ?_
    rintro e w5 ⟨rfl, hw5⟩
    subst hw5
    go_wp2_with fail
    refine HC5.out.mono ?_
    rintro e w6 ⟨rfl, rfl⟩
    go_wp2
    go_ret
    exact ⟨rfl, HB2.out⟩
theorem huffBest_any (v v2 : Value) (xs ys : List Int) (w : World) (h : SlE EZ w v xs) (h2 : SlE EZ w v2 ys) (hbig : xs.length ≤ 9223372036854775807) (hbig2 : ys.length ≤ 9223372036854775807) :
    Calls Try.prog 3 #[v, v2] w fun e w' => e = .returned (.bool true) ∧ Below w.heap.size w w' := by
  obtain ⟨p, cap, rfl, _⟩ := id h
  obtain ⟨p2, cap2, rfl, _⟩ := id h2
  by_cases h0 : wrongC xs 1000 = 0
  · exact huffBest_ok h h2 hbig2 h0
  · exact huffBest_bad h hbig h0
#print axioms huffBest_any
end Go.Proofs.Ytimlgdedgjpkdaa
