/-
  The law HuffFull, walked: no room is left; who weighs more is no longer.
-/
import Derived.Test.YtimlgdedgjpkdaaLawHuX
namespace Go.Proofs.Ytimlgdedgjpkdaa
open Go.RowKit Go.Sort Go.Proofs

theorem lengths_err {w : World} {v : Value} {l : List Int} (h : SlE EZ w v l) (hbig : l.length ≤ 9223372036854775807) (h0 : wrongC l 1000 ≠ 0) :
    ∃ k : Nat, Calls Try.prog 8 #[v] w fun e w' => e = .returned (.tuple #[.slice none 0 0, .iface 37 (.int .i64 k)]) ∧ w' = w := ⟨_, lengths_bad h hbig h0⟩
/-- The lengths of weights: where they stand. -/
theorem lengths_sl {w : World} {v : Value} {l : List Int} (h : SlE EZ w v l) (h0 : wrongC l 1000 = 0) :
    Calls Try.prog 8 #[v] w fun e w' => ∃ g c, e = .returned (.tuple #[.slice (some ⟨g, 0, none⟩) l.length c, .nilIface]) ∧ SlE EZ w' (.slice (some ⟨g, 0, none⟩) l.length c) (lensU (natL l)) ∧ RdE EZ w' g 0 (lensU (natL l)) ∧ Below w.heap.size w w' :=
  (lengths_ok h h0).mono fun e w' ⟨g, c, e1, hc, hr, _, hb⟩ => ⟨g, c, e1, SlE.of_rd hr (by rw [lensU_len, natL_len]) hc, hr, hb⟩
theorem fits_lens {w : World} {v : Value} {l : List Int} (h : SlE EZ w v (lensU (natL l))) (h0 : wrongC l 1000 = 0) :
    Calls Try.prog 10 #[v] w fun e w' => e = .returned (.tuple #[.bool true, .bool true, .nilIface]) ∧ w' = w := by
  obtain ⟨hp, h40, _⟩ := wrongC_zero h0
  have := fits_ok h (lensU_ok (by rw [natL_len]; exact hp) (by rw [natL_len]; exact h40))
  rw [lensU_full hp h40] at this
  simpa using this
set_option maxHeartbeats 16000000 in
set_option maxRecDepth 20000 in
theorem huffFull_bad {w : World} {p : Option Addr} {n cap : Nat} {l : List Int} (h : SlE EZ w (.slice p n cap) l) (hbig : l.length ≤ 9223372036854775807) (h0 : wrongC l 1000 ≠ 0) :
    Calls Try.prog 4 #[.slice p n cap] w fun e w' => e = .returned (.bool true) ∧ Below w.heap.size w w' := by
  have C0 := hidp (huffFact_any w)
  have HX := hidp h
  have H0 := hidp h0
  clear h h0
  go_enter Try.func4, Try.ntmps4
  go_wp2_with fail
  refine C0.out.mono ?_
  rintro e w1 ⟨rfl, hb1⟩
  obtain ⟨k, c1⟩ := lengths_err (HX.out.below hb1) hbig H0.out
  have HC1 := hidp c1
  have HB1 := hidp hb1
  clear c1 hb1 C0
  go_wp2_with fail
  refine HC1.out.mono ?_
  rintro e w2 ⟨rfl, rfl⟩
  go_wp2
  go_ret
  exact ⟨rfl, HB1.out⟩
set_option maxHeartbeats 16000000 in
set_option maxRecDepth 20000 in
theorem huffFull_ok {w : World} {p : Option Addr} {n cap : Nat} {l : List Int} (h : SlE EZ w (.slice p n cap) l) (h0 : wrongC l 1000 = 0) :
    Calls Try.prog 4 #[.slice p n cap] w fun e w' => e = .returned (.bool true) ∧ Below w.heap.size w w' := by
  have C0 := hidp (huffFact_any w)
  obtain ⟨hp, h40, hrng⟩ := wrongC_zero h0
  have hn := h.len.1
  have HX := hidp h
  have H0 := hidp h0
  have HN := hidp hn
  have HRNG := hidp hrng
  have hn40 : n ≤ 40 := by omega
  have hn0 : 0 < n := by omega
  have HMONO : Hid (∀ (i j : Nat) (x y : Nat), l[i]? = some (x : Int) → l[j]? = some (y : Int) → y < x → lenU (natL l) i ≤ lenU (natL l) j) := fun i j x y hx hy hxy => by
    have hi := (List.getElem?_eq_some_iff.1 hx).1
    have hj := (List.getElem?_eq_some_iff.1 hy).1
    have hi' : i < (natL l).length := by rw [natL_len]; exact hi
    have hj' : j < (natL l).length := by rw [natL_len]; exact hj
    have ei : (natL l)[i] = x := by
      have : (natL l)[i]? = some x := by unfold natL; rw [List.getElem?_map, hx]; simp
      exact (List.getElem?_eq_some_iff.1 this).2
    have ej : (natL l)[j] = y := by
      have : (natL l)[j]? = some y := by unfold natL; rw [List.getElem?_map, hy]; simp
      exact (List.getElem?_eq_some_iff.1 this).2
    exact lensU_mono (by omega) (by rw [natL_len]; omega) hi' hj' (by rw [ei, ej]; exact hxy)
  clear h h0 hp h40 hrng hn
  go_enter Try.func4, Try.ntmps4
  go_wp2_with fail
  refine C0.out.mono ?_
  rintro e w1 ⟨rfl, hb1⟩
  have HC1 := hidp (lengths_sl (HX.out.below hb1) H0.out)
  rw [← HN.out] at HC1
  have HB1 := hidp hb1
  clear hb1 C0
  go_wp2_with fail
  refine HC1.out.mono ?_
  rintro e w2 ⟨g, c, rfl, hs2, hr2, hb2⟩
  have HC2 := hidp (fits_lens hs2 H0.out)
  have HR2 := hidp hr2
  have hb12 := HB1.out.trans (hb2.mono HB1.out.size)
  have HX2 := hidp (HX.out.below hb12)
  have HB2 := hidp hb12
  have hnn : ((n : Int) != (n : Int)) = false := by simp
  clear hs2 hr2 hb2 hb12 HC1 HB1
  go_wp2_with fail
  refine HC2.out.mono ?_
  rintro e w3 ⟨rfl, hw⟩
  subst hw
  go_wp2
  go_loopg [9] n (fun gi vi wr => ∃ i : Nat, vi = .int .i64 i ∧ i + gi = n ∧ Hid (∃ q, wr = w3.drewN q))
  case atStart => exact ⟨0, rfl, by omega, (show Hid _ from ⟨0, rfl⟩)⟩
  case round =>
    obtain ⟨i, rfl, hgi, HW⟩ := hrel
    by_cases hin : i < n
    · have hiz : (i : Int) < (n : Int) := by omega
      obtain ⟨W0, hW0⟩ : ∃ W0, W0 = wr := ⟨_, rfl⟩
      subst hW0
      go_wp2
      go_loopg [10] n (fun gj vj wr => ∃ j : Nat, vj = .int .i64 j ∧ j + gj = n ∧ Hid (∃ q, wr = w3.drewN q))
      case atStart => exact ⟨0, rfl, by omega, HW⟩
      case round =>
        obtain ⟨j, rfl, hgj, HV⟩ := hrel
        by_cases hjn : j < n
        · have hjz : (j : Int) < (n : Int) := by omega
          obtain ⟨x, hx⟩ : ∃ x, l[i]? = some x := ⟨_, List.getElem?_eq_getElem (by have := HN.out; omega)⟩
          obtain ⟨y, hy⟩ : ∃ y, l[j]? = some y := ⟨_, List.getElem?_eq_getElem (by have := HN.out; omega)⟩
          obtain ⟨x0, x1⟩ := HRNG.out x (List.mem_of_getElem? hx)
          obtain ⟨y0, y1⟩ := HRNG.out y (List.mem_of_getElem? hy)
          obtain ⟨a, rfl⟩ : ∃ a : Nat, x = a := ⟨x.toNat, by omega⟩
          obtain ⟨b, rfl⟩ : ∃ b : Nat, y = b := ⟨y.toNat, by omega⟩
          obtain ⟨blk, off, rfl, _, _, hrd⟩ := HX2.out.some (by omega)
          have ca : wr.cell? ⟨blk, off + i, none⟩ = some (.int .i64 a) := by obtain ⟨q, hq⟩ := HV.out; rw [hq]; exact hrd.int hx
          have cb : wr.cell? ⟨blk, off + j, none⟩ = some (.int .i64 b) := by obtain ⟨q, hq⟩ := HV.out; rw [hq]; exact hrd.int hy
          obtain ⟨s, hs⟩ : ∃ s, lenU (natL l) i = s := ⟨_, rfl⟩
          obtain ⟨t, ht⟩ : ∃ t, lenU (natL l) j = t := ⟨_, rfl⟩
          have cs : wr.cell? ⟨g, i, none⟩ = some (.int .i64 s) := by
            obtain ⟨q, hq⟩ := HV.out
            rw [hq]
            have := HR2.out.int (lensU_get (ws := natL l) (s := i) (by rw [natL_len, ← HN.out]; exact hin))
            rw [Nat.zero_add, hs] at this
            exact this
          have ct : wr.cell? ⟨g, j, none⟩ = some (.int .i64 t) := by
            obtain ⟨q, hq⟩ := HV.out
            rw [hq]
            have := HR2.out.int (lensU_get (ws := natL l) (s := j) (by rw [natL_len, ← HN.out]; exact hjn))
            rw [Nat.zero_add, ht] at this
            exact this
          have hmono := HMONO.out i j a b hx hy
          rw [hs, ht] at hmono
          clear hx hy hrd hs ht
          by_cases hab : b < a
          · have hst := hmono hab
            have hd1 : decide (b < a) = true := decide_eq_true hab
            have hd2 : decide (t < s) = false := decide_eq_false (by omega)
            have hz1 : (b : Int) < (a : Int) := by omega
            have hz2 : ¬ (t : Int) < (s : Int) := by omega
            clear hmono
            go_wp2_with fail
            go_quiet (fail)
            go_wp2
            go_roundg (n - (j + 1))
            case measure => omega
            case rel => exact ⟨j + 1, by go_num, by omega, (show Hid _ from (by obtain ⟨q, hq⟩ := HV.out; exact ⟨_, by rw [hq, World.drewN_drewN]⟩))⟩
          · have hd1 : decide (b < a) = false := decide_eq_false hab
            have hz1 : ¬ (b : Int) < (a : Int) := by omega
            clear hmono
            go_wp2_with fail
            go_quiet (fail)
            go_wp2
            go_roundg (n - (j + 1))
            case measure => omega
            case rel => exact ⟨j + 1, by go_num, by omega, (show Hid _ from (by obtain ⟨q, hq⟩ := HV.out; exact ⟨_, by rw [hq, World.drewN_drewN]⟩))⟩
        · have hjz : ¬ (j : Int) < (n : Int) := by omega
          go_wp2
          go_roundg (n - (i + 1))
          case measure => omega
          case rel => exact ⟨i + 1, by go_num, by omega, HV⟩
    · have hiz : ¬ (i : Int) < (n : Int) := by omega
      go_wp2
      go_ret
      obtain ⟨q, hq⟩ := HW.out
      exact ⟨rfl, by rw [hq]; exact below_drewN HB2.out q⟩
theorem huffFull_any (v : Value) (xs : List Int) (w : World) (h : SlE EZ w v xs) (hbig : xs.length ≤ 9223372036854775807) :
    Calls Try.prog 4 #[v] w fun e w' => e = .returned (.bool true) ∧ Below w.heap.size w w' := by
  obtain ⟨p, cap, rfl, _⟩ := id h
  by_cases h0 : wrongC xs 1000 = 0
  · exact huffFull_ok h h0
  · exact huffFull_bad h hbig h0
#print axioms huffFull_any
end Go.Proofs.Ytimlgdedgjpkdaa
