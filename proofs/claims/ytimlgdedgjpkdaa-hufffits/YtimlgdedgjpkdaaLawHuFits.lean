/-
  The law HuffFits, walked: room is what is not taken.
-/
import Derived.Test.YtimlgdedgjpkdaaHuC
import Derived.Test.YtimlgdedgjpkdaaSameZ
import Derived.Test.YtimlgdedgjpkdaaAppE
namespace Go.Proofs.Ytimlgdedgjpkdaa
open Go.RowKit Go.Sort Go.Proofs

theorem fits_err {w : World} {v : Value} {l : List Int} (h : SlE EZ w v l) (hbig : l.length ≤ 9223372036854775807) (h0 : wrongC l 40 ≠ 0) :
    ∃ k : Nat, Calls Try.prog 10 #[v] w fun e w' => e = .returned (.tuple #[.bool false, .bool false, .iface 37 (.int .i64 k)]) ∧ w' = w := ⟨_, fits_bad h hbig h0⟩
/-- One more of a length that none is greater than. -/
theorem room_more {l : List Int} {m : Nat} (hm : m ≤ 40) (hl : ∀ x ∈ l, x.toNat ≤ m) (h : roomI l < 1099511627776) : roomI (l ++ [(m : Int)]) ≤ 1099511627776 := by
  have hd : 2 ^ (40 - m) ∣ roomI l := room_dvd (M := 40) (m := m) _ fun x hx => by
    obtain ⟨y, hy, rfl⟩ := List.mem_map.1 hx
    exact hl y hy
  have he : 2 ^ (40 - m) ∣ 2 ^ 40 := Nat.pow_dvd_pow 2 (by omega)
  rw [roomI_append, roomI_one, Int.toNat_natCast]
  obtain ⟨u, hu⟩ : ∃ u, 2 ^ (40 - m) = u := ⟨_, rfl⟩
  have e40 : (2 : Nat) ^ 40 = 1099511627776 := rfl
  rw [hu] at hd he ⊢
  rw [e40] at he
  obtain ⟨a, ha⟩ := hd
  obtain ⟨b, hb⟩ := he
  rw [ha] at h ⊢
  rw [hb] at h ⊢
  have h2 : a < b := Nat.lt_of_mul_lt_mul_left h
  have h3 : u * (a + 1) ≤ u * b := Nat.mul_le_mul_left _ h2
  rw [Nat.mul_add, Nat.mul_one] at h3
  exact h3
theorem room_full {l : List Int} (n : Int) (h : 1099511627776 ≤ roomI l) : 1099511627776 < roomI (l ++ [n]) := by
  rw [roomI_append, roomI_one]
  have := Nat.two_pow_pos (40 - n.toNat)
  omega
set_option maxHeartbeats 16000000 in
set_option maxRecDepth 20000 in
theorem huffFits_bad {w : World} {p : Option Addr} {n cap : Nat} {l : List Int} {m : Int} (h : SlE EZ w (.slice p n cap) l) (hbig : l.length ≤ 9223372036854775807) (h0 : wrongC l 40 ≠ 0) :
    Calls Try.prog 6 #[.slice p n cap, .int .i64 m] w fun e w' => e = .returned (.bool true) ∧ Below w.heap.size w w' := by
  have C0 := hidp (fits_ok (new_nums w [1, 1] 3 2 2 rfl (Nat.le_refl _)) (by decide))
  rw [show roomI [1, 1] = 1099511627776 by decide] at C0
  obtain ⟨k, c1⟩ := (fits_err (h.below ((Below.refl _ w).alloc (Nat.le_refl _) (.cells #[.int .i64 1, .int .i64 1] 3))) hbig h0)
  have C1 := hidp c1
  clear h h0 c1
  go_enter Try.func6, Try.ntmps6
  go_wp2_with fail
  refine C0.out.mono ?_
  rintro e w1 ⟨rfl, rfl⟩
  simp only [Nat.le_refl, decide_true]
  go_wp2_with fail
  refine C1.out.mono ?_
  rintro e w2 ⟨rfl, rfl⟩
  go_wp2
  go_ret
  exact ⟨rfl, (Below.refl _ w).alloc (Nat.le_refl _) _⟩
set_option maxHeartbeats 16000000 in
set_option maxRecDepth 20000 in
theorem huffFits_ok {w : World} {p : Option Addr} {n cap : Nat} {l : List Int} {m : Int} (h : SlE EZ w (.slice p n cap) l) (h0 : wrongC l 40 = 0) :
    Calls Try.prog 6 #[.slice p n cap, .int .i64 m] w fun e w' => e = .returned (.bool true) ∧ Below w.heap.size w w' := by
  have C0 := hidp (fits_ok (new_nums w [1, 1] 3 2 2 rfl (Nat.le_refl _)) (by decide))
  rw [show roomI [1, 1] = 1099511627776 by decide] at C0
  have hba : Below w.heap.size w (w.alloc (.cells #[.int .i64 1, .int .i64 1] 3)) := (Below.refl _ w).alloc (Nat.le_refl _) _
  have C1 := hidp (fits_ok (h.below hba) h0)
  obtain ⟨hpos, h40, hrng⟩ := wrongC_zero h0
  have hn := h.len.1
  have HBA := hidp hba
  have HX := hidp h
  have H0 := hidp h0
  have HN := hidp hn
  have HRNG := hidp hrng
  have hn40 : n ≤ 40 := by omega
  have hn0 : 0 < n := by omega
  clear h h0 hba hn hrng hpos h40
  go_enter Try.func6, Try.ntmps6
  go_wp2_with fail
  refine C0.out.mono ?_
  rintro e w1 ⟨rfl, hw0⟩
  have hw1 : w.alloc (.cells #[.int .i64 1, .int .i64 1] 3) = w1 := hw0.symm
  rw [hw1] at C1 HBA
  clear hw0 hw1
  simp only [Nat.le_refl, decide_true]
  obtain ⟨a, ha⟩ : ∃ a, decide (roomI l ≤ 1099511627776) = a := ⟨_, rfl⟩
  obtain ⟨b, hb⟩ : ∃ b, decide (roomI l = 1099511627776) = b := ⟨_, rfl⟩
  rw [ha, hb] at C1
  have HA := hidp ha
  have HB := hidp hb
  clear ha hb C0
  go_wp2_with fail
  refine C1.out.mono ?_
  rintro e wz ⟨rfl, hw⟩
  subst hw
  go_wp2
  go_loopg [11, 12] n (fun g vm vi wr => ∃ (i k : Nat), vm = .int .i64 k ∧ vi = .int .i64 i ∧ i + g = n ∧ wz = wr ∧ k ≤ 40 ∧ Hid (∀ x ∈ l.take i, x.toNat ≤ k))
  case atStart => exact ⟨0, 0, rfl, rfl, by omega, rfl, by omega, (show Hid _ from fun x hx => by simp at hx)⟩
  case round =>
    obtain ⟨i, k, rfl, rfl, hg, hw, hk, HK⟩ := hrel
    subst hw
    by_cases hlt : i < n
    · have hlz : (i : Int) < (n : Int) := by omega
      obtain ⟨x, hx⟩ : ∃ x, l[i]? = some x := ⟨_, List.getElem?_eq_getElem (by have := HN.out; omega)⟩
      obtain ⟨b1, o1, rfl, _, _, hr1⟩ := (HX.out.below HBA.out).some (by omega)
      obtain ⟨x0, x1⟩ := HRNG.out x (List.mem_of_getElem? hx)
      have ht : l.take (i + 1) = l.take i ++ [x] := by
        obtain ⟨hi, e⟩ := List.getElem?_eq_some_iff.1 hx
        rw [List.take_succ_eq_append_getElem hi, e]
      obtain ⟨y, rfl⟩ : ∃ y : Nat, x = y := ⟨x.toNat, by omega⟩
      have c0 := hr1.int hx
      have HT := hidp ht
      clear hx hr1 ht
      by_cases hyk : k < y
      · have hyz : (k : Int) < (y : Int) := by omega
        go_wp2
        go_roundg (n - (i + 1))
        case measure => omega
        case rel =>
          refine ⟨i + 1, y, by go_num, by go_num, by omega, rfl, by omega, (show Hid _ from ?_)⟩
          show ∀ x ∈ _, _
          rw [HT.out]
          intro x hx
          rcases List.mem_append.1 hx with z | z
          · have := HK.out x z; omega
          · rw [List.mem_singleton.1 z]; simp
      · have hyz : ¬ (k : Int) < (y : Int) := by omega
        go_wp2
        go_roundg (n - (i + 1))
        case measure => omega
        case rel =>
          refine ⟨i + 1, k, by go_num, by go_num, by omega, rfl, by omega, (show Hid _ from ?_)⟩
          show ∀ x ∈ _, _
          rw [HT.out]
          intro x hx
          rcases List.mem_append.1 hx with z | z
          · exact HK.out x z
          · rw [List.mem_singleton.1 z]; simp; omega
    · have hlz : ¬ (i : Int) < (n : Int) := by omega
      have HKL : Hid (∀ x ∈ l, x.toNat ≤ k) := by
        have := HK.out
        rw [List.take_of_length_le (by have := HN.out; omega)] at this
        exact this
      clear HK
      have HSL := hidp (HX.out.below HBA.out)
      have HS1 : Hid (([] : List Int).length + l.length ≤ 1000000) := by show _ ≤ _; have := HN.out; simp; omega
      have HBW := hidp HBA.out
      have HS2 : Hid (l.length ≤ 100000) := by show _ ≤ _; have := HN.out; omega
      go_wp2_with (first | (at_builtin; refine wpList_append_slE EZ rfl (.tmp 67) (.tmp 68) rfl wz.heap.size _ _ [] l rfl rfl (OwnE.nil EZ wz _) HSL.out HS1.out (Nat.le_refl _) ?_; intro v2 w2 a1 a2; have hb2 := below_ownE (OwnE.nil EZ wz wz.heap.size) a2 (Nat.le_refl _) (Nat.le_refl _); rw [List.nil_append] at a1; obtain ⟨p2, k2, rfl⟩ := OwnE.form a1; have HB2 := hidp hb2; have HO2 := hidp (a1.alloc (.cells #[.int .i64 k] 3)); clear a1 a2 hb2) | (at_builtin; refine wpList_appendE EZ rfl (.tmp 70) (.tmp 72) rfl wz.heap.size _ l k ⟨w2.heap.size, 0, none⟩ 1 rfl HO2.out rfl (box_one w2 k) HS2.out (by have := HB2.out.size; simp; omega) ?_; intro v3 w3 a1 a2 a3; have hb3 := below_ownE HO2.out a2 (Nat.le_refl _) (by have := HB2.out.size; simp; omega); obtain ⟨p3, k3, rfl⟩ := OwnE.form a1; have HB3 := hidp ((HB2.out.alloc HB2.out.size (.cells #[.int .i64 k] 3)).trans hb3); have HO3 := hidp a1; have HSL3 := hidp (HSL.out.below HB3.out); clear a1 a2 a3 hb3 HO2 HB2) | (at_builtin; refine wpList_append_slE EZ rfl (.tmp 74) (.tmp 75) rfl w3.heap.size _ _ [] l rfl rfl (OwnE.nil EZ w3 _) HSL3.out HS1.out (Nat.le_refl _) ?_; intro v4 w4 a1 a2; have hb4 := below_ownE (OwnE.nil EZ w3 w3.heap.size) a2 (Nat.le_refl _) (Nat.le_refl _); rw [List.nil_append] at a1; obtain ⟨p4, k4, rfl⟩ := OwnE.form a1; have HB4 := hidp hb4; have HO4 := hidp (a1.alloc (.cells #[.int .i64 m] 3)); clear a1 a2 hb4) | (at_builtin; refine wpList_appendE EZ rfl (.tmp 77) (.tmp 79) rfl w3.heap.size _ l m ⟨w4.heap.size, 0, none⟩ 1 rfl HO4.out rfl (box_one w4 m) HS2.out (by have := HB4.out.size; simp; omega) ?_; intro v5 w5 a1 a2 a3; have hb5 := below_ownE HO4.out a2 (Nat.le_refl _) (by have := HB4.out.size; simp; omega); obtain ⟨p5, k5, rfl⟩ := OwnE.form a1; have HB5 := hidp ((HB4.out.alloc HB4.out.size (.cells #[.int .i64 m] 3)).trans hb5); have HO5 := hidp a1; clear a1 a2 a3 hb5 HO4 HB4))
      have hbf := HBW.out.trans ((HB3.out.mono HBW.out.size).trans (HB5.out.mono (Nat.le_trans HBW.out.size HB3.out.size)))
      have HBF := hidp hbf
      have s6 : SlE EZ w5 (.slice p3 (l ++ [(k : Int)]).length k3) (l ++ [(k : Int)]) := HO3.out.sl.below HB5.out
      have s7 : SlE EZ w5 (.slice p5 (l ++ [m]).length k5) (l ++ [m]) := HO5.out.sl
      have hl6 : (l ++ [(k : Int)]).length = n + 1 := by rw [List.length_append, List.length_singleton, ← HN.out]
      have hl7 : (l ++ [m]).length = n + 1 := by rw [List.length_append, List.length_singleton, ← HN.out]
      have hab : ((a || !b)) = true := by
        rw [← HA.out, ← HB.out]
        by_cases q : roomI l = 1099511627776
        · simp [q]
        · simp [q]
      by_cases hfull : n = 40
      · subst hfull
        obtain ⟨z6, c6⟩ := fits_err s6 (by omega) (by rw [wrongC_full (by omega)]; decide)
        obtain ⟨z7, c7⟩ := fits_err s7 (by omega) (by rw [wrongC_full (by omega)]; decide)
        rw [hl6] at c6
        rw [hl7] at c7
        simp only [Nat.reduceAdd] at c6 c7
        have HC6 := hidp c6
        have HC7 := hidp c7
        clear HO3 HO5 HB3 HB5 HBW HSL HSL3 s6 s7 c6 c7 hbf HX HA HB
        rw [← HN.out]
        simp only [Nat.reduceAdd]
        clear hl6 hl7
        cases a <;> cases b <;> first | exact absurd hab (by decide) | (clear hab; refine HC6.out.mono ?_; rintro e w6 ⟨rfl, rfl⟩; go_wp2_with fail; refine HC7.out.mono ?_; rintro e w7 ⟨rfl, rfl⟩; go_wp2; go_ret; exact ⟨rfl, HBF.out⟩)
      · have w6 : wrongC (l ++ [(k : Int)]) 40 = 0 := wrongC_of (by omega) (by omega) fun x hx => by
          rcases List.mem_append.1 hx with z | z
          · exact HRNG.out x z
          · rw [List.mem_singleton.1 z]; omega
        have c6 := fits_ok s6 w6
        obtain ⟨c, hc⟩ : ∃ c, decide (roomI (l ++ [(k : Int)]) ≤ 1099511627776) = c := ⟨_, rfl⟩
        obtain ⟨x, hx⟩ : ∃ x, decide (roomI (l ++ [(k : Int)]) = 1099511627776) = x := ⟨_, rfl⟩
        rw [hl6, hc, hx] at c6
        have hcab : (c == (a && !b)) = true := by
          rw [← hc, ← HA.out, ← HB.out]
          rcases Nat.lt_trichotomy (roomI l) 1099511627776 with q | q | q
          · have := room_more hk HKL.out q
            simp [this, Nat.le_of_lt q, Nat.ne_of_lt q]
          · have := room_full (l := l) (k : Int) (by omega)
            simp [q, this]
          · have := room_full (l := l) (k : Int) (by omega)
            rw [show decide (roomI (l ++ [(k : Int)]) ≤ 1099511627776) = false from decide_eq_false (by omega), show decide (roomI l ≤ 1099511627776) = false from decide_eq_false (by omega)]
            rfl
        have HC6 := hidp c6
        by_cases w7 : wrongC (l ++ [m]) 40 = 0
        · have c7 := fits_ok s7 w7
          obtain ⟨d, hd⟩ : ∃ d, decide (roomI (l ++ [m]) ≤ 1099511627776) = d := ⟨_, rfl⟩
          obtain ⟨y, hy⟩ : ∃ y, decide (roomI (l ++ [m]) = 1099511627776) = y := ⟨_, rfl⟩
          rw [hl7, hd, hy] at c7
          have hdb : (!b || !d) = true := by
            rw [← hd, ← HB.out]
            by_cases q : roomI l = 1099511627776
            · have := room_full (l := l) m (by omega)
              simp [q, this]
            · simp [q]
          have HC7 := hidp c7
          have hcond : ((a || !b) && (c == (a && !b)) && (!b || !d)) = true := by rw [hab, hcab, hdb]; rfl
          clear HO3 HO5 HB3 HB5 HBW HSL HSL3 s6 s7 c6 c7 hbf HX HA HB hab hcab hdb hc hx hd hy w6 w7
          rw [← HN.out]
          clear hl6 hl7
          cases a <;> cases b <;> cases c <;> cases d <;> first | exact absurd hcond (by decide) | (clear hcond; refine HC6.out.mono ?_; rintro e w6 ⟨rfl, rfl⟩; go_wp2_with fail; refine HC7.out.mono ?_; rintro e w7 ⟨rfl, rfl⟩; go_wp2; go_ret; exact ⟨rfl, HBF.out⟩)
        · obtain ⟨z7, c7⟩ := fits_err s7 (by omega) w7
          rw [hl7] at c7
          have HC7 := hidp c7
          have hcond : ((a || !b) && (c == (a && !b))) = true := by rw [hab, hcab]; rfl
          clear HO3 HO5 HB3 HB5 HBW HSL HSL3 s6 s7 c6 c7 hbf HX HA HB hab hcab hc hx w6 w7
          rw [← HN.out]
          clear hl6 hl7
          cases a <;> cases b <;> cases c <;> first | exact absurd hcond (by decide) | (clear hcond; refine HC6.out.mono ?_; rintro e w6 ⟨rfl, rfl⟩; go_wp2_with fail; refine HC7.out.mono ?_; rintro e w7 ⟨rfl, rfl⟩; go_wp2; go_ret; exact ⟨rfl, HBF.out⟩)
theorem huffFits_any (v : Value) (xs : List Int) (m : Int) (w : World) (h : SlE EZ w v xs) (hbig : xs.length ≤ 9223372036854775807) :
    Calls Try.prog 6 #[v, .int .i64 m] w fun e w' => e = .returned (.bool true) ∧ Below w.heap.size w w' := by
  obtain ⟨p, cap, rfl, _⟩ := id h
  by_cases h0 : wrongC xs 40 = 0
  · exact huffFits_ok h h0
  · exact huffFits_bad h hbig h0
#print axioms huffFits_any
end Go.Proofs.Ytimlgdedgjpkdaa
