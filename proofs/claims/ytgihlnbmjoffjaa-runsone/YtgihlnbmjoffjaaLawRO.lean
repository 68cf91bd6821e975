/-
  The law RunsOne, walked: what is nearly sorted is one run; what falls all the way has runs of just the room.
-/
import Derived.Test.YtgihlnbmjoffjaaLawRL
namespace Go.Proofs.Ytgihlnbmjoffjaa
open Go.RowKit Go.Sort Go.Proofs

/-- How many of those ahead are greater. -/
def grN (l : List Int) (i : Nat) : Nat := match l[i]? with
  | none => 0
  | some c => above (l.take i) c
theorem above_succ {l : List Int} {j : Nat} {x : Int} (c : Int) (hx : l[j]? = some x) : above (l.take (j + 1)) c = above (l.take j) c + (if c < x then 1 else 0) := by
  obtain ⟨hj, e⟩ := List.getElem?_eq_some_iff.1 hx
  unfold above
  rw [List.take_succ_eq_append_getElem hj, e, List.countP_append, List.countP_singleton]
  simp
theorem above_le (l : List Int) (c : Int) (i : Nat) : above (l.take i) c ≤ i := by
  have : above (l.take i) c ≤ (l.take i).length := List.countP_le_length
  rw [List.length_take] at this
  omega
def nearD (l : List Int) (room k : Nat) : Bool := decide (∀ i, i < k → grN l i < room)
def fallD (l : List Int) (k : Nat) : Bool := decide (∀ i, i < k → grN l i = i)
theorem nearD_succ (l : List Int) (room k : Nat) : nearD l room (k + 1) = (nearD l room k && decide (grN l k < room)) := by
  unfold nearD
  rw [Bool.eq_iff_iff]
  simp only [Bool.and_eq_true, decide_eq_true_eq]
  constructor
  · intro h; exact ⟨fun i hi => h i (by omega), h k (by omega)⟩
  · rintro ⟨h1, h2⟩ i hi
    rcases Nat.lt_or_ge i k with q | q
    · exact h1 i q
    · obtain rfl : i = k := by omega
      exact h2
theorem fallD_succ (l : List Int) (k : Nat) : fallD l (k + 1) = (fallD l k && decide (grN l k = k)) := by
  unfold fallD
  rw [Bool.eq_iff_iff]
  simp only [Bool.and_eq_true, decide_eq_true_eq]
  constructor
  · intro h; exact ⟨fun i hi => h i (by omega), h k (by omega)⟩
  · rintro ⟨h1, h2⟩ i hi
    rcases Nat.lt_or_ge i k with q | q
    · exact h1 i q
    · obtain rfl : i = k := by omega
      exact h2
theorem near_of {l : List Int} {room : Nat} (h : nearD l room l.length = true) : ∀ came c r, l = came ++ c :: r → above came c < room := by
  intro came c r e
  have h1 := of_decide_eq_true h came.length (by rw [e]; simp)
  unfold grN at h1
  rw [e] at h1
  simpa using h1
theorem fall_of {l : List Int} (h : fallD l l.length = true) : ∀ came c r, l = came ++ c :: r → ∀ y ∈ came, c < y := by
  intro came c r e y hy
  have h1 := of_decide_eq_true h came.length (by rw [e]; simp)
  unfold grN at h1
  rw [e] at h1
  simp only [List.getElem?_append_right (Nat.le_refl _), Nat.sub_self, List.getElem?_cons_zero, List.take_left'] at h1
  unfold above at h1
  have := List.countP_eq_length.1 h1 y hy
  simpa using this
set_option maxHeartbeats 4000000 in
theorem runsOne_bad {w : World} {p : Option Addr} {n cap : Nat} {l : List Int} {room : Int} (h : SlE EZ w (.slice p n cap) l) (hbig : n ≤ 9223372036854775807) (h0 : wrongM l room ≠ 0) :
    Calls Try.prog 5 #[.slice p n cap, .int .i64 room] w fun e w' => e = .returned (.bool true) ∧ Below w.heap.size w w' := by
  have C0 := hidp (runsFact_any w)
  have HX := hidp h
  have H0 := hidp h0
  clear h h0
  go_enter Try.func5, Try.ntmps5
  go_wp2_with fail
  refine C0.out.mono ?_
  rintro e w1 ⟨rfl, hb1⟩
  have C1 := make_bad (HX.out.below hb1) hbig H0.out
  rw [errV_ne H0.out] at C1
  have HC1 := hidp C1
  have HB1 := hidp hb1
  clear C1 hb1 C0
  generalize wrongM l room = z at HC1
  go_wp2_with fail
  refine HC1.out.mono ?_
  rintro e w2 ⟨rfl, hb2⟩
  have HB2 := hidp (HB1.out.trans (hb2.mono HB1.out.size))
  clear hb2 HC1
  go_wp2
  go_ret
  exact ⟨rfl, HB2.out⟩
set_option maxHeartbeats 16000000 in
set_option maxRecDepth 20000 in
theorem runsOne_ok {w : World} {p : Option Addr} {n cap : Nat} {l : List Int} {room : Nat} (h : SlE EZ w (.slice p n cap) l) (h0 : wrongM l room = 0) :
    Calls Try.prog 5 #[.slice p n cap, .int .i64 room] w fun e w' => e = .returned (.bool true) ∧ Below w.heap.size w w' := by
  have C0 := hidp (runsFact_any w)
  have hn := h.len.1
  obtain ⟨hN, hr1, hr2⟩ := wrongM_zero h0
  obtain ⟨h60, _⟩ := wrongN_zero hN
  have hnear : nearD l room l.length = true → 0 < n → topR (outs room l) = 1 := fun h1 h2 => near_top (by omega) l (by omega) (near_of h1)
  have hfall : fallD l l.length = true → ∀ i, i + 1 < topR (outs room l) → (rowR (outs room l) i).length = room := fun h1 i hi => row_falls (by omega) l (fall_of h1) hi
  have hlong := rows_long (room := room) (by omega) l
  have hmost : topR (outs room l) ≤ 60 + room := by
    have : topR (outs room l) ≤ topR (outs room l) * room := Nat.le_mul_of_pos_right _ (by omega)
    omega
  have HX := hidp h
  obtain ⟨R, hR⟩ : ∃ R, topR (outs room l) = R := ⟨_, rfl⟩
  have HR := hidp hR
  rw [hR] at hnear hfall hmost
  rw [← hn] at hnear hfall
  have HNEAR := hidp hnear
  have HFALL := hidp hfall
  have H0 := hidp h0
  have HN := hidp hn
  have hnn : n ≤ 60 := by omega
  clear h hR hlong hN hn h0 hnear hfall
  go_enter Try.func5, Try.ntmps5
  go_wp2_with fail
  refine C0.out.mono ?_
  rintro e w1 ⟨rfl, hb1⟩
  have HC1 := hidp (make_ok (HX.out.below hb1) H0.out)
  have HB1 := hidp hb1
  clear hb1 C0
  go_wp2_with fail
  refine HC1.out.mono ?_
  rintro e w2 ⟨v', ss, f, rfl, hrows, _, _, hb2⟩
  obtain ⟨pv, cv, rfl⟩ := hrows.form
  have hcell : ∀ i, i + 1 < R → ∃ g q c, pv = some ⟨g, 0, none⟩ ∧ g < w2.heap.size ∧ w2.cell? ⟨g, i, none⟩ = some (.slice q (rowR (outs room l) i).length c) := fun i hi => by
    have hlen : (rowsR (outs room l)).length = R := by rw [rowsR_len]; exact HR.out
    obtain ⟨g, cap2, e, hgl, hrow⟩ := hrows.cell (by omega)
    simp only [Value.slice.injEq] at e
    obtain ⟨rfl, _, _⟩ := e
    obtain ⟨q, c, c0, _⟩ := hrow i (rowR (outs room l) i) (by unfold rowsR; rw [List.getElem?_map, List.getElem?_range (by have := HR.out; omega)]; rfl)
    exact ⟨g, q, c, rfl, hgl, c0⟩
  rw [rowsR_len, HR.out]
  have HCELL := hidp hcell
  have HB2 := hidp (HB1.out.trans (hb2.mono HB1.out.size))
  have HX2 := hidp (HX.out.below HB2.out)
  clear hrows hb2 HC1 hcell
  go_wp2
  go_loopg [8, 9, 10] n (fun g ni fi vi wr => ∃ i : Nat, vi = .int .i64 i ∧ i + g = n ∧ ∃ nb fb : Bool, ni = .bool nb ∧ fi = .bool fb ∧ Hid (nb = nearD l room i) ∧ Hid (fb = fallD l i) ∧ Hid (∃ q, wr = w2.drewN q))
  case atStart => exact ⟨0, rfl, by omega, true, true, rfl, rfl, (show Hid _ from (by show true = nearD l room 0; simp [nearD])), (show Hid _ from (by show true = fallD l 0; simp [fallD])), (show Hid _ from ⟨0, rfl⟩)⟩
  case round =>
    obtain ⟨i, rfl, hg, nb, fb, rfl, rfl, HNB, HFB, HW⟩ := hrel
    by_cases hlt : i < n
    · have hlz : (i : Int) < (n : Int) := by omega
      obtain ⟨blk, off, rfl, _, hll, hrd⟩ := HX2.out.some (by omega)
      obtain ⟨c, hc⟩ : ∃ c, l[i]? = some c := ⟨_, List.getElem?_eq_getElem (by omega)⟩
      have HC := hidp hc
      have HRD := hidp hrd
      have HLL := hidp hll
      clear hc hrd hll
      go_wp2
      go_loopg [11, 12] i (fun g gi ji wr2 => ∃ j k : Nat, ji = .int .i64 j ∧ gi = .int .i64 k ∧ j + g = i ∧ k ≤ j ∧ Hid (k = above (l.take j) c) ∧ Hid (∃ q, wr2 = w2.drewN q))
      case atStart => exact ⟨0, 0, rfl, rfl, by omega, by omega, (show Hid _ from (by show 0 = above (l.take 0) c; simp [above])), HW⟩
      case round =>
        obtain ⟨j, k, rfl, rfl, hg2, hkj, HK, HW2⟩ := hrel
        by_cases hjt : j < i
        · have hjz : (j : Int) < (i : Int) := by omega
          have hjnz : (j : Int) < (n : Int) := by omega
          obtain ⟨x, hx⟩ : ∃ x, l[j]? = some x := ⟨_, List.getElem?_eq_getElem (by have := HLL.out; omega)⟩
          have c0 : wr.cell? ⟨blk, off + i, none⟩ = some (.int .i64 c) := by obtain ⟨q, hq⟩ := HW2.out; rw [hq]; exact HRD.out.int HC.out
          have c1 : wr.cell? ⟨blk, off + j, none⟩ = some (.int .i64 x) := by obtain ⟨q, hq⟩ := HW2.out; rw [hq]; exact HRD.out.int hx
          have HS := hidp (above_succ c hx)
          clear hx
          by_cases hcx : c < x
          · have HKS : Hid (k + 1 = above (l.take (j + 1)) c) := by show _ = _; rw [HS.out, if_pos hcx, ← HK.out]
            go_wp2_with fail
            go_quiet (fail)
            go_wp2
            go_roundg (i - (j + 1))
            case measure => omega
            case rel => exact ⟨j + 1, k + 1, by go_num, by go_num, by omega, by omega, HKS, (show Hid _ from (by obtain ⟨q, hq⟩ := HW2.out; exact ⟨_, by rw [hq, World.drewN_drewN]⟩))⟩
          · have HKS : Hid (k = above (l.take (j + 1)) c) := by show _ = _; rw [HS.out, if_neg hcx, ← HK.out]; rfl
            go_wp2_with fail
            go_quiet (fail)
            go_wp2
            go_roundg (i - (j + 1))
            case measure => omega
            case rel => exact ⟨j + 1, k, by go_num, rfl, by omega, by omega, HKS, (show Hid _ from (by obtain ⟨q, hq⟩ := HW2.out; exact ⟨_, by rw [hq, World.drewN_drewN]⟩))⟩
        · have hjz : ¬ (j : Int) < (i : Int) := by omega
          obtain rfl : j = i := by omega
          have hgr : grN l j = k := by unfold grN; rw [HC.out]; exact HK.out.symm
          have hn1 := nearD_succ l room j
          have hf1 := fallD_succ l j
          rw [hgr, ← HNB.out] at hn1
          rw [hgr, ← HFB.out] at hf1
          have HN1 := hidp hn1
          have HF1 := hidp hf1
          have hkr : decide ((k : Int) < (room : Int)) = decide (k < room) := by rw [decide_eq_decide]; omega
          have hki : ((k : Int) == (j : Int)) = decide (k = j) := by rw [Bool.eq_iff_iff]; simp; omega
          clear hn1 hf1 hgr
          cases nb
          · cases fb
            · go_wp2
              go_roundg (n - (j + 1))
              case measure => omega
              case rel => exact ⟨j + 1, by go_num, by omega, _, _, rfl, rfl, HN1.out.symm, HF1.out.symm, HW2⟩
            · go_wp2
              go_roundg (n - (j + 1))
              case measure => omega
              case rel => exact ⟨j + 1, by go_num, by omega, false, decide (k = j), rfl, (by simp [← hki]), HN1.out.symm, (by show _ = _; rw [HF1.out, Bool.true_and]), HW2⟩
          · cases fb
            · go_wp2
              go_roundg (n - (j + 1))
              case measure => omega
              case rel => exact ⟨j + 1, by go_num, by omega, decide (k < room), false, (by simp [← hkr]), rfl, (by show _ = _; rw [HN1.out, Bool.true_and]), HF1.out.symm, HW2⟩
            · go_wp2
              go_roundg (n - (j + 1))
              case measure => omega
              case rel => exact ⟨j + 1, by go_num, by omega, decide (k < room), decide (k = j), (by simp [← hkr]), (by simp [← hki]), (by show _ = _; rw [HN1.out, Bool.true_and]), (by show _ = _; rw [HF1.out, Bool.true_and]), HW2⟩
    · have hlz : ¬ (i : Int) < (n : Int) := by omega
      obtain rfl : i = n := by omega
      have hbad : nb = true → 0 < i → R = 1 := fun e h => HNEAR.out (by rw [← HNB.out]; exact e) h
      have hfl : fb = true → ∀ k, k + 1 < R → (rowR (outs room l) k).length = room := fun e k hk => HFALL.out (by rw [← HFB.out]; exact e) k hk
      have HFL := hidp hfl
      have HCQ : Hid (∀ k, k + 1 < R → ∃ g q c, pv = some ⟨g, 0, none⟩ ∧ wr.cell? ⟨g, k, none⟩ = some (.slice q (rowR (outs room l) k).length c)) := fun k hk => by
        obtain ⟨g, q, c, e, _, c0⟩ := HCELL.out k hk
        obtain ⟨q', hq⟩ := HW.out
        exact ⟨g, q, c, e, by rw [hq]; exact c0⟩
      have HBW : Hid (Below w.heap.size w wr) := by
        obtain ⟨q', hq⟩ := HW.out
        show Below _ _ _
        rw [hq]; exact below_drewN HB2.out q'
      clear hfl
      cases nb
      · go_wp2
        go_loopg [13] (R + 1) (fun g vi wr2 => ∃ k : Nat, vi = .int .i64 k ∧ k + g = R + 1 ∧ k ≤ R ∧ wr = wr2)
        case atStart => exact ⟨0, rfl, by omega, by omega, rfl⟩
        case round =>
          obtain ⟨k, rfl, hg2, hk, hw⟩ := hrel
          subst hw
          cases fb
          · by_cases hlt2 : k + 1 < R
            · have hlz2 : (k : Int) + 1 < (R : Int) := by omega
              go_wp2
              go_ret
              exact ⟨rfl, HBW.out⟩
            · have hlz2 : ¬ (k : Int) + 1 < (R : Int) := by omega
              go_wp2
              go_ret
              exact ⟨rfl, HBW.out⟩
          · by_cases hlt2 : k + 1 < R
            · have hlz2 : (k : Int) + 1 < (R : Int) := by omega
              have hkz : (k : Int) < (R : Int) := by omega
              obtain ⟨g, q, c, rfl, c0⟩ := HCQ.out k hlt2
              rw [HFL.out rfl k hlt2] at c0
              have hne : ((room : Int) != (room : Int)) = false := by simp
              go_wp2
              go_roundg (R + 1 - (k + 1))
              case measure => omega
              case rel => exact ⟨k + 1, by go_num, by omega, by omega, rfl⟩
            · have hlz2 : ¬ (k : Int) + 1 < (R : Int) := by omega
              go_wp2
              go_ret
              exact ⟨rfl, HBW.out⟩
      · by_cases h0 : 0 < i
        · have hR1 := hbad rfl h0
          have h0z : (0 : Int) < (i : Int) := by omega
          have hne1 : ((R : Int) != 1) = false := by rw [hR1]; rfl
          go_wp2
          go_loopg [13] (R + 1) (fun g vi wr2 => ∃ k : Nat, vi = .int .i64 k ∧ k + g = R + 1 ∧ k ≤ R ∧ wr = wr2)
          case atStart => exact ⟨0, rfl, by omega, by omega, rfl⟩
          case round =>
            obtain ⟨k, rfl, hg2, hk, hw⟩ := hrel
            subst hw
            cases fb
            · by_cases hlt2 : k + 1 < R
              · exfalso; omega
              · have hlz2 : ¬ (k : Int) + 1 < (R : Int) := by omega
                go_wp2
                go_ret
                exact ⟨rfl, HBW.out⟩
            · by_cases hlt2 : k + 1 < R
              · exfalso; omega
              · have hlz2 : ¬ (k : Int) + 1 < (R : Int) := by omega
                go_wp2
                go_ret
                exact ⟨rfl, HBW.out⟩
        · have h0z : ¬ (0 : Int) < (i : Int) := by omega
          go_wp2
          go_loopg [13] (R + 1) (fun g vi wr2 => ∃ k : Nat, vi = .int .i64 k ∧ k + g = R + 1 ∧ k ≤ R ∧ wr = wr2)
          case atStart => exact ⟨0, rfl, by omega, by omega, rfl⟩
          case round =>
            obtain ⟨k, rfl, hg2, hk, hw⟩ := hrel
            subst hw
            cases fb
            · by_cases hlt2 : k + 1 < R
              · have hlz2 : (k : Int) + 1 < (R : Int) := by omega
                go_wp2
                go_ret
                exact ⟨rfl, HBW.out⟩
              · have hlz2 : ¬ (k : Int) + 1 < (R : Int) := by omega
                go_wp2
                go_ret
                exact ⟨rfl, HBW.out⟩
            · by_cases hlt2 : k + 1 < R
              · have hlz2 : (k : Int) + 1 < (R : Int) := by omega
                have hkz : (k : Int) < (R : Int) := by omega
                obtain ⟨g, q, c, rfl, c0⟩ := HCQ.out k hlt2
                rw [HFL.out rfl k hlt2] at c0
                have hne : ((room : Int) != (room : Int)) = false := by simp
                go_wp2
                go_roundg (R + 1 - (k + 1))
                case measure => omega
                case rel => exact ⟨k + 1, by go_num, by omega, by omega, rfl⟩
              · have hlz2 : ¬ (k : Int) + 1 < (R : Int) := by omega
                go_wp2
                go_ret
                exact ⟨rfl, HBW.out⟩
theorem runsOne_any (v : Value) (xs : List Int) (room : Int) (w : World) (h : SlE EZ w v xs) (hbig : xs.length ≤ 9223372036854775807) :
    Calls Try.prog 5 #[v, .int .i64 room] w fun e w' => e = .returned (.bool true) ∧ Below w.heap.size w w' := by
  obtain ⟨p, cap, rfl, _⟩ := id h
  by_cases h0 : wrongM xs room = 0
  · obtain ⟨_, hr1, _⟩ := wrongM_zero h0
    obtain ⟨k, rfl⟩ : ∃ k : Nat, room = k := ⟨room.toNat, by omega⟩
    exact runsOne_ok h h0
  · exact runsOne_bad h hbig h0
#print axioms runsOne_any
end Go.Proofs.Ytgihlnbmjoffjaa
