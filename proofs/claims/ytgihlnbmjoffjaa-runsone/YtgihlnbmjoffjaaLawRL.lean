/-
  The law RunsLong, walked: no run but the last is shorter than the room.
-/
import Derived.Test.YtgihlnbmjoffjaaRnY
namespace Go.Proofs.Ytgihlnbmjoffjaa
open Go.RowKit Go.Sort Go.Proofs

set_option maxHeartbeats 4000000 in
theorem runsLong_bad {w : World} {p : Option Addr} {n cap : Nat} {l : List Int} {room : Int} (h : SlE EZ w (.slice p n cap) l) (hbig : n ≤ 9223372036854775807) (h0 : wrongM l room ≠ 0) :
    Calls Try.prog 4 #[.slice p n cap, .int .i64 room] w fun e w' => e = .returned (.bool true) ∧ Below w.heap.size w w' := by
  have C0 := hidp (runsFact_any w)
  have HX := hidp h
  have H0 := hidp h0
  clear h h0
  go_enter Try.func4, Try.ntmps4
  go_wp2_with fail
  refine C0.out.mono ?_
  rintro e w1 ⟨rfl, hb1⟩
  have C1 := make_bad (HX.out.below hb1) hbig H0.out
  rw [errV_ne H0.out] at C1
  have HC1 := hidp C1
  have HB1 := hidp hb1
  clear C1 hb1 C0
  generalize wrongM l room = z at HC1
  go_wp2_with fail
  refine HC1.out.mono ?_
  rintro e w2 ⟨rfl, hb2⟩
  have HB2 := hidp (HB1.out.trans (hb2.mono HB1.out.size))
  clear hb2 HC1
  go_wp2
  go_ret
  exact ⟨rfl, HB2.out⟩
set_option maxHeartbeats 4000000 in
theorem runsLong_ok {w : World} {p : Option Addr} {n cap : Nat} {l : List Int} {room : Nat} (h : SlE EZ w (.slice p n cap) l) (h0 : wrongM l room = 0) :
    Calls Try.prog 4 #[.slice p n cap, .int .i64 room] w fun e w' => e = .returned (.bool true) ∧ Below w.heap.size w w' := by
  have C0 := hidp (runsFact_any w)
  have hn := h.len.1
  obtain ⟨hN, hr1, hr2⟩ := wrongM_zero h0
  obtain ⟨h60, _⟩ := wrongN_zero hN
  have hlong := rows_long (room := room) (by omega) l
  have hmost : topR (outs room l) ≤ 60 + room := by
    have : topR (outs room l) ≤ topR (outs room l) * room := Nat.le_mul_of_pos_right _ (by omega)
    omega
  have HX := hidp h
  have HRow : Hid (∀ i, i + 1 < topR (outs room l) → room ≤ (rowR (outs room l) i).length) := fun i hi => row_long (by omega) l hi
  obtain ⟨R, hR⟩ : ∃ R, topR (outs room l) = R := ⟨_, rfl⟩
  have HR := hidp hR
  rw [hR] at hlong hmost
  have H0 := hidp h0
  have HN := hidp hn
  have hnn : n ≤ 60 := by omega
  have hln : R * room ≤ n + room := by omega
  clear h hR hlong hN hn h0
  go_enter Try.func4, Try.ntmps4
  go_wp2_with fail
  refine C0.out.mono ?_
  rintro e w1 ⟨rfl, hb1⟩
  have HC1 := hidp (make_ok (HX.out.below hb1) H0.out)
  have HB1 := hidp hb1
  clear hb1 C0
  go_wp2_with fail
  refine HC1.out.mono ?_
  rintro e w2 ⟨v', ss, f, rfl, hrows, _, _, hb2⟩
  obtain ⟨pv, cv, rfl⟩ := hrows.form
  have hcell : ∀ i, i + 1 < R → ∃ g q c, pv = some ⟨g, 0, none⟩ ∧ w2.cell? ⟨g, i, none⟩ = some (.slice q (rowR (outs room l) i).length c) := fun i hi => by
    have hlen : (rowsR (outs room l)).length = R := by rw [rowsR_len]; exact HR.out
    obtain ⟨g, cap2, e, _, hrow⟩ := hrows.cell (by omega)
    simp only [Value.slice.injEq] at e
    obtain ⟨rfl, _, _⟩ := e
    obtain ⟨q, c, c0, _⟩ := hrow i (rowR (outs room l) i) (by unfold rowsR; rw [List.getElem?_map, List.getElem?_range (by have := HR.out; omega)]; rfl)
    exact ⟨g, q, c, rfl, c0⟩
  rw [rowsR_len, HR.out]
  have HCELL := hidp hcell
  have HB2 := hidp (HB1.out.trans (hb2.mono HB1.out.size))
  have hw1 : IntKind.i64.wrap ((R : Int) * (room : Int)) = (R : Int) * (room : Int) := by
    rw [IntKind.wrap_i64]
    have : (R : Int) * (room : Int) ≤ 68 := by exact_mod_cast (by omega : R * room ≤ 68)
    have : (0 : Int) ≤ (R : Int) * (room : Int) := by exact_mod_cast Nat.zero_le _
    omega
  have hle : (R : Int) * (room : Int) ≤ (n : Int) + (room : Int) := by exact_mod_cast hln
  clear hrows hb2 HC1 hcell
  go_wp2
  go_loopg [8] (R + 1) (fun g vi wr => ∃ i : Nat, vi = .int .i64 i ∧ i + g = R + 1 ∧ i ≤ R ∧ w2 = wr)
  case atStart => exact ⟨0, rfl, by omega, by omega, rfl⟩
  case round =>
    obtain ⟨i, rfl, hg, hi, hw⟩ := hrel
    subst hw
    by_cases hlt : i + 1 < R
    · have hlz : (i : Int) + 1 < (R : Int) := by omega
      have hiz : (i : Int) < (R : Int) := by omega
      obtain ⟨g, q, c, rfl, c0⟩ := HCELL.out i hlt
      have hr := HRow.out i (by rw [HR.out]; exact hlt)
      generalize (rowR (outs room l) i).length = k at c0 hr
      have hkz : ¬ (k : Int) < (room : Int) := by omega
      go_wp2
      go_roundg (R + 1 - (i + 1))
      case measure => omega
      case rel => exact ⟨i + 1, by go_num, by omega, by omega, rfl⟩
    · have hlz : ¬ (i : Int) + 1 < (R : Int) := by omega
      go_wp2
      go_ret
      exact ⟨by simp, HB2.out⟩
theorem runsLong_any (v : Value) (xs : List Int) (room : Int) (w : World) (h : SlE EZ w v xs) (hbig : xs.length ≤ 9223372036854775807) :
    Calls Try.prog 4 #[v, .int .i64 room] w fun e w' => e = .returned (.bool true) ∧ Below w.heap.size w w' := by
  obtain ⟨p, cap, rfl, _⟩ := id h
  by_cases h0 : wrongM xs room = 0
  · obtain ⟨_, hr1, _⟩ := wrongM_zero h0
    obtain ⟨k, rfl⟩ : ∃ k : Nat, room = k := ⟨room.toNat, by omega⟩
    exact runsLong_ok h h0
  · exact runsLong_bad h hbig h0
#print axioms runsLong_any
end Go.Proofs.Ytgihlnbmjoffjaa
