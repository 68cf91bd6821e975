/-
  The law RunsSorted, walked: each run is sorted, none is empty, and merged they are all numbers, sorted.
-/
import Derived.Test.YtgihlnbmjoffjaaRnY
import Derived.Test.YtgihlnbmjoffjaaItZ
import Derived.Test.YtgihlnbmjoffjaaSortW
namespace Go.Proofs.Ytgihlnbmjoffjaa
open Go.RowKit Go.Sort Go.Proofs

theorem wrong_itm0 {l : List Int} (h60 : l.length ≤ 60) (hr : ∀ c ∈ l, -1000000 ≤ c ∧ c ≤ 1000000) : wrong (itm0 l).toArray = 0 := by
  unfold wrong
  rw [if_neg (by simp [itm0_len]; omega), if_neg]
  rw [anyOut_false fun i hi => ?_]
  · simp
  · have hi' : i < l.length := by simpa [itm0_len] using hi
    have e : ((itm0 l).toArray)[i]! = (l[i], 0) := by
      rw [getElem!_pos _ i (by simpa [itm0_len] using hi')]
      simp [itm0]
    rw [e]
    have := hr l[i] (List.getElem_mem hi')
    unfold outB
    simp
    omega
theorem upB_of_pair {l : List Int} (h : l.Pairwise (· ≤ ·)) : upB l = true := (upB_iff l).2 fun i a b ha hb => by
  obtain ⟨hi, rfl⟩ := List.getElem?_eq_some_iff.1 ha
  obtain ⟨hj, rfl⟩ := List.getElem?_eq_some_iff.1 hb
  exact List.pairwise_iff_getElem.1 h i (i + 1) hi hj (by omega)
theorem wrongG_rows {room : Nat} (hr : 1 ≤ room) {l : List Int} (h60 : l.length ≤ 60) (hrng : ∀ c ∈ l, -1000000 ≤ c ∧ c ≤ 1000000) : wrongG (rowsR (outs room l)) = 0 := by
  have hp := rows_flat hr l
  have hall : ∀ r ∈ rowsR (outs room l), upB r = true ∧ anyZ r = false := by
    intro r hr2
    have hmem : ∀ x ∈ r, x ∈ l := fun x hx => hp.subset (List.mem_flatten.2 ⟨r, hr2, hx⟩)
    obtain ⟨k, _, rfl⟩ := List.mem_map.1 hr2
    refine ⟨upB_of_pair (rowR_up (outs_fact hr l).up k), ?_⟩
    rw [anyZ, List.any_eq_false]
    intro x hx
    have := hrng x (hmem x hx)
    unfold outZ
    simp
    omega
  have h1 : wrongLL (rowsR (outs room l)) = 0 := wrongLL_ok (by rw [hp.length_eq]; exact h60) fun i r hi => (hall r (List.mem_of_getElem? hi)).2
  unfold wrongG
  rw [if_pos h1, if_pos (List.all_eq_true.2 fun r hr2 => (hall r hr2).1)]
set_option maxHeartbeats 4000000 in
theorem runsSorted_bad {w : World} {p : Option Addr} {n cap : Nat} {l : List Int} {room : Int} (h : SlE EZ w (.slice p n cap) l) (hbig : n ≤ 9223372036854775807) (h0 : wrongM l room ≠ 0) :
    Calls Try.prog 3 #[.slice p n cap, .int .i64 room] w fun e w' => e = .returned (.bool true) ∧ Below w.heap.size w w' := by
  have C0 := hidp (runsFact_any w)
  have HX := hidp h
  have H0 := hidp h0
  clear h h0
  go_enter Try.func3, Try.ntmps3
  go_wp2_with fail
  refine C0.out.mono ?_
  rintro e w1 ⟨rfl, hb1⟩
  have C1 := make_bad (HX.out.below hb1) hbig H0.out
  rw [errV_ne H0.out] at C1
  have HC1 := hidp C1
  have HB1 := hidp hb1
  clear C1 hb1 C0
  generalize wrongM l room = z at HC1
  go_wp2_with fail
  refine HC1.out.mono ?_
  rintro e w2 ⟨rfl, hb2⟩
  have HB2 := hidp (HB1.out.trans (hb2.mono HB1.out.size))
  clear hb2 HC1
  go_wp2
  go_ret
  exact ⟨rfl, HB2.out⟩
set_option maxHeartbeats 16000000 in
set_option maxRecDepth 20000 in
theorem runsSorted_ok {w : World} {p : Option Addr} {n cap : Nat} {l : List Int} {room : Nat} (h : SlE EZ w (.slice p n cap) l) (h0 : wrongM l room = 0) :
    Calls Try.prog 3 #[.slice p n cap, .int .i64 room] w fun e w' => e = .returned (.bool true) ∧ Below w.heap.size w w' := by
  have C0 := hidp (runsFact_any w)
  have hn := h.len.1
  obtain ⟨hN, hr1, hr2⟩ := wrongM_zero h0
  obtain ⟨h60, hrng⟩ := wrongN_zero hN
  have hr : 1 ≤ room := by omega
  have hG := wrongG_rows hr h60 hrng
  have hWI := wrong_itm0 h60 hrng
  have hFl := rows_flat hr l
  have hsome : ∀ i, i < topR (outs room l) → 0 < (rowR (outs room l) i).length := fun i hi => row_some hr l hi
  have hup : ∀ i, (rowR (outs room l) i).Pairwise (· ≤ ·) := fun i => rowR_up (outs_fact hr l).up i
  have hlong := rows_long hr l
  have hmost : topR (outs room l) ≤ 60 + room := by
    have : topR (outs room l) ≤ topR (outs room l) * room := Nat.le_mul_of_pos_right _ (by omega)
    omega
  have hrow60 : ∀ i, i < topR (outs room l) → (rowR (outs room l) i).length ≤ 60 := fun i hi => by
    have a := flat_take (rowsR (outs room l)) (i := i) (l := rowR (outs room l) i) (by unfold rowsR; rw [List.getElem?_map, List.getElem?_range hi]; rfl)
    have b := flat_le (rowsR (outs room l)) (i + 1)
    have := hFl.length_eq
    omega
  have HX := hidp h
  obtain ⟨R, hR⟩ : ∃ R, topR (outs room l) = R := ⟨_, rfl⟩
  have HR := hidp hR
  rw [hR] at hsome hmost hrow60
  have HSOME := hidp hsome
  have HUP := hidp hup
  have HR60 := hidp hrow60
  have HG := hidp hG
  have HWI := hidp hWI
  have HFLAT := hidp hFl
  have H0 := hidp h0
  have HN := hidp hn
  have hnn : n ≤ 60 := by omega
  clear h hR hlong hN hn h0 hsome hup hrow60 hG hWI hFl
  go_enter Try.func3, Try.ntmps3
  go_wp2_with fail
  refine C0.out.mono ?_
  rintro e w1 ⟨rfl, hb1⟩
  have HC1 := hidp (make_ok (HX.out.below hb1) H0.out)
  have HB1 := hidp hb1
  clear hb1 C0
  go_wp2_with fail
  refine HC1.out.mono ?_
  rintro e w2 ⟨v', ss, f, rfl, hrows, _, _, hb2⟩
  obtain ⟨pv, cv, rfl⟩ := hrows.form
  have hcell : ∀ i, i < R → ∃ g q c, pv = some ⟨g, 0, none⟩ ∧ g < w2.heap.size ∧ w2.cell? ⟨g, i, none⟩ = some (.slice q (rowR (outs room l) i).length c) ∧ SlE EZ w2 (.slice q (rowR (outs room l) i).length c) (rowR (outs room l) i) := fun i hi => by
    have hlen : (rowsR (outs room l)).length = R := by rw [rowsR_len]; exact HR.out
    obtain ⟨g, cap2, e, hgl, hrow⟩ := hrows.cell (by omega)
    simp only [Value.slice.injEq] at e
    obtain ⟨rfl, _, _⟩ := e
    obtain ⟨q, c, c0, hs⟩ := hrow i (rowR (outs room l) i) (by unfold rowsR; rw [List.getElem?_map, List.getElem?_range (by have := HR.out; omega)]; rfl)
    exact ⟨g, q, c, rfl, hgl, c0, hs⟩
  have HLL := hidp hrows.ll
  rw [rowsR_len, HR.out] at HLL ⊢
  have HCELL := hidp hcell
  have HB2 := hidp (HB1.out.trans (hb2.mono HB1.out.size))
  have HX2 := hidp (HX.out.below HB2.out)
  clear hrows hb2 HC1 hcell
  go_wp2
  go_loopg [8] R (fun g vi wr => ∃ i : Nat, vi = .int .i64 i ∧ i + g = R ∧ Hid (∃ q, wr = w2.drewN q))
  case atStart => exact ⟨0, rfl, by omega, (show Hid _ from ⟨0, rfl⟩)⟩
  case round =>
    obtain ⟨i, rfl, hg, HW⟩ := hrel
    by_cases hlt : i < R
    · have hlz : (i : Int) < (R : Int) := by omega
      obtain ⟨g, q, c, rfl, hgl, c0, hs⟩ := HCELL.out i hlt
      have hpos := HSOME.out i hlt
      have hr60 := HR60.out i hlt
      have HU := hidp (HUP.out i)
      obtain ⟨row, hrow⟩ : ∃ row, rowR (outs room l) i = row := ⟨_, rfl⟩
      rw [hrow] at c0 hs hpos hr60 HU
      obtain ⟨k, hk⟩ : ∃ k, row.length = k := ⟨_, rfl⟩
      rw [hk] at c0 hs hpos hr60
      obtain ⟨rb, ro, rfl, _, _, hrd⟩ := hs.some hpos
      have HRD := hidp hrd
      have HK := hidp hk
      have HC0 := hidp c0
      have cw : wr.cell? ⟨g, i, none⟩ = some (.slice (some ⟨rb, ro, none⟩) k c) := by obtain ⟨q', hq⟩ := HW.out; rw [hq]; exact c0
      have hk0 : ((k : Int) == 0) = false := beq_eq_false_iff_ne.2 (by omega)
      clear c0 hs hrd hk hrow
      go_wp2
      go_loopg [9] (k + 1) (fun g2 vj wr2 => ∃ j : Nat, vj = .int .i64 j ∧ 1 ≤ j ∧ j + g2 = k + 2 ∧ Hid (∃ q, wr2 = w2.drewN q))
      case atStart => exact ⟨1, rfl, by omega, by omega, HW⟩
      case round =>
        obtain ⟨j, rfl, hj1, hg2, HW2⟩ := hrel
        have cw2 : wr.cell? ⟨g, i, none⟩ = some (.slice (some ⟨rb, ro, none⟩) k c) := by obtain ⟨q', hq⟩ := HW2.out; rw [hq]; exact HC0.out
        by_cases hjk : j < k
        · obtain ⟨jp, rfl⟩ : ∃ jp, j = jp + 1 := ⟨j - 1, by omega⟩
          have hjz : (jp : Int) + 1 < (k : Int) := by omega
          have hjpz : (jp : Int) < (k : Int) := by omega
          have hj0 : (0 : Int) ≤ (jp : Int) + 1 := by omega
          have hjt : ((jp : Int) + 1).toNat = jp + 1 := by omega
          have hwj : IntKind.i64.wrap (jp : Int) = (jp : Int) := by rw [IntKind.wrap_i64]; omega
          obtain ⟨x, hx⟩ : ∃ x, row[jp + 1]? = some x := ⟨_, List.getElem?_eq_getElem (by have := HK.out; omega)⟩
          obtain ⟨y, hy⟩ : ∃ y, row[jp]? = some y := ⟨_, List.getElem?_eq_getElem (by have := HK.out; omega)⟩
          have cx : wr.cell? ⟨rb, ro + (jp + 1), none⟩ = some (.int .i64 x) := by obtain ⟨q', hq⟩ := HW2.out; rw [hq]; exact HRD.out.int hx
          have cy : wr.cell? ⟨rb, ro + jp, none⟩ = some (.int .i64 y) := by obtain ⟨q', hq⟩ := HW2.out; rw [hq]; exact HRD.out.int hy
          have hxy : ¬ x < y := by
            obtain ⟨h1, rfl⟩ := List.getElem?_eq_some_iff.1 hx
            obtain ⟨h2, rfl⟩ := List.getElem?_eq_some_iff.1 hy
            have := List.pairwise_iff_getElem.1 HU.out jp (jp + 1) h2 h1 (by omega)
            omega
          clear hx hy
          go_wp2_with fail
          go_quiet (fail)
          go_wp2
          go_roundg (k + 2 - (jp + 1 + 1))
          case measure => omega
          case rel => exact ⟨jp + 1 + 1, by go_num, by omega, by omega, (show Hid _ from (by obtain ⟨q', hq⟩ := HW2.out; exact ⟨_, by rw [hq, World.drewN_drewN]⟩))⟩
        · have hjz : ¬ (j : Int) < (k : Int) := by omega
          go_wp2
          go_roundg (R - (i + 1))
          case measure => omega
          case rel => exact ⟨i + 1, by go_num, by omega, HW2⟩
    · have hlz : ¬ (i : Int) < (R : Int) := by omega
      have hbw : Below w2.heap.size w2 wr := by
        obtain ⟨q', hq⟩ := HW.out
        rw [hq]; exact below_drewN (Below.refl _ _) q'
      have HC3 := hidp (merge_ok (HLL.out.below hbw) (by omega) HG.out)
      have HBW := hidp (HB2.out.trans (hbw.mono HB2.out.size))
      clear hbw
      go_wp2_with fail
      refine HC3.out.mono ?_
      rintro e w3 ⟨vm, out, rfl, ho, hge, hp, hs, hb3⟩
      obtain ⟨pm, cm, rfl⟩ := ho.form
      have hol : out.length = n := by
        have a := (hp.trans HFLAT.out).length_eq
        have := HN.out
        omega
      rw [hol] at ho ⊢
      have HO3 := hidp ho.sl
      have HOL := hidp hol
      have HP3 := hidp (hp.trans HFLAT.out)
      have HS3 := hidp hs
      have HB3 := hidp (HBW.out.trans (hb3.mono HBW.out.size))
      clear ho hge hp hs hb3 HC3 hol
      go_wp2
      go_loopg [12, 13] n (fun g3 va vi wr3 => ∃ i : Nat, vi = .int .i64 i ∧ i + g3 = n ∧ Hid (OwnI wr3 w3.heap.size va (itm0 (l.take i))) ∧ Hid (Below w3.heap.size w3 wr3))
      case atStart => exact ⟨0, rfl, by omega, OwnI.nil w3 _, Below.refl _ _⟩
      case round =>
        obtain ⟨i3, rfl, hg3, HO, HB⟩ := hrel
        by_cases hin : i3 < n
        · have hiz : (i3 : Int) < (n : Int) := by omega
          obtain ⟨c3, hc3⟩ : ∃ c, l[i3]? = some c := ⟨_, List.getElem?_eq_getElem (by have := HN.out; omega)⟩
          obtain ⟨blk, off, rfl, _, _, hrd⟩ := (HX.out.below (HB3.out.trans (HB.out.mono HB3.out.size))).some (by omega)
          have ca := hrd.int hc3
          have HC := hidp hc3
          have HXB := hidp (box_two wr c3 0)
          have HOA := hidp (HO.out.alloc (.cells #[.int .i64 c3, .int .i64 0] 33))
          have HSZ : Hid ((itm0 (l.take i3)).length ≤ 1000000) := by show _ ≤ _; rw [itm0_len]; exact Nat.le_trans (List.length_take_le _ _) (by omega)
          have HBS : Hid (w3.heap.size ≤ (wr.alloc (.cells #[.int .i64 c3, .int .i64 0] 33)).heap.size) := by have := HB.out.size; show _ ≤ _; simp; omega
          clear hc3 hrd
          go_wp2_with (at_builtin; refine wpList_append_item rfl (.tmp 79) (.tmp 85) rfl w3.heap.size _ (itm0 (l.take i3)) (c3, 0) ⟨wr.heap.size, 0, none⟩ 1 rfl HOA.out rfl HXB.out.1 HXB.out.2 HSZ.out HBS.out ?_; intro v1 w4 a1 a2 a3; have hb1 := below_of_grown HOA.out a2 (Nat.le_refl _) HBS.out; have HB4 := hidp ((HB.out.alloc HB.out.size _).trans hb1); have HO1 := hidp a1; clear a1 a2 a3 hb1)
          go_roundg (n - (i3 + 1))
          case measure => omega
          case rel => exact ⟨i3 + 1, by go_num, by omega, by show OwnI _ _ _ _; rw [itm0_succ HC.out]; exact HO1.out, HB4⟩
        · obtain rfl : i3 = n := by omega
          have hiz : ¬ ((i3 : Int) < (i3 : Int)) := by omega
          have ht : l.take i3 = l := List.take_of_length_le (by have := HN.out; omega)
          rw [ht] at HO
          have CS := hidp (sort_good _ (itm0 l).toArray wr HO.out.sl HWI.out)
          have hit : (itm0 l).toArray.size = i3 := by simp [itm0_len]; exact HN.out.symm
          rw [hit] at CS
          clear ht
          go_wp2_with fail
          refine CS.out.mono ?_
          rintro e w5 ⟨g5, ys, rfl, hrd5, hso, hb5⟩
          have hsz : SortedZ l (fsts ys.toList) := sortedZ (os := ys.toList) (by simpa using hso)
          have heq : out = fsts ys.toList := perm_sorted_eq _ _ HS3.out hsz.up (HP3.out.trans hsz.perm.symm)
          have hyl : ys.size = i3 := by rw [hso.size]; exact hit
          have hkey : ∀ k, k < i3 → ∃ x y, out[k]? = some x ∧ ys[k]! = (x, y) := fun k hk => by
            refine ⟨ys[k]!.1, ys[k]!.2, ?_, rfl⟩
            rw [heq, getElem!_pos ys k (by omega)]
            unfold fsts
            rw [List.getElem?_map, Array.getElem?_toList, Array.getElem?_eq_getElem (by omega)]; rfl
          have HKEY := hidp hkey
          have HRD5 := hidp hrd5
          have HYL := hidp hyl
          have HB35 : Hid (Below w3.heap.size w3 w5) := HB.out.trans (hb5.mono HB.out.size)
          have hnz : ((i3 : Int) != (i3 : Int)) = false := by simp
          clear hso hsz heq hyl hkey hrd5 hb5 CS HO
          go_wp2
          go_loopg [16] i3 (fun g6 vi wr6 => ∃ k : Nat, vi = .int .i64 k ∧ k + g6 = i3 ∧ Hid (∃ q, wr6 = w5.drewN q))
          case atStart => exact ⟨0, rfl, by omega, (show Hid _ from ⟨0, rfl⟩)⟩
          case round =>
            obtain ⟨k, rfl, hg6, HW6⟩ := hrel
            by_cases hk6 : k < i3
            · have hkz : (k : Int) < (i3 : Int) := by omega
              obtain ⟨x, y, hx, hy⟩ := HKEY.out k hk6
              obtain ⟨mb, mo, rfl, _, _, hmr⟩ := (HO3.out.below HB35.out).some (by omega)
              have cx : wr.cell? ⟨mb, mo + k, none⟩ = some (.int .i64 x) := by obtain ⟨q', hq⟩ := HW6.out; rw [hq]; exact hmr.int hx
              obtain ⟨d0, d1⟩ := HRD5.out.2 k (by rw [HYL.out]; exact hk6)
              rw [hy] at d0 d1
              simp only [Nat.zero_add] at d0 d1
              have cy : wr.cell? ⟨g5, k * 2, none⟩ = some (.int .i64 x) := by obtain ⟨q', hq⟩ := HW6.out; rw [hq]; exact d0
              have hne : (x != x) = false := by simp
              clear hx hy hmr d0 d1
              go_wp2_with fail
              go_quiet (fail)
              go_wp2
              go_roundg (i3 - (k + 1))
              case measure => omega
              case rel => exact ⟨k + 1, by go_num, by omega, (show Hid _ from (by obtain ⟨q', hq⟩ := HW6.out; exact ⟨_, by rw [hq, World.drewN_drewN]⟩))⟩
            · have hkz : ¬ (k : Int) < (i3 : Int) := by omega
              go_wp2
              go_ret
              obtain ⟨q', hq⟩ := HW6.out
              exact ⟨rfl, by rw [hq]; exact below_drewN (HB3.out.trans (HB35.out.mono HB3.out.size)) q'⟩
theorem runsSorted_any (v : Value) (xs : List Int) (room : Int) (w : World) (h : SlE EZ w v xs) (hbig : xs.length ≤ 9223372036854775807) :
    Calls Try.prog 3 #[v, .int .i64 room] w fun e w' => e = .returned (.bool true) ∧ Below w.heap.size w w' := by
  obtain ⟨p, cap, rfl, _⟩ := id h
  by_cases h0 : wrongM xs room = 0
  · obtain ⟨_, hr1, _⟩ := wrongM_zero h0
    obtain ⟨k, rfl⟩ : ∃ k : Nat, room = k := ⟨room.toNat, by omega⟩
    exact runsSorted_ok h h0
  · exact runsSorted_bad h hbig h0
#print axioms runsSorted_any
end Go.Proofs.Ytgihlnbmjoffjaa
