/-
  The law OrderSorts, walked: sorted is sorted, and nothing is lost.
-/
import Derived.Test.YtaplomajcdoekaaKnownW
import Derived.Test.YtaplomajcdoekaaOwn
namespace Go.Proofs.Ytaplomajcdoekaa
open Go.RowKit Go.Sort Go.Proofs

/-- Of the first i items those of a key. -/
def fk (xs : Array (Int × Int)) (key : Int) (i : Nat) : List (Int × Int) := (xs.toList.take i).filter (fun x => x.1 == key)
theorem fk_zero (xs : Array (Int × Int)) (key : Int) : fk xs key 0 = [] := by simp [fk]
theorem fk_succ (xs : Array (Int × Int)) (key : Int) (i : Nat) (h : i < xs.size) : fk xs key (i + 1) = if xs[i]!.1 == key then fk xs key i ++ [xs[i]!] else fk xs key i := by
  have hi : i < xs.toList.length := by simpa using h
  unfold fk
  rw [List.take_succ_eq_append_getElem hi, List.filter_append, getD_toList xs i hi]
  split <;> rename_i e <;> simp [e]
theorem fk_len (xs : Array (Int × Int)) (key : Int) (i : Nat) : (fk xs key i).length ≤ i :=
  Nat.le_trans (List.length_filter_le _ _) (List.length_take_le _ _)
theorem fk_all (xs : Array (Int × Int)) (key : Int) : fk xs key xs.size = xs.toList.filter (fun x => x.1 == key) := by
  unfold fk; rw [List.take_of_length_le (by simp)]

set_option maxHeartbeats 4000000 in
theorem orderSorts_bad (p : Option Addr) (cap : Nat) (key : Int) (xs : Array (Int × Int)) (w : World) (h : Sl w (.slice p xs.size cap) xs) (hbig : xs.size ≤ 9223372036854775807) (h0 : wrong xs ≠ 0) :
    Calls Try.prog 4 #[.slice p xs.size cap, .int .i64 key] w fun e w' => e = .returned (.bool true) ∧ Below w.heap.size w w' := by
  have c1 := known_any w
  have c2 := fun w1 (hb : Below w.heap.size w w1) => sort_bad _ xs w1 (h.below hb) hbig _ rfl h0
  have c3 := fun w1 (hb : Below w.heap.size w w1) => check_any _ xs w1 (h.below hb) hbig
  rw [errV_pos h0] at c3
  generalize wrong xs = k at c2 c3
  generalize xs.size = N at c2 c3
  clear h h0
  have C2 : Hid (∀ w1, Below w.heap.size w w1 → Calls Try.prog 9 #[.slice p N cap] w1 fun e w' => e = .returned (.tuple #[.slice none 0 0, .iface 23 (.int .i64 k)]) ∧ Below w1.heap.size w1 w') := c2
  have C3 : Hid (∀ w1, Below w.heap.size w w1 → Calls Try.prog 10 #[.slice p N cap] w1 fun e w' => e = .returned (.iface 23 (.int .i64 k)) ∧ Below w1.heap.size w1 w') := c3
  clear c2 c3
  go_enter Try.func4, Try.ntmps4
  go_wp2_with fail
  refine c1.mono ?_
  rintro e w1 ⟨rfl, hb1⟩
  go_wp2_with fail
  refine (C2.out w1 hb1).mono ?_
  rintro e w2 ⟨rfl, hb2'⟩
  have hb2 := hb1.trans (hb2'.mono hb1.size)
  go_wp2_with fail
  refine (C3.out w2 hb2).mono ?_
  rintro e w3 ⟨rfl, hb3⟩
  go_wp2
  go_ret
  exact ⟨rfl, hb2.trans (hb3.mono hb2.size)⟩

set_option maxHeartbeats 8000000 in
theorem orderSorts_some (blk off N cap : Nat) (key : Int) (xs : Array (Int × Int)) (w : World) (h : RdAt w blk off xs) (hN : xs.size = N) (hcap : N ≤ cap) (h0 : wrong xs = 0) :
    Calls Try.prog 4 #[.slice (some ⟨blk, off, none⟩) N cap, .int .i64 key] w fun e w' => e = .returned (.bool true) ∧ Below w.heap.size w w' := by
  have h60 := wrong_le h0
  have c1 := known_any w
  have c2 := fun w1 (hb : Below w.heap.size w w1) => sort_good _ xs w1 (Sl.of_rd (cap := cap) (h.below hb h.1) (by omega)) h0
  rw [hN] at c2 h60
  have C2 : Hid _ := c2
  clear c2
  have HX : Hid (RdAt w blk off xs) := h
  have HN : Hid (xs.size = N) := hN
  have H0 : Hid (wrong xs = 0) := h0
  clear h hN h0
  go_enter Try.func4, Try.ntmps4
  go_wp2_with fail
  refine c1.mono ?_
  rintro e w1 ⟨rfl, hb1⟩
  go_wp2_with fail
  refine (C2.out w1 hb1).mono ?_
  rintro e w2 ⟨g, ys, rfl, hrd, hso, hb2'⟩
  have hb2 := hb1.trans (hb2'.mono hb1.size)
  have hys : ys.size = N := by rw [hso.size]; exact HN.out
  have hw : wrong ys = 0 := by rw [hso.wrong]; exact H0.out
  have HSO : Hid (Sorts xs ys) := hso
  have HRD : Hid (RdAt w2 g 0 ys) := hrd
  have c3 := sorted_any _ ys w2 (Sl.of_rd (cap := N) hrd (by omega)) (by omega)
  rw [hys, hw, errV_zero, srt_srtB (by exact hso.srt)] at c3
  have HYS : Hid (ys.size = N) := hys
  clear hso hrd hys hw C2
  go_wp2_with fail
  refine c3.mono ?_
  rintro e w3 ⟨rfl, hb3'⟩
  have hb3 := hb2.trans (hb3'.mono hb2.size)
  have hx3 := HX.out.below hb3 HX.out.1
  have hy3 := HRD.out.below hb3' HRD.out.1
  have c4 := bag_any _ _ ys xs w3 (Sl.of_rd (cap := N) hy3 (by have := HYS.out; omega)) (Sl.of_rd (cap := cap) hx3 (by have := HN.out; omega)) (by have := HYS.out; omega)
  rw [HYS.out, HN.out, HSO.out.bag] at c4
  have HX3 : Hid (RdAt w3 blk off xs) := hx3
  have HY3 : Hid (RdAt w3 g 0 ys) := hy3
  clear hx3 hy3 c3 HRD
  go_wp2_with fail
  refine c4.mono ?_
  rintro e w4 ⟨rfl, q4, hw4⟩
  have HX4 : Hid (RdAt w4 blk off xs) := by show RdAt _ _ _ _; rw [hw4]; exact HX3.out
  have HY4 : Hid (RdAt w4 g 0 ys) := by show RdAt _ _ _ _; rw [hw4]; exact HY3.out
  have hb4 : Below w.heap.size w w4 := by rw [hw4]; exact below_drewN hb3 q4
  clear hw4 HX3 HY3 hb3 hb3' hb2 hb2' hb1 c4
  go_wp2
  go_loopg [10, 11, 12] N (fun gg va vb vi wr => ∃ i : Nat, vi = .int .i64 i ∧ i + gg = N ∧ OwnI wr w4.heap.size va (fk xs key i) ∧ OwnI wr w4.heap.size vb (fk ys key i) ∧ Apart va vb ∧ Below w4.heap.size w4 wr)
  case atStart => exact ⟨0, rfl, by omega, by rw [fk_zero]; exact OwnI.nil _ _, by rw [fk_zero]; exact OwnI.nil _ _, Apart.nil _, Below.refl _ _⟩
  case round =>
    obtain ⟨i, rfl, hg, HA, HB, hap, hbr⟩ := hrel
    by_cases hlt : i < N
    · have hlz : (i : Int) < (N : Int) := by omega
      obtain ⟨x0, x1, hx⟩ : ∃ x y, xs[i]! = (x, y) := ⟨_, _, rfl⟩
      obtain ⟨y0, y1, hy⟩ : ∃ x y, ys[i]! = (x, y) := ⟨_, _, rfl⟩
      have hfx := fk_succ xs key i (by rw [HN.out]; exact hlt)
      have hfy := fk_succ ys key i (by rw [HYS.out]; exact hlt)
      rw [hx] at hfx
      rw [hy] at hfy
      have HXX : Hid (xs[i]! = (x0, x1)) := hx
      have HYY : Hid (ys[i]! = (y0, y1)) := hy
      have HFX : Hid (fk xs key (i + 1) = if x0 == key then fk xs key i ++ [(x0, x1)] else fk xs key i) := hfx
      have HFY : Hid (fk ys key (i + 1) = if y0 == key then fk ys key i ++ [(y0, y1)] else fk ys key i) := hfy
      clear hx hy hfx hfy
      have step : ∀ wq, (wq = wr.drew ∨ ∃ n, wq = wr.drewN n) → OwnI wq w4.heap.size u10 (fk xs key i) ∧ OwnI wq w4.heap.size u11 (fk ys key i) ∧ Below w4.heap.size w4 wq := by
        rintro wq (rfl | ⟨n, rfl⟩)
        · exact ⟨HA.drewN 1, HB.drewN 1, hbr.drew⟩
        · exact ⟨HA.drewN n, HB.drewN n, below_drewN hbr n⟩
      have STEP : Hid _ := step
      clear step HA HB
      have HBR : Hid (Below w4.heap.size w4 wr) := hbr
      clear hbr
      by_cases hi0 : 0 < i
      · obtain ⟨ip, rfl⟩ : ∃ ip, i = ip + 1 := ⟨i - 1, by omega⟩
        obtain ⟨z0, z1, hz⟩ : ∃ x y, ys[ip]! = (x, y) := ⟨_, _, rfl⟩
        have hyr := RdAt.below HY4.out HBR.out HY4.out.1
        obtain ⟨cy0, cy1⟩ := hyr.2 (ip + 1) (by rw [HYS.out]; exact hlt)
        obtain ⟨cz0, cz1⟩ := hyr.2 ip (by rw [HYS.out]; omega)
        rw [HYY.out] at cy0 cy1
        rw [hz] at cz0 cz1
        simp only [Nat.zero_add] at cy0 cy1 cz0 cz1
        have hzy : z0 ≤ y0 := by
          have := HSO.out.srt ip (ip + 1) (Nat.zero_le _) (by omega) (by rw [HYS.out]; exact hlt)
          rw [hz, HYY.out] at this; exact this
        have hg0 : (0 : Int) < (ip : Int) + 1 := by omega
        have hwp : IntKind.i64.wrap (ip : Int) = (ip : Int) := by rw [IntKind.wrap_i64]; omega
        have jz : (ip : Int) + 1 < (N : Int) := by omega
        have jz1 : (ip : Int) < (N : Int) := by omega
        have p0 : (0 : Int) ≤ (ip : Int) + 1 := by omega
        have e0 : ((ip : Int) + 1).toNat = ip + 1 := by omega
        have hdz : decide (y0 < z0) = false := decide_eq_false (by omega)
        clear hyr hz
        go_wp2_with fail
        go_quiet (fail)
        obtain ⟨HA, HB, hbr⟩ := STEP.out (wr.drewN nq) (Or.inr ⟨nq, rfl⟩)
        clear cy0 cy1 cz0 cz1
        generalize wr.drewN nq = wq at HA HB hbr ⊢
        have hB4 : w4.heap.size ≤ wq.heap.size := hbr.size
        obtain ⟨cx0, cx1⟩ := (RdAt.below HX4.out hbr HX4.out.1).2 (ip + 1) (by rw [HN.out]; exact hlt)
        rw [HXX.out] at cx0 cx1
        by_cases hxk : x0 = key
        · have qx : (x0 == key) = true := beq_iff_eq.2 hxk
          have ex : fk xs key (ip + 1 + 1) = fk xs key (ip + 1) ++ [(x0, x1)] := by rw [HFX.out, qx]; rfl
          have EX : Hid _ := ex
          clear ex hxk
          by_cases hyk : y0 = key
          · have qy : (y0 == key) = true := beq_iff_eq.2 hyk
            have ey : fk ys key (ip + 1 + 1) = fk ys key (ip + 1) ++ [(y0, y1)] := by rw [HFY.out, qy]; rfl
            have EY : Hid _ := ey
            clear ey hyk
            go_wp2_with (first | (at_builtin; refine wpList_append_item rfl (.tmp 77) (.tmp 82) rfl w4.heap.size u10 (fk xs key (ip + 1)) (x0, x1) ⟨wq.heap.size, 0, none⟩ 1 rfl (HA.alloc _) rfl (by simp) (by simp [Addr.add]) (by have := fk_len xs key (ip + 1); omega) (by simp; omega) ?_; intro va' wa hA' hgA hkA; obtain ⟨HBa, hapA, hbA⟩ := grow_one (.cells #[.int .i64 x0, .int .i64 x1] 36) HA HB hap hbr hB4 hgA hkA; have hBa : w4.heap.size ≤ wa.heap.size := hbA.size; obtain ⟨cy0, cy1⟩ := (RdAt.below HY4.out hbA HY4.out.1).2 (ip + 1) (by rw [HYS.out]; exact hlt); rw [HYY.out] at cy0 cy1; simp only [Nat.zero_add] at cy0 cy1; clear hgA hkA) | (at_builtin; refine wpList_append_item rfl (.tmp 91) (.tmp 96) rfl w4.heap.size u11 (fk ys key (ip + 1)) (y0, y1) ⟨wa.heap.size, 0, none⟩ 1 rfl (HBa.alloc _) rfl (by simp) (by simp [Addr.add]) (by have := fk_len ys key (ip + 1); omega) (by simp; omega) ?_; intro vb' wb hB' hgB hkB; obtain ⟨HAb, hapB, hbB⟩ := grow_one (.cells #[.int .i64 y0, .int .i64 y1] 36) HBa hA' hapA.symm hbA hBa hgB hkB; clear hgB hkB))
            go_roundg (N - (ip + 1 + 1))
            case measure => omega
            case rel => exact ⟨ip + 1 + 1, by go_num, by omega, by rw [EX.out]; exact HAb, by rw [EY.out]; exact hB', hapB.symm, hbB⟩
          · have qy : (y0 == key) = false := beq_eq_false_iff_ne.2 hyk
            have ey : fk ys key (ip + 1 + 1) = fk ys key (ip + 1) := by rw [HFY.out, qy]; rfl
            have EY : Hid _ := ey
            clear ey hyk
            go_wp2_with (first | (at_builtin; refine wpList_append_item rfl (.tmp 77) (.tmp 82) rfl w4.heap.size u10 (fk xs key (ip + 1)) (x0, x1) ⟨wq.heap.size, 0, none⟩ 1 rfl (HA.alloc _) rfl (by simp) (by simp [Addr.add]) (by have := fk_len xs key (ip + 1); omega) (by simp; omega) ?_; intro va' wa hA' hgA hkA; obtain ⟨HBa, hapA, hbA⟩ := grow_one (.cells #[.int .i64 x0, .int .i64 x1] 36) HA HB hap hbr hB4 hgA hkA; have hBa : w4.heap.size ≤ wa.heap.size := hbA.size; obtain ⟨cy0, cy1⟩ := (RdAt.below HY4.out hbA HY4.out.1).2 (ip + 1) (by rw [HYS.out]; exact hlt); rw [HYY.out] at cy0 cy1; simp only [Nat.zero_add] at cy0 cy1; clear hgA hkA))
            go_roundg (N - (ip + 1 + 1))
            case measure => omega
            case rel => exact ⟨ip + 1 + 1, by go_num, by omega, by rw [EX.out]; exact hA', by rw [EY.out]; exact HBa, hapA, hbA⟩
        · have qx : (x0 == key) = false := beq_eq_false_iff_ne.2 hxk
          have ex : fk xs key (ip + 1 + 1) = fk xs key (ip + 1) := by rw [HFX.out, qx]; rfl
          have EX : Hid _ := ex
          clear ex hxk
          obtain ⟨cy0, cy1⟩ := (RdAt.below HY4.out hbr HY4.out.1).2 (ip + 1) (by rw [HYS.out]; exact hlt)
          rw [HYY.out] at cy0 cy1
          simp only [Nat.zero_add] at cy0 cy1
          by_cases hyk : y0 = key
          · have qy : (y0 == key) = true := beq_iff_eq.2 hyk
            have ey : fk ys key (ip + 1 + 1) = fk ys key (ip + 1) ++ [(y0, y1)] := by rw [HFY.out, qy]; rfl
            have EY : Hid _ := ey
            clear ey hyk
            go_wp2_with (first | (at_builtin; refine wpList_append_item rfl (.tmp 91) (.tmp 96) rfl w4.heap.size u11 (fk ys key (ip + 1)) (y0, y1) ⟨wq.heap.size, 0, none⟩ 1 rfl (HB.alloc _) rfl (by simp) (by simp [Addr.add]) (by have := fk_len ys key (ip + 1); omega) (by simp; omega) ?_; intro vb' wb hB' hgB hkB; obtain ⟨HAb, hapB, hbB⟩ := grow_one (.cells #[.int .i64 y0, .int .i64 y1] 36) HB HA hap.symm hbr hB4 hgB hkB; clear hgB hkB))
            go_roundg (N - (ip + 1 + 1))
            case measure => omega
            case rel => exact ⟨ip + 1 + 1, by go_num, by omega, by rw [EX.out]; exact HAb, by rw [EY.out]; exact hB', hapB.symm, hbB⟩
          · have qy : (y0 == key) = false := beq_eq_false_iff_ne.2 hyk
            have ey : fk ys key (ip + 1 + 1) = fk ys key (ip + 1) := by rw [HFY.out, qy]; rfl
            have EY : Hid _ := ey
            clear ey hyk
            go_wp2
            go_roundg (N - (ip + 1 + 1))
            case measure => omega
            case rel => exact ⟨ip + 1 + 1, by go_num, by omega, by rw [EX.out]; exact HA, by rw [EY.out]; exact HB, hap, hbr⟩
      · have hi00 : i = 0 := by omega
        have hg0 : decide ((0 : Int) < (i : Int)) = false := decide_eq_false (by omega)
        have hg1 : ¬ (0 : Int) < (i : Int) := by omega
        have HI0 : Hid _ := hi00
        clear hi00
        go_wp2_with fail
        go_region
        obtain ⟨HA, HB, hbr⟩ := STEP.out wr.drew (Or.inl rfl)
        generalize wr.drew = wq at HA HB hbr ⊢
        have hB4 : w4.heap.size ≤ wq.heap.size := hbr.size
        obtain ⟨cx0, cx1⟩ := (RdAt.below HX4.out hbr HX4.out.1).2 i (by rw [HN.out]; exact hlt)
        rw [HXX.out] at cx0 cx1
        by_cases hxk : x0 = key
        · have qx : (x0 == key) = true := beq_iff_eq.2 hxk
          have ex : fk xs key (i + 1) = fk xs key i ++ [(x0, x1)] := by rw [HFX.out, qx]; rfl
          have EX : Hid _ := ex
          clear ex hxk
          by_cases hyk : y0 = key
          · have qy : (y0 == key) = true := beq_iff_eq.2 hyk
            have ey : fk ys key (i + 1) = fk ys key i ++ [(y0, y1)] := by rw [HFY.out, qy]; rfl
            have EY : Hid _ := ey
            clear ey hyk
            go_wp2_with (first | (at_builtin; refine wpList_append_item rfl (.tmp 77) (.tmp 82) rfl w4.heap.size u10 (fk xs key i) (x0, x1) ⟨wq.heap.size, 0, none⟩ 1 rfl (HA.alloc _) rfl (by simp) (by simp [Addr.add]) (by have := fk_len xs key i; omega) (by simp; omega) ?_; intro va' wa hA' hgA hkA; obtain ⟨HBa, hapA, hbA⟩ := grow_one (.cells #[.int .i64 x0, .int .i64 x1] 36) HA HB hap hbr hB4 hgA hkA; have hBa : w4.heap.size ≤ wa.heap.size := hbA.size; obtain ⟨cy0, cy1⟩ := (RdAt.below HY4.out hbA HY4.out.1).2 i (by rw [HYS.out]; exact hlt); rw [HYY.out] at cy0 cy1; simp only [Nat.zero_add] at cy0 cy1; clear hgA hkA) | (at_builtin; refine wpList_append_item rfl (.tmp 91) (.tmp 96) rfl w4.heap.size u11 (fk ys key i) (y0, y1) ⟨wa.heap.size, 0, none⟩ 1 rfl (HBa.alloc _) rfl (by simp) (by simp [Addr.add]) (by have := fk_len ys key i; omega) (by simp; omega) ?_; intro vb' wb hB' hgB hkB; obtain ⟨HAb, hapB, hbB⟩ := grow_one (.cells #[.int .i64 y0, .int .i64 y1] 36) HBa hA' hapA.symm hbA hBa hgB hkB; clear hgB hkB))
            go_roundg (N - (i + 1))
            case measure => omega
            case rel => exact ⟨i + 1, by go_num, by omega, by rw [EX.out]; exact HAb, by rw [EY.out]; exact hB', hapB.symm, hbB⟩
          · have qy : (y0 == key) = false := beq_eq_false_iff_ne.2 hyk
            have ey : fk ys key (i + 1) = fk ys key i := by rw [HFY.out, qy]; rfl
            have EY : Hid _ := ey
            clear ey hyk
            go_wp2_with (first | (at_builtin; refine wpList_append_item rfl (.tmp 77) (.tmp 82) rfl w4.heap.size u10 (fk xs key i) (x0, x1) ⟨wq.heap.size, 0, none⟩ 1 rfl (HA.alloc _) rfl (by simp) (by simp [Addr.add]) (by have := fk_len xs key i; omega) (by simp; omega) ?_; intro va' wa hA' hgA hkA; obtain ⟨HBa, hapA, hbA⟩ := grow_one (.cells #[.int .i64 x0, .int .i64 x1] 36) HA HB hap hbr hB4 hgA hkA; have hBa : w4.heap.size ≤ wa.heap.size := hbA.size; obtain ⟨cy0, cy1⟩ := (RdAt.below HY4.out hbA HY4.out.1).2 i (by rw [HYS.out]; exact hlt); rw [HYY.out] at cy0 cy1; simp only [Nat.zero_add] at cy0 cy1; clear hgA hkA))
            go_roundg (N - (i + 1))
            case measure => omega
            case rel => exact ⟨i + 1, by go_num, by omega, by rw [EX.out]; exact hA', by rw [EY.out]; exact HBa, hapA, hbA⟩
        · have qx : (x0 == key) = false := beq_eq_false_iff_ne.2 hxk
          have ex : fk xs key (i + 1) = fk xs key i := by rw [HFX.out, qx]; rfl
          have EX : Hid _ := ex
          clear ex hxk
          obtain ⟨cy0, cy1⟩ := (RdAt.below HY4.out hbr HY4.out.1).2 i (by rw [HYS.out]; exact hlt)
          rw [HYY.out] at cy0 cy1
          simp only [Nat.zero_add] at cy0 cy1
          by_cases hyk : y0 = key
          · have qy : (y0 == key) = true := beq_iff_eq.2 hyk
            have ey : fk ys key (i + 1) = fk ys key i ++ [(y0, y1)] := by rw [HFY.out, qy]; rfl
            have EY : Hid _ := ey
            clear ey hyk
            go_wp2_with (first | (at_builtin; refine wpList_append_item rfl (.tmp 91) (.tmp 96) rfl w4.heap.size u11 (fk ys key i) (y0, y1) ⟨wq.heap.size, 0, none⟩ 1 rfl (HB.alloc _) rfl (by simp) (by simp [Addr.add]) (by have := fk_len ys key i; omega) (by simp; omega) ?_; intro vb' wb hB' hgB hkB; obtain ⟨HAb, hapB, hbB⟩ := grow_one (.cells #[.int .i64 y0, .int .i64 y1] 36) HB HA hap.symm hbr hB4 hgB hkB; clear hgB hkB))
            go_roundg (N - (i + 1))
            case measure => omega
            case rel => exact ⟨i + 1, by go_num, by omega, by rw [EX.out]; exact HAb, by rw [EY.out]; exact hB', hapB.symm, hbB⟩
          · have qy : (y0 == key) = false := beq_eq_false_iff_ne.2 hyk
            have ey : fk ys key (i + 1) = fk ys key i := by rw [HFY.out, qy]; rfl
            have EY : Hid _ := ey
            clear ey hyk
            go_wp2
            go_roundg (N - (i + 1))
            case measure => omega
            case rel => exact ⟨i + 1, by go_num, by omega, by rw [EX.out]; exact HA, by rw [EY.out]; exact HB, hap, hbr⟩
    · have hlz : ¬ (i : Int) < (N : Int) := by omega
      obtain rfl : i = N := by omega
      have c5 := items_any u10 u11 _ _ wr HA.sl HB.sl (by have := fk_len xs key i; simp; omega)
      have ea : fk xs key i = fk ys key i := by
        have e1 := fk_all xs key
        have e2 := fk_all ys key
        rw [HN.out] at e1
        rw [HYS.out] at e2
        rw [e1, e2]; exact HSO.out.st key
      rw [ea, decide_eq_true rfl] at c5
      clear ea
      go_wp2_with fail
      refine c5.mono ?_
      rintro e w5 ⟨rfl, q5, hw5⟩
      have hb5 : Below w.heap.size w w5 := by rw [hw5]; exact below_drewN (hb4.trans (hbr.mono hb4.size)) q5
      clear hw5
      go_wp2
      go_ret
      exact ⟨rfl, hb5⟩

set_option maxHeartbeats 4000000 in
theorem orderSorts_none (p : Option Addr) (cap : Nat) (key : Int) (w : World) :
    Calls Try.prog 4 #[.slice p 0 cap, .int .i64 key] w fun e w' => e = .returned (.bool true) ∧ Below w.heap.size w w' := by
  have hs : ∀ w1, Sl w1 (.slice p 0 cap) #[] := fun w1 => ⟨p, cap, rfl, Nat.zero_le _, Or.inl rfl⟩
  have c1 := known_any w
  have c2 := fun w1 => sort_good (.slice p 0 cap) #[] w1 (hs w1) (by decide)
  change ∀ w1, Calls Try.prog 9 #[.slice p 0 cap] w1 (fun e w' => ∃ g ys, e = .returned (.tuple #[.slice (some ⟨g, 0, none⟩) 0 0, .nilIface]) ∧ _) at c2
  have C2 : Hid _ := c2
  clear c2
  go_enter Try.func4, Try.ntmps4
  go_wp2_with fail
  refine c1.mono ?_
  rintro e w1 ⟨rfl, hb1⟩
  go_wp2_with fail
  refine (C2.out w1).mono ?_
  rintro e w2 ⟨g, ys, rfl, hrd, hso, hb2'⟩
  have hb2 := hb1.trans (hb2'.mono hb1.size)
  have e0 : ys = #[] := Array.eq_empty_of_size_eq_zero (by rw [hso.size]; rfl)
  subst e0
  have c3 := sorted_any (.slice (some ⟨g, 0, none⟩) 0 0) #[] w2 ⟨_, 0, rfl, Nat.le_refl _, Or.inl rfl⟩ (by decide)
  rw [show wrong #[] = 0 by decide, errV_zero, show srtB #[] = true by decide] at c3
  clear hrd hso C2
  go_wp2_with fail
  refine c3.mono ?_
  rintro e w3 ⟨rfl, hb3'⟩
  have hb3 := hb2.trans (hb3'.mono hb2.size)
  have c4 := bag_none (some ⟨g, 0, none⟩) p 0 cap w3
  go_wp2_with fail
  refine c4.mono ?_
  rintro e w4 ⟨rfl, q4, hw4⟩
  have hb4 : Below w.heap.size w w4 := by rw [hw4]; exact below_drewN hb3 q4
  clear hw4 hb3 hb3' hb2 hb2' hb1 c4 c3
  have c5 := fun w5 => items_none none none 0 0 w5
  go_wp2
  go_loopg [10, 11, 12] 0 (fun gg va vb vi wr => va = .slice none 0 0 ∧ vb = .slice none 0 0 ∧ vi = .int .i64 0 ∧ Below w.heap.size w wr)
  case atStart => exact ⟨rfl, rfl, rfl, hb4⟩
  case round =>
    obtain ⟨rfl, rfl, rfl, hbr⟩ := hrel
    go_wp2_with fail
    refine (c5 _).mono ?_
    rintro e w5 ⟨rfl, q5, hw5⟩
    have hb5 : Below w.heap.size w w5 := by rw [hw5]; exact below_drewN hbr q5
    clear hw5
    go_wp2
    go_ret
    exact ⟨rfl, hb5⟩

theorem orderSorts_any (v : Value) (key : Int) (xs : Array (Int × Int)) (w : World) (h : Sl w v xs) (hbig : xs.size ≤ 9223372036854775807) :
    Calls Try.prog 4 #[v, .int .i64 key] w fun e w' => e = .returned (.bool true) ∧ Below w.heap.size w w' := by
  obtain ⟨p, cap, rfl, hcap, hp⟩ := id h
  by_cases h0 : wrong xs = 0
  · rcases hp with hp | ⟨blk, off, rfl, hr⟩
    · have e0 : xs = #[] := Array.eq_empty_of_size_eq_zero hp
      subst e0
      exact orderSorts_none p cap key w
    · exact orderSorts_some blk off xs.size cap key xs w hr rfl hcap h0
  · exact orderSorts_bad p cap key xs w h hbig h0
end Go.Proofs.Ytaplomajcdoekaa
