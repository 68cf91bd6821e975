/-
  The law OrderOne, walked: there is just one such order.
-/
import Derived.Test.YtaplomajcdoekaaLawSorts
namespace Go.Proofs.Ytaplomajcdoekaa
open Go.RowKit Go.Sort Go.Proofs

/-- A list that has the same items, does not fall, and keeps those of one key as they stood. -/
theorem one_order {xs ys zs : Array (Int × Int)} (hso : Sorts xs ys) (hb : bagB xs zs = true) (h1 : ∀ t, 0 < t → t < zs.size → zs[t - 1]!.1 ≤ zs[t]!.1)
    (h2 : ∀ t, t < zs.size → xs.toList.filter (fun x => x.1 == zs[t]!.1) = zs.toList.filter (fun x => x.1 == zs[t]!.1)) : ys = zs := by
  obtain ⟨hs, hc⟩ := bagB_elim hb
  refine sorted_unique hso.srt (srtB_srt (srtB_true fun i hi => by have := h1 (i + 1) (by omega) hi; simpa using this)) (hso.st.symm.trans fun k => ?_)
  by_cases hk : ∃ t, t < zs.size ∧ zs[t]!.1 = k
  · obtain ⟨t, ht, rfl⟩ := hk
    exact h2 t ht
  · have e2 : zs.toList.filter (fun x => x.1 == k) = [] := by
      rw [List.filter_eq_nil_iff]
      intro x hx
      obtain ⟨t, ht, rfl⟩ := List.getElem_of_mem hx
      rw [getD_toList]
      simp only [beq_iff_eq]
      exact fun e => hk ⟨t, by simpa using ht, e⟩
    have e1 : xs.toList.filter (fun x => x.1 == k) = [] := by
      rw [List.filter_eq_nil_iff]
      intro x hx
      simp only [beq_iff_eq]
      intro e
      have hcx := hc x hx
      have hpos : 0 < xs.toList.count x := List.count_pos_iff.2 hx
      rw [hcx] at hpos
      obtain ⟨t, ht, e3⟩ := List.getElem_of_mem (List.count_pos_iff.1 hpos)
      rw [getD_toList] at e3
      exact hk ⟨t, by simpa using ht, by rw [e3]; exact e⟩
    rw [e1, e2]

set_option maxHeartbeats 3000000 in
set_option maxRecDepth 4000 in
theorem orderOne_some (blk off cap b2 o2 c2 N : Nat) (xs zs : Array (Int × Int)) (w : World) (h : RdAt w blk off xs) (h2 : RdAt w b2 o2 zs) (hN : xs.size = N) (hM : zs.size = N) (hcap : N ≤ cap) (hcap2 : N ≤ c2) (h0 : wrong xs = 0) (hbag : bagB xs zs = true) :
    Calls Try.prog 5 #[.slice (some ⟨blk, off, none⟩) N cap, .slice (some ⟨b2, o2, none⟩) N c2] w fun e w' => e = .returned (.bool true) ∧ Below w.heap.size w w' := by
  have h60 := wrong_le h0
  have c1 := known_any w
  have cs := fun w1 (hb : Below w.heap.size w w1) => sort_good _ xs w1 (Sl.of_rd (cap := cap) (h.below hb h.1) (by omega)) h0
  rw [hN] at cs h60
  have C2 : Hid _ := cs
  clear cs
  have HX : Hid (RdAt w blk off xs) := h
  have HZ : Hid (RdAt w b2 o2 zs) := h2
  have HN : Hid (xs.size = N) := hN
  have HM : Hid (zs.size = N) := hM
  have HBG : Hid (bagB xs zs = true) := hbag
  clear h h2 hN hM h0 hbag
  go_enter Try.func5, Try.ntmps5
  go_wp2_with fail
  refine c1.mono ?_
  rintro e w1 ⟨rfl, hb1⟩
  go_wp2_with fail
  refine (C2.out w1 hb1).mono ?_
  rintro e w2 ⟨g, ys, rfl, hrd, hso, hb2'⟩
  have hb2 := hb1.trans (hb2'.mono hb1.size)
  have HYS : Hid (ys.size = N) := by show _ = _; rw [hso.size]; exact HN.out
  have HSO : Hid (Sorts xs ys) := hso
  have HY2 : Hid (RdAt w2 g 0 ys) := hrd
  clear hso hrd C2
  have c3 := bag_any _ _ xs zs w2 (Sl.of_rd (cap := cap) (HX.out.below hb2 HX.out.1) (by have := HN.out; omega)) (Sl.of_rd (cap := c2) (HZ.out.below hb2 HZ.out.1) (by have := HM.out; omega)) (by have := HN.out; omega)
  rw [HN.out, HM.out, HBG.out] at c3
  go_wp2_with fail
  refine c3.mono ?_
  rintro e w4 ⟨rfl, q4, hw4⟩
  have hb4 : Below w.heap.size w w4 := by rw [hw4]; exact below_drewN hb2 q4
  have HX4 : Hid (RdAt w4 blk off xs) := HX.out.below hb4 HX.out.1
  have HZ4 : Hid (RdAt w4 b2 o2 zs) := HZ.out.below hb4 HZ.out.1
  have HY4 : Hid (RdAt w4 g 0 ys) := by show RdAt _ _ _ _; rw [hw4]; exact HY2.out
  clear hw4 hb2 hb2' hb1 c3 HX HZ HY2
  go_wp2
  go_loopg [8] N (fun gg vi wr => ∃ i : Nat, vi = .int .i64 i ∧ i + gg = N ∧ Below w4.heap.size w4 wr ∧
    Aside ((∀ t, 0 < t → t < i → zs[t - 1]!.1 ≤ zs[t]!.1) ∧ ∀ t, t < i → xs.toList.filter (fun x => x.1 == zs[t]!.1) = zs.toList.filter (fun x => x.1 == zs[t]!.1)))
  case atStart => exact ⟨0, rfl, by omega, Below.refl _ _, (show Aside _ from ⟨fun t _ h => by omega, fun t h => by omega⟩)⟩
  case round =>
    obtain ⟨i, rfl, hg, hbo, HO⟩ := hrel
    obtain ⟨wo, rfl⟩ : ∃ wo : World, wo = wr := ⟨_, rfl⟩
    by_cases hlt : i < N
    · have hlz : (i : Int) < (N : Int) := by omega
      obtain ⟨t0, t1, ht⟩ : ∃ x y, zs[i]! = (x, y) := ⟨_, _, rfl⟩
      have HTT : Hid (zs[i]! = (t0, t1)) := ht
      clear ht
      by_cases hi0 : 0 < i
      · obtain ⟨s0, s1, hs⟩ : ∃ x y, zs[i - 1]! = (x, y) := ⟨_, _, rfl⟩
        have hzr := RdAt.below HZ4.out hbo HZ4.out.1
        obtain ⟨ct0, ct1⟩ := hzr.2 i (by rw [HM.out]; exact hlt)
        obtain ⟨cs0, cs1⟩ := hzr.2 (i - 1) (by rw [HM.out]; omega)
        rw [HTT.out] at ct0 ct1
        rw [hs] at cs0 cs1
        have hg0 : (0 : Int) < (i : Int) := by omega
        have hwp : IntKind.i64.wrap ((i : Int) - 1) = ((i - 1 : Nat) : Int) := by rw [IntKind.wrap_i64]; omega
        have jz1 : ((i - 1 : Nat) : Int) < (N : Int) := by omega
        have HSS : Hid (zs[i - 1]! = (s0, s1)) := hs
        obtain ⟨im, him⟩ : ∃ im, im = i - 1 := ⟨_, rfl⟩
        rw [← him] at cs0 cs1 hwp jz1
        have HIM : Hid (im = i - 1) := him
        clear hzr hs him
        by_cases hts : t0 < s0
        · have hdz : decide (t0 < s0) = true := decide_eq_true hts
          go_wp2_with fail
          go_quiet (fail)
          go_wp2
          go_ret
          exact ⟨rfl, below_drewN (hb4.trans (hbo.mono hb4.size)) nq⟩
        · have hdz : decide (t0 < s0) = false := decide_eq_false hts
          have HLE : Hid (0 < i → zs[i - 1]!.1 ≤ zs[i]!.1) := by show _ → _; intro _; rw [HSS.out, HTT.out]; show s0 ≤ t0; omega
          go_wp2_with fail
          go_quiet (fail)
          have hbq := below_drewN hbo nq
          clear cs0 cs1 ct0 ct1 hdz hts hwp jz1 hbo
          generalize wo.drewN nq = wq0 at hbq ⊢
          have HOB : Hid (Below w4.heap.size w4 wq0) := hbq
          go_wp2
          go_loopg [9, 10, 11] N (fun gg va vb vj wr => ∃ j : Nat, vj = .int .i64 j ∧ j + gg = N ∧ OwnI wr w4.heap.size va (fk xs t0 j) ∧ OwnI wr w4.heap.size vb (fk zs t0 j) ∧ Apart va vb ∧ Below w4.heap.size w4 wr)
          case atStart => exact ⟨0, rfl, by omega, by rw [fk_zero]; exact OwnI.nil _ _, by rw [fk_zero]; exact OwnI.nil _ _, Apart.nil _, HOB.out⟩
          case round =>
            obtain ⟨j, rfl, hgj, HA, HB, hap, hbr⟩ := hrel
            by_cases hjt : j < N
            · have hjz : (j : Int) < (N : Int) := by omega
              obtain ⟨x0, x1, hx⟩ : ∃ x y, xs[j]! = (x, y) := ⟨_, _, rfl⟩
              obtain ⟨z0, z1, hz⟩ : ∃ x y, zs[j]! = (x, y) := ⟨_, _, rfl⟩
              have hfx := fk_succ xs t0 j (by rw [HN.out]; exact hjt)
              have hfz := fk_succ zs t0 j (by rw [HM.out]; exact hjt)
              rw [hx] at hfx
              rw [hz] at hfz
              obtain ⟨cx0, cx1⟩ := (RdAt.below HX4.out hbr HX4.out.1).2 j (by rw [HN.out]; exact hjt)
              obtain ⟨cz0, cz1⟩ := (RdAt.below HZ4.out hbr HZ4.out.1).2 j (by rw [HM.out]; exact hjt)
              obtain ⟨ct0, ct1⟩ := (RdAt.below HZ4.out hbr HZ4.out.1).2 i (by rw [HM.out]; exact hlt)
              rw [hx] at cx0 cx1
              rw [hz] at cz0 cz1
              rw [HTT.out] at ct0 ct1
              have HXX : Hid (xs[j]! = (x0, x1)) := hx
              have HZZ : Hid (zs[j]! = (z0, z1)) := hz
              have HFX : Hid (fk xs t0 (j + 1) = if x0 == t0 then fk xs t0 j ++ [(x0, x1)] else fk xs t0 j) := hfx
              have HFZ : Hid (fk zs t0 (j + 1) = if z0 == t0 then fk zs t0 j ++ [(z0, z1)] else fk zs t0 j) := hfz
              clear hx hz hfx hfz
              have step : ∀ n, OwnI (wr.drewN n) w4.heap.size u9 (fk xs t0 j) ∧ OwnI (wr.drewN n) w4.heap.size u10 (fk zs t0 j) ∧ Below w4.heap.size w4 (wr.drewN n) := fun n => ⟨HA.drewN n, HB.drewN n, below_drewN hbr n⟩
              have STEP : Hid _ := step
              clear step HA HB hbr
              by_cases hxk : x0 = t0
              · have qx : (x0 == t0) = true := beq_iff_eq.2 hxk
                have ex : fk xs t0 (j + 1) = fk xs t0 j ++ [(x0, x1)] := by rw [HFX.out, qx]; rfl
                have EX : Hid _ := ex
                clear ex hxk
                go_wp2_with fail
                go_quiet (fail)
                obtain ⟨HA, HB, hbr⟩ := STEP.out nq
                clear cx0 cx1 cz0 cz1 ct0 ct1
                generalize wr.drewN nq = wq at HA HB hbr ⊢
                have hB4 : w4.heap.size ≤ wq.heap.size := hbr.size
                obtain ⟨cx0, cx1⟩ := (RdAt.below HX4.out hbr HX4.out.1).2 j (by rw [HN.out]; exact hjt)
                rw [HXX.out] at cx0 cx1
                go_wp2_with (first | (at_builtin; refine wpList_append_item rfl (.tmp 67) (.tmp 72) rfl w4.heap.size u9 (fk xs t0 j) (x0, x1) ⟨wq.heap.size, 0, none⟩ 1 rfl (HA.alloc _) rfl (by simp) (by simp [Addr.add]) (by have := fk_len xs t0 j; omega) (by simp; omega) ?_; intro va' wa hA' hgA hkA; obtain ⟨HBa, hapA, hbA⟩ := grow_one (.cells #[.int .i64 x0, .int .i64 x1] 36) HA HB hap hbr hB4 hgA hkA; clear hgA hkA))
                have hbr1 := hbA
                have HA1 := hA'
                have HB1 := HBa
                have hap1 := hapA
                clear cx0 cx1 hbA hA' HBa hapA
                generalize wa = wc at hbr1 HA1 HB1 ⊢
                obtain ⟨cz0, cz1⟩ := (RdAt.below HZ4.out hbr1 HZ4.out.1).2 j (by rw [HM.out]; exact hjt)
                obtain ⟨ct0, ct1⟩ := (RdAt.below HZ4.out hbr1 HZ4.out.1).2 i (by rw [HM.out]; exact hlt)
                rw [HZZ.out] at cz0 cz1
                rw [HTT.out] at ct0 ct1
                have step2 : ∀ n, OwnI (wc.drewN n) w4.heap.size _ _ ∧ OwnI (wc.drewN n) w4.heap.size _ _ ∧ Below w4.heap.size w4 (wc.drewN n) := fun n => ⟨HA1.drewN n, HB1.drewN n, below_drewN hbr1 n⟩
                have STEP2 : Hid _ := step2
                clear step2 HA1 HB1 hbr1
                by_cases hzk : z0 = t0
                · have qz : (z0 == t0) = true := beq_iff_eq.2 hzk
                  have ez : fk zs t0 (j + 1) = fk zs t0 j ++ [(z0, z1)] := by rw [HFZ.out, qz]; rfl
                  have EZ : Hid _ := ez
                  clear ez hzk
                  go_quiet (fail)
                  obtain ⟨HA2, HB2, hbr2⟩ := STEP2.out nq
                  clear cz0 cz1 ct0 ct1 STEP2
                  have hap2 := hap1
                  generalize wc.drewN nq = wp at HA2 HB2 hbr2 ⊢
                  have hB5 : w4.heap.size ≤ wp.heap.size := hbr2.size
                  obtain ⟨cz0, cz1⟩ := (RdAt.below HZ4.out hbr2 HZ4.out.1).2 j (by rw [HM.out]; exact hjt)
                  rw [HZZ.out] at cz0 cz1
                  go_wp2_with (first | (at_builtin; refine wpList_append_item rfl (.tmp 85) (.tmp 90) rfl w4.heap.size u10 (fk zs t0 j) (z0, z1) ⟨wp.heap.size, 0, none⟩ 1 rfl (HB2.alloc _) rfl (by simp) (by simp [Addr.add]) (by have := fk_len zs t0 j; omega) (by simp; omega) ?_; intro vb' wb hB' hgB hkB; obtain ⟨HAb, hapB, hbB⟩ := grow_one (.cells #[.int .i64 z0, .int .i64 z1] 36) HB2 HA2 hap2.symm hbr2 hB5 hgB hkB; clear hgB hkB))
                  go_roundg (N - (j + 1))
                  case measure => omega
                  case rel => exact ⟨j + 1, by go_num, by omega, by rw [EX.out]; exact HAb, by rw [EZ.out]; exact hB', hapB.symm, hbB⟩
                · have qz : (z0 == t0) = false := beq_eq_false_iff_ne.2 hzk
                  have ez : fk zs t0 (j + 1) = fk zs t0 j := by rw [HFZ.out, qz]; rfl
                  have EZ : Hid _ := ez
                  clear ez hzk
                  go_quiet (fail)
                  obtain ⟨HA2, HB2, hbr2⟩ := STEP2.out nq
                  clear cz0 cz1 ct0 ct1 STEP2
                  have hap2 := hap1
                  generalize wc.drewN nq = wp at HA2 HB2 hbr2 ⊢
                  have hB5 : w4.heap.size ≤ wp.heap.size := hbr2.size
                  go_wp2
                  go_roundg (N - (j + 1))
                  case measure => omega
                  case rel => exact ⟨j + 1, by go_num, by omega, by rw [EX.out]; exact HA2, by rw [EZ.out]; exact HB2, hap2, hbr2⟩
              · have qx : (x0 == t0) = false := beq_eq_false_iff_ne.2 hxk
                have ex : fk xs t0 (j + 1) = fk xs t0 j := by rw [HFX.out, qx]; rfl
                have EX : Hid _ := ex
                clear ex hxk
                go_wp2_with fail
                go_quiet (fail)
                obtain ⟨HA, HB, hbr⟩ := STEP.out nq
                clear cx0 cx1 cz0 cz1 ct0 ct1
                generalize wr.drewN nq = wq at HA HB hbr ⊢
                have hB4 : w4.heap.size ≤ wq.heap.size := hbr.size
                have hbr1 := hbr
                have HA1 := HA
                have HB1 := HB
                have hap1 := hap
                go_wp2_with fail
                clear hbr HA HB
                generalize wq = wc at hbr1 HA1 HB1 hB4 ⊢
                obtain ⟨cz0, cz1⟩ := (RdAt.below HZ4.out hbr1 HZ4.out.1).2 j (by rw [HM.out]; exact hjt)
                obtain ⟨ct0, ct1⟩ := (RdAt.below HZ4.out hbr1 HZ4.out.1).2 i (by rw [HM.out]; exact hlt)
                rw [HZZ.out] at cz0 cz1
                rw [HTT.out] at ct0 ct1
                have step2 : ∀ n, OwnI (wc.drewN n) w4.heap.size _ _ ∧ OwnI (wc.drewN n) w4.heap.size _ _ ∧ Below w4.heap.size w4 (wc.drewN n) := fun n => ⟨HA1.drewN n, HB1.drewN n, below_drewN hbr1 n⟩
                have STEP2 : Hid _ := step2
                clear step2 HA1 HB1 hbr1
                by_cases hzk : z0 = t0
                · have qz : (z0 == t0) = true := beq_iff_eq.2 hzk
                  have ez : fk zs t0 (j + 1) = fk zs t0 j ++ [(z0, z1)] := by rw [HFZ.out, qz]; rfl
                  have EZ : Hid _ := ez
                  clear ez hzk
                  go_quiet (fail)
                  obtain ⟨HA2, HB2, hbr2⟩ := STEP2.out nq
                  clear cz0 cz1 ct0 ct1 STEP2
                  have hap2 := hap1
                  generalize wc.drewN nq = wp at HA2 HB2 hbr2 ⊢
                  have hB5 : w4.heap.size ≤ wp.heap.size := hbr2.size
                  obtain ⟨cz0, cz1⟩ := (RdAt.below HZ4.out hbr2 HZ4.out.1).2 j (by rw [HM.out]; exact hjt)
                  rw [HZZ.out] at cz0 cz1
                  go_wp2_with (first | (at_builtin; refine wpList_append_item rfl (.tmp 85) (.tmp 90) rfl w4.heap.size u10 (fk zs t0 j) (z0, z1) ⟨wp.heap.size, 0, none⟩ 1 rfl (HB2.alloc _) rfl (by simp) (by simp [Addr.add]) (by have := fk_len zs t0 j; omega) (by simp; omega) ?_; intro vb' wb hB' hgB hkB; obtain ⟨HAb, hapB, hbB⟩ := grow_one (.cells #[.int .i64 z0, .int .i64 z1] 36) HB2 HA2 hap2.symm hbr2 hB5 hgB hkB; clear hgB hkB))
                  go_roundg (N - (j + 1))
                  case measure => omega
                  case rel => exact ⟨j + 1, by go_num, by omega, by rw [EX.out]; exact HAb, by rw [EZ.out]; exact hB', hapB.symm, hbB⟩
                · have qz : (z0 == t0) = false := beq_eq_false_iff_ne.2 hzk
                  have ez : fk zs t0 (j + 1) = fk zs t0 j := by rw [HFZ.out, qz]; rfl
                  have EZ : Hid _ := ez
                  clear ez hzk
                  go_quiet (fail)
                  obtain ⟨HA2, HB2, hbr2⟩ := STEP2.out nq
                  clear cz0 cz1 ct0 ct1 STEP2
                  have hap2 := hap1
                  generalize wc.drewN nq = wp at HA2 HB2 hbr2 ⊢
                  have hB5 : w4.heap.size ≤ wp.heap.size := hbr2.size
                  go_wp2
                  go_roundg (N - (j + 1))
                  case measure => omega
                  case rel => exact ⟨j + 1, by go_num, by omega, by rw [EX.out]; exact HA2, by rw [EZ.out]; exact HB2, hap2, hbr2⟩
            · have hjz : ¬ (j : Int) < (N : Int) := by omega
              have hjN : j = N := by omega
              have ea1 : fk xs t0 j = xs.toList.filter (fun x => x.1 == t0) := by rw [hjN, ← HN.out]; exact fk_all xs t0
              have ea2 : fk zs t0 j = zs.toList.filter (fun x => x.1 == t0) := by rw [hjN, ← HM.out]; exact fk_all zs t0
              have c5 := items_any u9 u10 _ _ wr HA.sl HB.sl (by have := fk_len xs t0 j; simp; omega)
              by_cases he : fk xs t0 j = fk zs t0 j
              · rw [he, decide_eq_true rfl] at c5
                have HE : Hid (xs.toList.filter (fun x => x.1 == t0) = zs.toList.filter (fun x => x.1 == t0)) := by show _ = _; rw [← ea1, ← ea2]; exact he
                clear he ea1 ea2 hjN
                go_wp2_with fail
                refine c5.mono ?_
                rintro e w5 ⟨rfl, q5, hw5⟩
                have hb5 : Below w4.heap.size w4 w5 := by rw [hw5]; exact below_drewN hbr q5
                clear hw5 c5
                go_wp2
                go_roundg (N - (i + 1))
                case measure => omega
                case rel =>
                  refine ⟨i + 1, by go_num, by omega, hb5, (show Aside _ from ⟨fun t h1 h2 => ?_, fun t h1 => ?_⟩)⟩
                  · rcases Nat.lt_or_ge t i with c | c
                    · exact HO.out.1 t h1 c
                    · obtain rfl : t = i := by omega
                      exact HLE.out h1
                  · rcases Nat.lt_or_ge t i with c | c
                    · exact HO.out.2 t c
                    · obtain rfl : t = i := by omega
                      rw [HTT.out]; exact HE.out
              · rw [decide_eq_false (fun e => he (by simpa using e))] at c5
                clear he ea1 ea2 hjN
                go_wp2_with fail
                refine c5.mono ?_
                rintro e w5 ⟨rfl, q5, hw5⟩
                have hb5 : Below w.heap.size w w5 := by rw [hw5]; exact below_drewN (hb4.trans (hbr.mono hb4.size)) q5
                clear hw5 c5
                go_wp2
                go_ret
                exact ⟨rfl, hb5⟩
      · have hg0 : decide ((0 : Int) < (i : Int)) = false := decide_eq_false (by omega)
        have hg1 : ¬ (0 : Int) < (i : Int) := by omega
        have HLE : Hid (0 < i → zs[i - 1]!.1 ≤ zs[i]!.1) := by show _ → _; intro h; exact absurd h hi0
        go_wp2_with fail
        go_region
        have hbq := hbo.drew
        clear hbo hg0 hg1 hi0
        generalize wo.drew = wq0 at hbq ⊢
        have HOB : Hid (Below w4.heap.size w4 wq0) := hbq
        go_wp2
        go_loopg [9, 10, 11] N (fun gg va vb vj wr => ∃ j : Nat, vj = .int .i64 j ∧ j + gg = N ∧ OwnI wr w4.heap.size va (fk xs t0 j) ∧ OwnI wr w4.heap.size vb (fk zs t0 j) ∧ Apart va vb ∧ Below w4.heap.size w4 wr)
        case atStart => exact ⟨0, rfl, by omega, by rw [fk_zero]; exact OwnI.nil _ _, by rw [fk_zero]; exact OwnI.nil _ _, Apart.nil _, HOB.out⟩
        case round =>
          obtain ⟨j, rfl, hgj, HA, HB, hap, hbr⟩ := hrel
          by_cases hjt : j < N
          · have hjz : (j : Int) < (N : Int) := by omega
            obtain ⟨x0, x1, hx⟩ : ∃ x y, xs[j]! = (x, y) := ⟨_, _, rfl⟩
            obtain ⟨z0, z1, hz⟩ : ∃ x y, zs[j]! = (x, y) := ⟨_, _, rfl⟩
            have hfx := fk_succ xs t0 j (by rw [HN.out]; exact hjt)
            have hfz := fk_succ zs t0 j (by rw [HM.out]; exact hjt)
            rw [hx] at hfx
            rw [hz] at hfz
            obtain ⟨cx0, cx1⟩ := (RdAt.below HX4.out hbr HX4.out.1).2 j (by rw [HN.out]; exact hjt)
            obtain ⟨cz0, cz1⟩ := (RdAt.below HZ4.out hbr HZ4.out.1).2 j (by rw [HM.out]; exact hjt)
            obtain ⟨ct0, ct1⟩ := (RdAt.below HZ4.out hbr HZ4.out.1).2 i (by rw [HM.out]; exact hlt)
            rw [hx] at cx0 cx1
            rw [hz] at cz0 cz1
            rw [HTT.out] at ct0 ct1
            have HXX : Hid (xs[j]! = (x0, x1)) := hx
            have HZZ : Hid (zs[j]! = (z0, z1)) := hz
            have HFX : Hid (fk xs t0 (j + 1) = if x0 == t0 then fk xs t0 j ++ [(x0, x1)] else fk xs t0 j) := hfx
            have HFZ : Hid (fk zs t0 (j + 1) = if z0 == t0 then fk zs t0 j ++ [(z0, z1)] else fk zs t0 j) := hfz
            clear hx hz hfx hfz
            have step : ∀ n, OwnI (wr.drewN n) w4.heap.size u9 (fk xs t0 j) ∧ OwnI (wr.drewN n) w4.heap.size u10 (fk zs t0 j) ∧ Below w4.heap.size w4 (wr.drewN n) := fun n => ⟨HA.drewN n, HB.drewN n, below_drewN hbr n⟩
            have STEP : Hid _ := step
            clear step HA HB hbr
            by_cases hxk : x0 = t0
            · have qx : (x0 == t0) = true := beq_iff_eq.2 hxk
              have ex : fk xs t0 (j + 1) = fk xs t0 j ++ [(x0, x1)] := by rw [HFX.out, qx]; rfl
              have EX : Hid _ := ex
              clear ex hxk
              go_wp2_with fail
              go_quiet (fail)
              obtain ⟨HA, HB, hbr⟩ := STEP.out nq
              clear cx0 cx1 cz0 cz1 ct0 ct1
              generalize wr.drewN nq = wq at HA HB hbr ⊢
              have hB4 : w4.heap.size ≤ wq.heap.size := hbr.size
              obtain ⟨cx0, cx1⟩ := (RdAt.below HX4.out hbr HX4.out.1).2 j (by rw [HN.out]; exact hjt)
              rw [HXX.out] at cx0 cx1
              go_wp2_with (first | (at_builtin; refine wpList_append_item rfl (.tmp 67) (.tmp 72) rfl w4.heap.size u9 (fk xs t0 j) (x0, x1) ⟨wq.heap.size, 0, none⟩ 1 rfl (HA.alloc _) rfl (by simp) (by simp [Addr.add]) (by have := fk_len xs t0 j; omega) (by simp; omega) ?_; intro va' wa hA' hgA hkA; obtain ⟨HBa, hapA, hbA⟩ := grow_one (.cells #[.int .i64 x0, .int .i64 x1] 36) HA HB hap hbr hB4 hgA hkA; clear hgA hkA))
              have hbr1 := hbA
              have HA1 := hA'
              have HB1 := HBa
              have hap1 := hapA
              clear cx0 cx1 hbA hA' HBa hapA
              generalize wa = wc at hbr1 HA1 HB1 ⊢
              obtain ⟨cz0, cz1⟩ := (RdAt.below HZ4.out hbr1 HZ4.out.1).2 j (by rw [HM.out]; exact hjt)
              obtain ⟨ct0, ct1⟩ := (RdAt.below HZ4.out hbr1 HZ4.out.1).2 i (by rw [HM.out]; exact hlt)
              rw [HZZ.out] at cz0 cz1
              rw [HTT.out] at ct0 ct1
              have step2 : ∀ n, OwnI (wc.drewN n) w4.heap.size _ _ ∧ OwnI (wc.drewN n) w4.heap.size _ _ ∧ Below w4.heap.size w4 (wc.drewN n) := fun n => ⟨HA1.drewN n, HB1.drewN n, below_drewN hbr1 n⟩
              have STEP2 : Hid _ := step2
              clear step2 HA1 HB1 hbr1
              by_cases hzk : z0 = t0
              · have qz : (z0 == t0) = true := beq_iff_eq.2 hzk
                have ez : fk zs t0 (j + 1) = fk zs t0 j ++ [(z0, z1)] := by rw [HFZ.out, qz]; rfl
                have EZ : Hid _ := ez
                clear ez hzk
                go_quiet (fail)
                obtain ⟨HA2, HB2, hbr2⟩ := STEP2.out nq
                clear cz0 cz1 ct0 ct1 STEP2
                have hap2 := hap1
                generalize wc.drewN nq = wp at HA2 HB2 hbr2 ⊢
                have hB5 : w4.heap.size ≤ wp.heap.size := hbr2.size
                obtain ⟨cz0, cz1⟩ := (RdAt.below HZ4.out hbr2 HZ4.out.1).2 j (by rw [HM.out]; exact hjt)
                rw [HZZ.out] at cz0 cz1
                go_wp2_with (first | (at_builtin; refine wpList_append_item rfl (.tmp 85) (.tmp 90) rfl w4.heap.size u10 (fk zs t0 j) (z0, z1) ⟨wp.heap.size, 0, none⟩ 1 rfl (HB2.alloc _) rfl (by simp) (by simp [Addr.add]) (by have := fk_len zs t0 j; omega) (by simp; omega) ?_; intro vb' wb hB' hgB hkB; obtain ⟨HAb, hapB, hbB⟩ := grow_one (.cells #[.int .i64 z0, .int .i64 z1] 36) HB2 HA2 hap2.symm hbr2 hB5 hgB hkB; clear hgB hkB))
                go_roundg (N - (j + 1))
                case measure => omega
                case rel => exact ⟨j + 1, by go_num, by omega, by rw [EX.out]; exact HAb, by rw [EZ.out]; exact hB', hapB.symm, hbB⟩
              · have qz : (z0 == t0) = false := beq_eq_false_iff_ne.2 hzk
                have ez : fk zs t0 (j + 1) = fk zs t0 j := by rw [HFZ.out, qz]; rfl
                have EZ : Hid _ := ez
                clear ez hzk
                go_quiet (fail)
                obtain ⟨HA2, HB2, hbr2⟩ := STEP2.out nq
                clear cz0 cz1 ct0 ct1 STEP2
                have hap2 := hap1
                generalize wc.drewN nq = wp at HA2 HB2 hbr2 ⊢
                have hB5 : w4.heap.size ≤ wp.heap.size := hbr2.size
                go_wp2
                go_roundg (N - (j + 1))
                case measure => omega
                case rel => exact ⟨j + 1, by go_num, by omega, by rw [EX.out]; exact HA2, by rw [EZ.out]; exact HB2, hap2, hbr2⟩
            · have qx : (x0 == t0) = false := beq_eq_false_iff_ne.2 hxk
              have ex : fk xs t0 (j + 1) = fk xs t0 j := by rw [HFX.out, qx]; rfl
              have EX : Hid _ := ex
              clear ex hxk
              go_wp2_with fail
              go_quiet (fail)
              obtain ⟨HA, HB, hbr⟩ := STEP.out nq
              clear cx0 cx1 cz0 cz1 ct0 ct1
              generalize wr.drewN nq = wq at HA HB hbr ⊢
              have hB4 : w4.heap.size ≤ wq.heap.size := hbr.size
              have hbr1 := hbr
              have HA1 := HA
              have HB1 := HB
              have hap1 := hap
              go_wp2_with fail
              clear hbr HA HB
              generalize wq = wc at hbr1 HA1 HB1 hB4 ⊢
              obtain ⟨cz0, cz1⟩ := (RdAt.below HZ4.out hbr1 HZ4.out.1).2 j (by rw [HM.out]; exact hjt)
              obtain ⟨ct0, ct1⟩ := (RdAt.below HZ4.out hbr1 HZ4.out.1).2 i (by rw [HM.out]; exact hlt)
              rw [HZZ.out] at cz0 cz1
              rw [HTT.out] at ct0 ct1
              have step2 : ∀ n, OwnI (wc.drewN n) w4.heap.size _ _ ∧ OwnI (wc.drewN n) w4.heap.size _ _ ∧ Below w4.heap.size w4 (wc.drewN n) := fun n => ⟨HA1.drewN n, HB1.drewN n, below_drewN hbr1 n⟩
              have STEP2 : Hid _ := step2
              clear step2 HA1 HB1 hbr1
              by_cases hzk : z0 = t0
              · have qz : (z0 == t0) = true := beq_iff_eq.2 hzk
                have ez : fk zs t0 (j + 1) = fk zs t0 j ++ [(z0, z1)] := by rw [HFZ.out, qz]; rfl
                have EZ : Hid _ := ez
                clear ez hzk
                go_quiet (fail)
                obtain ⟨HA2, HB2, hbr2⟩ := STEP2.out nq
                clear cz0 cz1 ct0 ct1 STEP2
                have hap2 := hap1
                generalize wc.drewN nq = wp at HA2 HB2 hbr2 ⊢
                have hB5 : w4.heap.size ≤ wp.heap.size := hbr2.size
                obtain ⟨cz0, cz1⟩ := (RdAt.below HZ4.out hbr2 HZ4.out.1).2 j (by rw [HM.out]; exact hjt)
                rw [HZZ.out] at cz0 cz1
                go_wp2_with (first | (at_builtin; refine wpList_append_item rfl (.tmp 85) (.tmp 90) rfl w4.heap.size u10 (fk zs t0 j) (z0, z1) ⟨wp.heap.size, 0, none⟩ 1 rfl (HB2.alloc _) rfl (by simp) (by simp [Addr.add]) (by have := fk_len zs t0 j; omega) (by simp; omega) ?_; intro vb' wb hB' hgB hkB; obtain ⟨HAb, hapB, hbB⟩ := grow_one (.cells #[.int .i64 z0, .int .i64 z1] 36) HB2 HA2 hap2.symm hbr2 hB5 hgB hkB; clear hgB hkB))
                go_roundg (N - (j + 1))
                case measure => omega
                case rel => exact ⟨j + 1, by go_num, by omega, by rw [EX.out]; exact HAb, by rw [EZ.out]; exact hB', hapB.symm, hbB⟩
              · have qz : (z0 == t0) = false := beq_eq_false_iff_ne.2 hzk
                have ez : fk zs t0 (j + 1) = fk zs t0 j := by rw [HFZ.out, qz]; rfl
                have EZ : Hid _ := ez
                clear ez hzk
                go_quiet (fail)
                obtain ⟨HA2, HB2, hbr2⟩ := STEP2.out nq
                clear cz0 cz1 ct0 ct1 STEP2
                have hap2 := hap1
                generalize wc.drewN nq = wp at HA2 HB2 hbr2 ⊢
                have hB5 : w4.heap.size ≤ wp.heap.size := hbr2.size
                go_wp2
                go_roundg (N - (j + 1))
                case measure => omega
                case rel => exact ⟨j + 1, by go_num, by omega, by rw [EX.out]; exact HA2, by rw [EZ.out]; exact HB2, hap2, hbr2⟩
          · have hjz : ¬ (j : Int) < (N : Int) := by omega
            have hjN : j = N := by omega
            have ea1 : fk xs t0 j = xs.toList.filter (fun x => x.1 == t0) := by rw [hjN, ← HN.out]; exact fk_all xs t0
            have ea2 : fk zs t0 j = zs.toList.filter (fun x => x.1 == t0) := by rw [hjN, ← HM.out]; exact fk_all zs t0
            have c5 := items_any u9 u10 _ _ wr HA.sl HB.sl (by have := fk_len xs t0 j; simp; omega)
            by_cases he : fk xs t0 j = fk zs t0 j
            · rw [he, decide_eq_true rfl] at c5
              have HE : Hid (xs.toList.filter (fun x => x.1 == t0) = zs.toList.filter (fun x => x.1 == t0)) := by show _ = _; rw [← ea1, ← ea2]; exact he
              clear he ea1 ea2 hjN
              go_wp2_with fail
              refine c5.mono ?_
              rintro e w5 ⟨rfl, q5, hw5⟩
              have hb5 : Below w4.heap.size w4 w5 := by rw [hw5]; exact below_drewN hbr q5
              clear hw5 c5
              go_wp2
              go_roundg (N - (i + 1))
              case measure => omega
              case rel =>
                refine ⟨i + 1, by go_num, by omega, hb5, (show Aside _ from ⟨fun t h1 h2 => ?_, fun t h1 => ?_⟩)⟩
                · rcases Nat.lt_or_ge t i with c | c
                  · exact HO.out.1 t h1 c
                  · obtain rfl : t = i := by omega
                    exact HLE.out h1
                · rcases Nat.lt_or_ge t i with c | c
                  · exact HO.out.2 t c
                  · obtain rfl : t = i := by omega
                    rw [HTT.out]; exact HE.out
            · rw [decide_eq_false (fun e => he (by simpa using e))] at c5
              clear he ea1 ea2 hjN
              go_wp2_with fail
              refine c5.mono ?_
              rintro e w5 ⟨rfl, q5, hw5⟩
              have hb5 : Below w.heap.size w w5 := by rw [hw5]; exact below_drewN (hb4.trans (hbr.mono hb4.size)) q5
              clear hw5 c5
              go_wp2
              go_ret
              exact ⟨rfl, hb5⟩
    · have hlz : ¬ (i : Int) < (N : Int) := by omega
      have hiN : i = N := by omega
      have he : ys = zs := one_order HSO.out HBG.out (fun t h1 h2 => HO.out.1 t h1 (by have := HM.out; omega)) (fun t h1 => HO.out.2 t (by have := HM.out; omega))
      have c5 := items_any _ _ ys zs wo (Sl.of_rd (cap := N) (RdAt.below HY4.out hbo HY4.out.1) (by have := HYS.out; omega)) (Sl.of_rd (cap := c2) (RdAt.below HZ4.out hbo HZ4.out.1) (by have := HM.out; omega)) (by have := HYS.out; omega)
      rw [decide_eq_true he, HYS.out, HM.out] at c5
      clear he hiN
      go_wp2_with fail
      refine c5.mono ?_
      rintro e w5 ⟨rfl, q5, hw5⟩
      have hb5 : Below w.heap.size w w5 := by rw [hw5]; exact below_drewN (hb4.trans (hbo.mono hb4.size)) q5
      clear hw5
      go_wp2
      go_ret
      exact ⟨rfl, hb5⟩

set_option maxHeartbeats 4000000 in
set_option maxRecDepth 4000 in
theorem orderOne_bad (p q : Option Addr) (cap M c2 : Nat) (xs : Array (Int × Int)) (w : World) (h : Sl w (.slice p xs.size cap) xs) (hbig : xs.size ≤ 9223372036854775807) (h0 : wrong xs ≠ 0) :
    Calls Try.prog 5 #[.slice p xs.size cap, .slice q M c2] w fun e w' => e = .returned (.bool true) ∧ Below w.heap.size w w' := by
  have c1 := known_any w
  have cs := fun w1 (hb : Below w.heap.size w w1) => sort_bad _ xs w1 (h.below hb) hbig _ rfl h0
  generalize wrong xs = k at cs
  generalize xs.size = N at cs
  clear h h0
  have C2 : Hid (∀ w1, Below w.heap.size w w1 → Calls Try.prog 9 #[.slice p N cap] w1 fun e w' => e = .returned (.tuple #[.slice none 0 0, .iface 23 (.int .i64 k)]) ∧ Below w1.heap.size w1 w') := cs
  clear cs
  go_enter Try.func5, Try.ntmps5
  go_wp2_with fail
  refine c1.mono ?_
  rintro e w1 ⟨rfl, hb1⟩
  go_wp2_with fail
  refine (C2.out w1 hb1).mono ?_
  rintro e w2 ⟨rfl, hb2'⟩
  have hb2 := hb1.trans (hb2'.mono hb1.size)
  go_wp2
  go_ret
  exact ⟨rfl, hb2⟩

set_option maxHeartbeats 4000000 in
set_option maxRecDepth 4000 in
theorem orderOne_unlike (p q : Option Addr) (cap c2 : Nat) (xs zs : Array (Int × Int)) (w : World) (h : Sl w (.slice p xs.size cap) xs) (h2 : Sl w (.slice q zs.size c2) zs) (h0 : wrong xs = 0) (hbag : bagB xs zs = false) :
    Calls Try.prog 5 #[.slice p xs.size cap, .slice q zs.size c2] w fun e w' => e = .returned (.bool true) ∧ Below w.heap.size w w' := by
  have h60 := wrong_le h0
  have c1 := known_any w
  have cs := fun w1 (hb : Below w.heap.size w w1) => sort_good _ xs w1 (h.below hb) h0
  have cb := fun w1 (hb : Below w.heap.size w w1) => bag_any _ _ xs zs w1 (h.below hb) (h2.below hb) (by omega)
  rw [hbag] at cb
  have C2 : Hid (∀ w1, Below w.heap.size w w1 → Calls Try.prog 9 #[.slice p xs.size cap] w1 fun e w' => ∃ g, e = .returned (.tuple #[.slice (some ⟨g, 0, none⟩) xs.size xs.size, .nilIface]) ∧ Below w1.heap.size w1 w') :=
    fun w1 hb => (cs w1 hb).mono fun e w' ⟨g, ys, he, _, _, hb'⟩ => ⟨g, he, hb'⟩
  have C3 : Hid (∀ w1, Below w.heap.size w w1 → Calls Try.prog 12 #[.slice p xs.size cap, .slice q zs.size c2] w1 fun e w' => e = .returned (.bool false) ∧ ∃ q, w' = w1.drewN q) := cb
  clear cs cb hbag h0 h h2
  generalize xs.size = N at C2 C3 h60 ⊢
  generalize zs.size = M at C3 ⊢
  go_enter Try.func5, Try.ntmps5
  go_wp2_with fail
  refine c1.mono ?_
  rintro e w1 ⟨rfl, hb1⟩
  go_wp2_with fail
  refine (C2.out w1 hb1).mono ?_
  rintro e w2 ⟨g, rfl, hb2'⟩
  have hb2 := hb1.trans (hb2'.mono hb1.size)
  go_wp2_with fail
  refine (C3.out w2 hb2).mono ?_
  rintro e w4 ⟨rfl, q4, hw4⟩
  have hb4 : Below w.heap.size w w4 := by rw [hw4]; exact below_drewN hb2 q4
  clear hw4
  go_wp2
  go_ret
  exact ⟨rfl, hb4⟩

set_option maxHeartbeats 4000000 in
set_option maxRecDepth 4000 in
theorem orderOne_none (p q : Option Addr) (cap c2 : Nat) (w : World) :
    Calls Try.prog 5 #[.slice p 0 cap, .slice q 0 c2] w fun e w' => e = .returned (.bool true) ∧ Below w.heap.size w w' := by
  have c1 := known_any w
  have cs := fun w1 => sort_good (.slice p 0 cap) #[] w1 ⟨p, cap, rfl, Nat.zero_le _, Or.inl rfl⟩ (by decide)
  have C2 : Hid (∀ w1, Calls Try.prog 9 #[.slice p 0 cap] w1 fun e w' => ∃ g, e = .returned (.tuple #[.slice (some ⟨g, 0, none⟩) 0 0, .nilIface]) ∧ Below w1.heap.size w1 w') :=
    fun w1 => (cs w1).mono fun e w' ⟨g, ys, he, _, _, hb'⟩ => ⟨g, he, hb'⟩
  clear cs
  go_enter Try.func5, Try.ntmps5
  go_wp2_with fail
  refine c1.mono ?_
  rintro e w1 ⟨rfl, hb1⟩
  go_wp2_with fail
  refine (C2.out w1).mono ?_
  rintro e w2 ⟨g, rfl, hb2'⟩
  have hb2 := hb1.trans (hb2'.mono hb1.size)
  go_wp2_with fail
  refine (bag_none p q cap c2 w2).mono ?_
  rintro e w4 ⟨rfl, q4, hw4⟩
  have hb4 : Below w.heap.size w w4 := by rw [hw4]; exact below_drewN hb2 q4
  clear hw4
  go_wp2
  go_loopg [8] 0 (fun gg vi wr => vi = .int .i64 0 ∧ Below w.heap.size w wr)
  case atStart => exact ⟨rfl, hb4⟩
  case round =>
    obtain ⟨rfl, hbr⟩ := hrel
    go_wp2_with fail
    refine (items_none (some ⟨g, 0, none⟩) q 0 c2 _).mono ?_
    rintro e w5 ⟨rfl, q5, hw5⟩
    have hb5 : Below w.heap.size w w5 := by rw [hw5]; exact below_drewN hbr q5
    clear hw5
    go_wp2
    go_ret
    exact ⟨rfl, hb5⟩

theorem orderOne_any (u v : Value) (xs zs : Array (Int × Int)) (w : World) (h : Sl w u xs) (h2 : Sl w v zs) (hbig : xs.size ≤ 9223372036854775807) :
    Calls Try.prog 5 #[u, v] w fun e w' => e = .returned (.bool true) ∧ Below w.heap.size w w' := by
  obtain ⟨p, cap, rfl, hcap, hp⟩ := id h
  obtain ⟨q, c2, rfl, hcap2, hq⟩ := id h2
  by_cases h0 : wrong xs = 0
  · by_cases hb : bagB xs zs = true
    · have hs := (bagB_elim hb).1
      by_cases hz : xs.size = 0
      · rw [← hs, hz]; exact orderOne_none p q cap c2 w
      · rcases hp with hp | ⟨blk, off, rfl, hr⟩
        · exact absurd hp hz
        rcases hq with hq | ⟨b2, o2, rfl, hr2⟩
        · exact absurd (hs.trans hq) hz
        rw [← hs]
        exact orderOne_some blk off cap b2 o2 c2 xs.size xs zs w hr hr2 rfl hs.symm hcap (by omega) h0 hb
    · exact orderOne_unlike p q cap c2 xs zs w h h2 h0 (by simpa using hb)
  · exact orderOne_bad p q cap _ c2 xs w h hbig h0
#print axioms orderOne_any
end Go.Proofs.Ytaplomajcdoekaa
