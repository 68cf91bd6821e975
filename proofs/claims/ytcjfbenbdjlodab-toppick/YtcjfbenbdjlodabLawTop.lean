/-
  The law TopPick, walked: many ways to the middle.
-/
import Derived.Test.YtcjfbenbdjlodabTopM
import Derived.Test.YtcjfbenbdjlodabPkNth
import Derived.Test.YtcjfbenbdjlodabSame
namespace Go.Proofs.Ytcjfbenbdjlodab
open Go.RowKit Go.Sort Go.Proofs

set_option maxHeartbeats 2000000 in
theorem sortFact_any (w : World) : Calls Try.prog 10 #[] w fun e w' => e = .returned (.bool true) ∧ Below w.heap.size w w' := by
  have hc := sort_good _ #[(5, 1), (3, 2)] _ (Sl.of_rd (cap := 2) (rd_pair w 5 1 3 2) (by decide)) wrong_pair
  change Calls Try.prog 11 #[.slice (some ⟨w.heap.size, 0, none⟩) 2 2] _ (fun e w' => ∃ g ys, e = .returned (.tuple #[.slice (some ⟨g, 0, none⟩) 2 2, .nilIface]) ∧ _) at hc
  go_enter Try.func10, Try.ntmps10
  go_wp2_with fail
  refine hc.mono ?_
  rintro e w2 ⟨g, ys, rfl, hrd, hso, hb⟩
  obtain rfl := hso.unique sorts_pair
  obtain ⟨c0, c1⟩ := hrd.2 0 (by decide)
  simp at c0 c1
  clear hrd hso hc
  go_wp2
  go_ret
  exact ⟨rfl, ((Below.refl _ _).alloc (Nat.le_refl _) _).trans (hb.mono (by simp))⟩
set_option maxHeartbeats 2000000 in
theorem topPick_bad (p : Option Addr) (n cap k : Nat) (w : World) (C1 : Hid (∀ w1, Below w.heap.size w w1 → Calls Try.prog 11 #[.slice p n cap] w1 fun e w' => e = .returned (.tuple #[.slice none 0 0, .iface 44 (.int .i64 k)]) ∧ Below w1.heap.size w1 w')) :
    Calls Try.prog 4 #[.slice p n cap] w fun e w' => e = .returned (.bool true) ∧ Below w.heap.size w w' := by
  have C0 := hidp (sortFact_any w)
  go_enter Try.func4, Try.ntmps4
  go_wp2_with fail
  refine C0.out.mono ?_
  rintro e w1 ⟨rfl, hb1⟩
  go_wp2_with fail
  refine (C1.out w1 hb1).mono ?_
  rintro e w2 ⟨rfl, hb2'⟩
  have HB2 := hidp (hb1.trans (hb2'.mono hb1.size))
  clear hb1 hb2' C0 C1
  go_wp2
  go_ret
  exact ⟨rfl, HB2.out⟩
set_option maxHeartbeats 2000000 in
theorem topPick_none (p : Option Addr) (cap : Nat) (w : World) (C1 : Hid (∀ w1, Below w.heap.size w w1 → Calls Try.prog 11 #[.slice p 0 cap] w1 fun e w' => ∃ g ys, e = .returned (.tuple #[.slice (some ⟨g, 0, none⟩) 0 0, .nilIface]) ∧ RdAt w' g 0 ys ∧ Sorts #[] ys ∧ Below w1.heap.size w1 w')) :
    Calls Try.prog 4 #[.slice p 0 cap] w fun e w' => e = .returned (.bool true) ∧ Below w.heap.size w w' := by
  have C0 := hidp (sortFact_any w)
  go_enter Try.func4, Try.ntmps4
  go_wp2_with fail
  refine C0.out.mono ?_
  rintro e w1 ⟨rfl, hb1⟩
  go_wp2_with fail
  refine (C1.out w1 hb1).mono ?_
  rintro e w2 ⟨g, ys, rfl, _, _, hb2'⟩
  have HB2 := hidp (hb1.trans (hb2'.mono hb1.size))
  clear hb1 hb2' C0 C1
  go_wp2
  go_ret
  exact ⟨rfl, HB2.out⟩
theorem rd_box (w : World) (x0 x1 : Int) : RdAt (w.alloc (.cells #[.int .i64 x0, .int .i64 x1] 38)) w.heap.size 0 #[(x0, x1)] := by
  refine ⟨by simp, fun i hi => ?_⟩
  match i, hi with
  | 0, _ => exact ⟨by simp, by simp⟩
  | i + 1, hi => exact absurd hi (by simp)
set_option maxHeartbeats 16000000 in
set_option maxRecDepth 100000 in
theorem topPick_full (blk off k cap : Nat) (xs : Array (Int × Int)) (w : World) (hr : RdAt w blk off xs) (hk : xs.size = k + 1) (hcap : k + 1 ≤ cap) (h0 : wrong xs = 0) :
    Calls Try.prog 4 #[.slice (some ⟨blk, off, none⟩) (k + 1) cap] w fun e w' => e = .returned (.bool true) ∧ Below w.heap.size w w' := by
  have h60 := wrong_le h0
  rw [hk] at h60
  have hSl : ∀ w1, Below w.heap.size w w1 → Sl w1 (.slice (some ⟨blk, off, none⟩) (k + 1) cap) xs := fun w1 hb => by
    have := Sl.of_rd (cap := cap) (hr.below hb hr.1) (by omega)
    rw [hk] at this; exact this
  have C0 := hidp (sortFact_any w)
  have C1 : Hid (∀ w1, Below w.heap.size w w1 → Calls Try.prog 11 #[.slice (some ⟨blk, off, none⟩) (k + 1) cap] w1 fun e w' => ∃ g ys, e = .returned (.tuple #[.slice (some ⟨g, 0, none⟩) (k + 1) (k + 1), .nilIface]) ∧ RdAt w' g 0 ys ∧ Sorts xs ys ∧ Below w1.heap.size w1 w') := fun w1 hb => by
    have := sort_good _ xs w1 (hSl w1 hb) h0
    rw [hk] at this; exact this
  have C2 := hidp (fun (w1 : World) (hb : Below w.heap.size w w1) => nth_some (.slice (some ⟨blk, off, none⟩) (k + 1) cap) (k / 2) xs w1 (hSl w1 hb) h0 (by omega))
  have C4 : Hid (∀ w1, Below w.heap.size w w1 → Calls Try.prog 13 #[.slice (some ⟨blk, off, none⟩) (k + 1) cap] w1 fun e w' => ∃ g, e = .returned (.tuple #[.slice (some ⟨g, 0, none⟩) (k + 1) (k + 1), .nilIface]) ∧ RdAt w' g 0 (hmake xs) ∧ w1.heap.size ≤ g ∧ Below w1.heap.size w1 w') := fun w1 hb => by
    have := heapMake_fresh _ xs w1 (hSl w1 hb) h0
    rw [hk] at this; exact this
  have HR := hidp hr
  have HK := hidp hk
  have H0 := hidp h0
  have hkz : ((k : Int) + 1 == 0) = false := beq_eq_false_iff_ne.2 (by omega)
  have w1' : IntKind.i64.wrap (k : Int) = (k : Int) := by rw [IntKind.wrap_i64]; omega
  have w2' : Int.tdiv (k : Int) 2 = ((k / 2 : Nat) : Int) := by rw [Int.tdiv_eq_ediv_of_nonneg (by omega)]; omega
  have w3' : IntKind.i64.wrap ((k / 2 : Nat) : Int) = ((k / 2 : Nat) : Int) := by rw [IntKind.wrap_i64]; omega
  obtain ⟨kh, hkh⟩ : ∃ kh, k / 2 = kh := ⟨_, rfl⟩
  have hkk : kh ≤ k := by omega
  have HKH := hidp hkh
  rw [hkh] at C2 w2' w3'
  clear hr hk h0 hSl hkh
  go_enter Try.func4, Try.ntmps4
  go_wp2_with fail
  refine C0.out.mono ?_
  rintro e w1 ⟨rfl, hb1⟩
  have HB1 := hidp hb1
  clear hb1 C0
  go_wp2_with fail
  refine (C1.out w1 HB1.out).mono ?_
  rintro e w2 ⟨gs, ys, rfl, hrs, hso, hb2⟩
  have HB2 := hidp (HB1.out.trans (hb2.mono HB1.out.size))
  have HRS := hidp hrs
  have HSO := hidp hso
  clear hrs hso hb2 HB1 C1
  go_wp2_with fail
  refine (C2.out w2 HB2.out).mono ?_
  rintro e w3 ⟨⟨zs, x0, x1, hs2, hx, rfl⟩, hb3⟩
  obtain rfl := hs2.unique HSO.out
  have HX := hidp hx
  have HB3' := hidp (HB2.out.trans (hb3.mono HB2.out.size))
  have HRS3 := hidp (HRS.out.below hb3 HRS.out.1)
  have hg3 : gs < w3.heap.size := HRS3.out.1
  clear hs2 hx hb3 HB2 HRS C2
  go_wp2_with fail
  have HXB := hidp (rd_box w3 x0 x1)
  have HRS4 : Hid (RdAt (w3.alloc (.cells #[.int .i64 x0, .int .i64 x1] 38)) gs 0 zs) := HRS3.out.below ((Below.refl _ w3).alloc (Nat.le_refl _) _) HRS3.out.1
  have HW4 : Hid (Below w.heap.size w (w3.alloc (.cells #[.int .i64 x0, .int .i64 x1] 38))) := HB3'.out.alloc HB3'.out.size _
  clear HRS3 HB3' hg3
  generalize w3.heap.size = bx at HXB ⊢
  generalize w3.alloc (.cells #[.int .i64 x0, .int .i64 x1] 38) = w4 at HXB HRS4 HW4 ⊢
  have CN := hidp (ss_new (w := w4) (room := 1) (Nat.le_refl _) (by omega))
  refine CN.out.mono ?_
  rintro e w5 ⟨sb, f, rfl, h1, h2, h3⟩
  have HST := hidp h1
  have HF := hidp h2
  have HB5 := hidp h3
  clear h1 h2 h3 CN
  go_wp2_with fail
  refine (C4.out w5 (HW4.out.trans (HB5.out.mono HW4.out.size))).mono ?_
  rintro e w6 ⟨gh, rfl, hrh, hgf, hb6⟩
  have HI : Hid (PickI w4 sb [] f gh (hmake xs) w6) := by
    refine ⟨HST.out.kept (F := fun _ => False) (Chg.of_below hb6) (fun _ _ q => q), fun j hj => ⟨HF.out j hj, ?_⟩, hrh, HB5.out.trans (hb6.mono HB5.out.size)⟩
    have := HST.out.lt j hj
    omega
  clear hrh hgf hb6 HST HF HB5 C4
  go_wp2
  go_loopg [13] (k + 1) (fun gg vi wr => ∃ (i : Nat) (f : List Nat), vi = .int .i64 i ∧ i + gg = k + 1 ∧ Hid (PickI w4 sb ((keyZ xs).take i) f gh (hmake xs) wr))
  case atStart => exact ⟨0, f, rfl, by omega, HI⟩
  case round =>
    obtain ⟨i, f, rfl, hig, HP⟩ := hrel
    clear HI
    by_cases hik : i < k + 1
    · have hiz : (i : Int) < (k : Int) + 1 := by omega
      obtain ⟨c0, c1, hc⟩ : ∃ a b, xs[i]! = (a, b) := ⟨_, _, rfl⟩
      have hc0 : ¬ (c0 < -1000000 ∨ 1000000 < c0) := by have := key_ok H0.out (i := i) (by rw [HK.out]; exact hik); rw [hc] at this; exact this
      have htk := take_keys (i := i) (by rw [HK.out]; exact hik) hc
      have HTK := hidp htk
      have HRW := hidp (fun (wx : World) (hb : Below w4.heap.size w4 wx) => ((HR.out.below (HW4.out.trans (hb.mono HW4.out.size)) HR.out.1).2 i (by rw [HK.out]; exact hik)).1)
      rw [hc] at HRW
      have ca := HRW.out wr HP.out.below
      have CP := hidp (HP.out.put (by have := List.length_take_le i (keyZ xs); omega) hc0)
      rw [← htk] at CP
      clear hc htk hc0 HP
      go_wp2_with (first | (go_at_call 7; refine CP.out.mono ?_; rintro e w7 ⟨rfl, f7, k7⟩; have cb := HRW.out w7 k7.below; have CL := hidp (ss_least k7.st (by rw [HTK.out]; simp)); have K7 := hidp k7; clear k7) | (go_at_call 8; refine CL.out.mono ?_; rintro e w8 ⟨m, rfl, hm, rfl⟩; have hm2 : m = c0 := (by rw [HTK.out] at hm; exact least_last hm); subst hm2; clear hm))
      go_roundg (k + 1 - (i + 1))
      case measure => omega
      case rel => exact ⟨i + 1, f7, by go_num, by omega, K7⟩
    · obtain rfl : i = k + 1 := by omega
      have hiz : ¬ (((k + 1 : Nat) : Int) < (k : Int) + 1) := by omega
      have ht : (keyZ xs).take (k + 1) = keyZ xs := List.take_of_length_le (by rw [keyZ_len, HK.out]; exact Nat.le_refl _)
      rw [ht] at HP
      have CM := hidp (ss_middle HP.out.st (by rw [keyZ_len, HK.out]; omega))
      clear ht hik
      go_wp2_with fail
      refine CM.out.mono ?_
      rintro e w9 ⟨m, rfl, hm, rfl⟩
      have hm2 : m = x0 := by
        have := mid_key hm HSO.out HK.out
        rw [HKH.out, HX.out] at this
        exact this.symm
      subst hm2
      have HH := hidp HP.out.hp
      have HB9 := hidp HP.out.below
      clear hm CM HP
      go_wp2
      go_loopg [11, 18] kh (fun gg vh vi wr => ∃ (i g kk : Nat) (D : Array (Int × Int)) (os : List (Int × Int)), vi = .int .i64 i ∧ vh = .slice (some ⟨g, 0, none⟩) kk kk ∧ i + gg = kh ∧ i + kk = k + 1 ∧ Hid (os.length = i) ∧ Hid (D.size = kk) ∧ Hid (RdAt wr g 0 D) ∧ Hid (Pops xs os D) ∧ Hid (Below w4.heap.size w4 wr))
      case atStart => exact ⟨0, gh, k + 1, hmake xs, [], rfl, rfl, by omega, by omega, rfl, (show _ = _ by rw [hmake_size]; exact HK.out), HH, Pops.start, HB9⟩
      case round =>
        obtain ⟨i, g, kk, D, os, rfl, rfl, hig2, hikk, HJ, HD, HRD, HPP, HBB⟩ := hrel
        obtain ⟨q, rfl⟩ : ∃ q, kk = q + 1 := ⟨kk - 1, by omega⟩
        have hD0 : 0 < D.size := by rw [HD.out]; omega
        obtain ⟨y0, y1, hy⟩ : ∃ a b, D[0]! = (a, b) := ⟨_, _, rfl⟩
        have CO := heapPop_fresh (some ⟨g, 0, none⟩) (q + 1) D wr (by rw [HD.out]; have := Sl.of_rd (cap := q + 1) HRD.out (by rw [HD.out]; exact Nat.le_refl _); rw [HD.out] at this; exact this) (HPP.out.wrongO hD0 H0.out)
        rw [HD.out, hy, Nat.add_sub_cancel] at CO
        have HCO := hidp CO
        have HY := hidp hy
        clear CO hy
        by_cases hlt : i < kh
        · have hlz : (i : Int) < (kh : Int) := by omega
          have HP2 : Hid (Pops xs (os ++ [(y0, y1)]) (hpop D)) := by show Pops _ _ _; rw [← HY.out]; exact HPP.out.pop hD0
          have HD2 : Hid ((hpop D).size = q) := by show _ = _; rw [hpop_size, HD.out]; rfl
          go_wp2_with fail
          refine HCO.out.mono ?_
          rintro e wa ⟨g2, rfl, hr2, hf2, hb2⟩
          have HR2 := hidp hr2
          have HB2 := hidp (HBB.out.trans (hb2.mono HBB.out.size))
          clear hr2 hf2 hb2 HCO
          go_wp2
          go_roundg (kh - (i + 1))
          case measure => omega
          case rel => exact ⟨i + 1, g2, q, hpop D, os ++ [(y0, y1)], by go_num, rfl, by omega, by omega, (show _ = _ by rw [List.length_append, HJ.out]; rfl), HD2, HR2.out.below ((Below.refl _ wa).alloc (Nat.le_refl _) _) HR2.out.1, HP2, HB2.out.alloc HB2.out.size _⟩
        · obtain rfl : i = kh := by omega
          have hlz : ¬ ((i : Int) < (i : Int)) := by omega
          have hyk : y0 = m := by
            have := popped_key HPP.out hD0 HSO.out HJ.out
            rw [HX.out, HY.out] at this
            exact this.symm
          subst hyk
          go_wp2_with fail
          refine HCO.out.mono ?_
          rintro e wa ⟨g2, rfl, hr2, hf2, hb2⟩
          have HB2 := hidp (HBB.out.trans (hb2.mono HBB.out.size))
          clear hr2 hf2 hb2 HCO HH HB9 HJ HD HRD HPP HBB
          have HB3 : Hid (Below w4.heap.size w4 (wa.alloc (.cells #[.int .i64 y0, .int .i64 y1] 38))) := HB2.out.alloc HB2.out.size _
          have hsi : i < zs.size := by rw [HSO.out.size, HK.out]; omega
          obtain ⟨a0, a1⟩ := (HXB.out.below HB3.out HXB.out.1).2 0 (by simp)
          obtain ⟨b0, b1⟩ := (HRS4.out.below HB3.out HRS4.out.1).2 i hsi
          rw [HX.out] at b0 b1
          simp only [Nat.zero_add, Nat.zero_mul] at a0 a1 b0 b1
          have a0' : (wa.alloc (.cells #[.int .i64 y0, .int .i64 y1] 38)).cell? ⟨bx, 0, none⟩ = some (.int .i64 y0) := a0
          have a1' : (wa.alloc (.cells #[.int .i64 y0, .int .i64 y1] 38)).cell? ⟨bx, 1, none⟩ = some (.int .i64 x1) := a1
          have d0 : (wa.alloc (.cells #[.int .i64 y0, .int .i64 y1] 38)).cell? ⟨wa.heap.size, 0, none⟩ = some (.int .i64 y0) := by simp
          have kq : ∀ w, Sem.run Try.prog (binOp .eql 38 (.agg #[.int .i64 y0, .int .i64 x1]) (.agg #[.int .i64 y0, .int .i64 x1])) w = .ok (.bool true) w := fun w => by have := eql_item y0 x1 y0 x1 w; simpa using this
          have kg := guard_item
          have hiz2 : (i : Int) < (k : Int) + 1 := by omega
          clear a0 a1
          go_wp2_with fail
          generalize wa.heap.size = by' at d0 ⊢
          generalize wa.alloc (.cells #[.int .i64 y0, .int .i64 y1] 38) = wb at HB3 a0' a1' b0 b1 d0 ⊢
          go_quiet (fail)
          go_wp2
          go_ret
          exact ⟨rfl, below_drewN (HW4.out.trans (HB3.out.mono HW4.out.size)) _⟩
theorem topPick_any (v : Value) (xs : Array (Int × Int)) (w : World) (h : Sl w v xs) (hbig : xs.size ≤ 9223372036854775807) :
    Calls Try.prog 4 #[v] w fun e w' => e = .returned (.bool true) ∧ Below w.heap.size w w' := by
  obtain ⟨p, cap, rfl, hcap, hp⟩ := id h
  by_cases h0 : wrong xs = 0
  · rcases Nat.eq_zero_or_pos xs.size with hz | hz
    · have e0 : xs = #[] := Array.eq_empty_of_size_eq_zero hz
      subst e0
      exact topPick_none p cap w fun w1 hb => sort_good _ #[] w1 (h.below hb) h0
    · rcases hp with q | ⟨blk, off, rfl, hr⟩
      · omega
      · obtain ⟨k, hk⟩ : ∃ k, xs.size = k + 1 := ⟨xs.size - 1, by omega⟩
        rw [hk] at hcap ⊢
        exact topPick_full blk off k cap xs w hr hk hcap h0
  · exact topPick_bad p _ cap _ w fun w1 hb => sort_bad _ xs w1 (h.below hb) hbig _ rfl h0
#print axioms topPick_any
end Go.Proofs.Ytcjfbenbdjlodab
