/-
  The law SoftPlays, walked: any soft heap, and anything that is pushed and popped.
-/
import Derived.Test.YtdpfijhkbhmkgaaDoorLawSPlays1
import Derived.Test.YtdpfijhkbhmkgaaDoorLawSItem
import Derived.Test.YtdpfijhkbhmkgaaDoorRef1
import Derived.Test.YtdpfijhkbhmkgaaDoorSame
import Derived.Test.YtdpfijhkbhmkgaaDoorTold
import Derived.Test.YtdpfijhkbhmkgaaDoorCopy
import Derived.Deep.RegionHeld3
namespace Go.Proofs.YtdpfijhkbhmkgaaDoor
open Go.RowKit Go.Sort Go.Proofs Go.Lib

set_option maxHeartbeats 4000000 in
theorem softPlays_bad (rk : Int) (v : Value) (w : World) (hgl : Glob w) (h : rk < 0 ∨ 8 < rk) : Calls Tryd.prog 4 #[.int .i64 rk, v] w fun e w' => e = .returned (.bool true) ∧ Below w.heap.size w w' := by
  have CE := hidp (error_any 1 1 w hgl)
  rw [errV_pos (show (1 : Nat) ≠ 0 by decide)] at CE
  have CN := hidp (new_bad (w := w) h)
  by_cases h0 : rk < 0
  · clear h
    go_enter Tryd.func4, Tryd.ntmps4
    go_wp2_with fail
    refine CN.out.mono ?_
    rintro e w2 ⟨rfl, rfl⟩
    go_wp2_with fail
    refine CE.out.mono ?_
    rintro e w3 ⟨rfl, hb⟩
    go_wp2
    go_ret
    exact ⟨rfl, hb⟩
  · have h8 : 8 < rk := by omega
    clear h
    go_enter Tryd.func4, Tryd.ntmps4
    go_wp2_with fail
    refine CN.out.mono ?_
    rintro e w2 ⟨rfl, rfl⟩
    go_wp2_with fail
    refine CE.out.mono ?_
    rintro e w3 ⟨rfl, hb⟩
    go_wp2
    go_ret
    exact ⟨rfl, hb⟩
theorem err5p : errV 5 = .iface 57 (.int .i64 5) := rfl
theorem play_start {w w2 : World} {hb r0 S : Nat} (h : SH w2 w.heap.size hb r0 0 [] [hb]) (hb2 : Below w.heap.size w w2) (hS : w2.heap.size = S) :
    PlayI w hb r0 0 S (none, 0, 0) (none, 0, 0) [] [hb] (w2.alloc (.cells #[.int .i64 (r0 : Int), .int .i64 0, .slice none 0 0, .slice none 0 0] 40)) := by
  subst hS
  have hbA : Below w2.heap.size w2 (w2.alloc (.cells #[.int .i64 (r0 : Int), .int .i64 0, .slice none 0 0, .slice none 0 0] 40)) := (Below.refl _ w2).alloc (Nat.le_refl _) _
  have hlt := h.lt hb List.mem_cons_self
  refine ⟨h.below hbA, ⟨[], [], [], CellsAt.nil EC _ _ (fun j z => ?_), ⟨rfl, List.nodup_nil, fun j c _ e => by simp [plainQ] at e⟩, NumX.nil _ _, by simp⟩, BlkAt.new w2 _ _, fun z => ?_, hb2.size, hb2.trans (hbA.mono hb2.size)⟩
  · rcases z with z | z
    · rw [List.mem_singleton.1 z]; simp; omega
    · rw [z]; simp
  · have := List.mem_singleton.1 z
    omega

set_option maxHeartbeats 16000000 in
set_option maxRecDepth 4000 in
theorem softPlays_some (r0 : Nat) (rk : Int) (p : Option Addr) (n cap : Nat) (xs : Array (Int × Int)) (w : World) (hgl : Glob w) (h8 : r0 ≤ 8) (hrk : rk = (r0 : Int)) (h : Sl w (.slice p n cap) xs) : Calls Tryd.prog 4 #[.int .i64 rk, .slice p n cap] w fun e w' => e = .returned (.bool true) ∧ Below w.heap.size w w' := by
  have HX : Hid (∀ i, i < n → ∃ blk off x0 x1, p = some ⟨blk, off, none⟩ ∧ blk < w.heap.size ∧ ∀ w1, Below w.heap.size w w1 → w1.cell? ⟨blk, off + i * 2, none⟩ = some (.int .i64 x0) ∧ w1.cell? ⟨blk, off + i * 2 + 1, none⟩ = some (.int .i64 x1)) := fun i hi => by
    obtain ⟨blk, off, x0, x1, q1, q2, q3, q4, _⟩ := h.reads i hi
    exact ⟨blk, off, x0, x1, q1, q2, fun w1 hb1 => ⟨(hb1.cell (p := ⟨blk, off + i * 2, none⟩) q2).trans q3, (hb1.cell (p := ⟨blk, off + i * 2 + 1, none⟩) q2).trans q4⟩⟩
  have CN : Hid (Calls Tryd.prog 7 #[.int .i64 rk] w fun e w' => ∃ hb, e = .returned (.tuple #[.pointer (some ⟨hb, 0, none⟩), .nilIface]) ∧ SH w' w.heap.size hb r0 0 [] [hb] ∧ Below w.heap.size w w') := by rw [hrk]; exact sh_new (w := w) h8
  have HRK := hidp hrk
  have HGL := hidp hgl
  have k4 := guard_item
  have hrz0 : ¬ (rk < 0) := by omega
  have hrz8 : ¬ (8 < rk) := by omega
  clear h hrk hgl
  go_enter Tryd.func4, Tryd.ntmps4
  go_wp2_with fail
  refine CN.out.mono ?_
  rintro e w2 ⟨hb, rfl, h2, hb2⟩
  obtain ⟨S, hS⟩ : ∃ S, w2.heap.size = S := ⟨_, rfl⟩
  have HA := hidp (play_start h2 hb2 hS)
  rw [← HRK.out] at HA
  have HS := hidp hS
  clear hb2 h2 CN hS
  go_wp2_with fail
  rw [HS.out]
  go_loopg [8, 9] 900 (fun gg v8 v9 wr => ∃ (i N M : Nat) (c t : SlW) (ts : List SN) (f : List Nat), v8 = .int .i64 M ∧ v9 = .int .i64 i ∧ i ≤ 900 ∧ 900 - i ≤ gg ∧ Hid (M = manyS ts) ∧ PlayI w hb r0 N S c t ts f wr)
  case atStart => exact ⟨0, 0, 0, _, _, _, _, rfl, rfl, by omega, by omega, by show _ = _; rfl, HA.out⟩
  case round =>
    clear HA
    obtain ⟨i, N, M, c, t, ts, f, rfl, rfl, hi, hgg, HM, hP⟩ := hrel
    rcases Nat.lt_or_ge i n with hlt | hge
    · have hz : (i : Int) < (n : Int) := by omega
      rcases Nat.lt_or_ge i 900 with h9 | h9
      · have hz9 : (i : Int) < 900 := by omega
        obtain ⟨blk, off, x0, x1, rfl, hbk, hcx⟩ := HX.out i hlt
        obtain ⟨c0, c1⟩ := hcx wr hP.below
        have HCX := hidp hcx
        have HP0 := hidp hP
        clear hP hcx
        by_cases h7 : x1 = 7
        · subst h7
          by_cases hne : ts = []
          · subst hne
            obtain rfl : M = 0 := by rw [HM.out]; rfl
            have CP := hidp (sh_none HP0.out.heap)
            rw [← err5p] at CP
            go_wp2_with fail
            refine CP.out.mono ?_
            rintro e w2 ⟨rfl, _, hb2⟩
            have H2 := hidp (HP0.out.below' hb2)
            have hbA : Below w2.heap.size w2 (w2.alloc (.cells #[.int .i64 0, .int .i64 0] 30)) := (Below.refl _ w2).alloc (Nat.le_refl _) _
            have H3 := hidp (H2.out.below' hbA)
            have CE := hidp (error_any 5 5 _ (HGL.out.below H3.out.below))
            have BX := hidp (BlkAt.new w2 #[.int .i64 0, .int .i64 0] 30)
            clear hb2 HP0 CP H2 hbA c0 c1
            go_wp2_with fail
            refine CE.out.mono ?_
            rintro e w4 ⟨rfl, hb4⟩
            have H4 := hidp (H3.out.below' hb4)
            have z0 := (BX.out.below hb4).cell (j := 0) rfl
            have z1 := (BX.out.below hb4).cell (j := 1) rfl
            clear hb4 H3 CE BX
            go_wp2
            go_roundg (900 - (i + 1))
            case measure => omega
            case rel => exact ⟨i + 1, N, 0, c, t, [], f, rfl, by go_num, by omega, Nat.le_refl _, HM, H4.out⟩
          · obtain ⟨k, r, mm, y0, y1, is, a, b, hnode, hperm, _, _, _, cp⟩ := sh_pop HP0.out.heap HP0.out.below.size hne
            have hML : M = manyS (popS ts) + 1 := by
              rw [HM.out]; unfold manyS; rw [← hperm.length_eq]; rfl
            have HLE := hidp (show manyS (popS ts) ≤ (allS ts).length by unfold manyS; have := hperm.length_eq; simp only [List.length_cons] at this; omega)
            obtain ⟨M2, hM2⟩ : ∃ M2, manyS (popS ts) = M2 := ⟨_, rfl⟩
            rw [hM2] at hML HLE
            subst hML
            have HM2 := hidp hM2
            have CP := hidp cp
            have HND := hidp hnode
            clear cp hnode hperm hM2 HM
            have hM0 : (((M2 : Int) + 1) == 0) = false := beq_eq_false_iff_ne.2 (by omega)
            go_wp2_with fail
            refine CP.out.mono ?_
            rintro e w2 ⟨rfl, f2, h2, s2⟩
            obtain ⟨q1, q2, q3, q4, q5⟩ := HP0.out.step h2 s2
            have hbA : Below w2.heap.size w2 (w2.alloc (.cells #[.int .i64 y0, .int .i64 y1] 30)) := (Below.refl _ w2).alloc (Nat.le_refl _) _
            have hcn := HP0.out.counts
            obtain ⟨b0, b1, b2, b3⟩ : _ ∧ _ ∧ _ ∧ _ := ⟨(q3.below hbA).cell (j := 0) rfl, (q3.below hbA).cell (j := 1) rfl, (q3.below hbA).cell (j := 2) rfl, (q3.below hbA).cell (j := 3) rfl⟩
            have CS := hidp (softPop_any (rk := (r0 : Int)) (pu := (N : Int)) (q2.below hbA) HP0.out.heap.good hcn.1 hcn.2 HND.out)
            have BX := hidp (BlkAt.new w2 #[.int .i64 y0, .int .i64 y1] 30)
            have hapX : ¬ (Value.slice c.1 c.2.1 c.2.2).ownBlock = some w2.heap.size := fun z => by
              obtain ⟨Q, _, _, g1, _⟩ := q2
              have := (World.ownsRow.lt g1.own _ z).2
              omega
            have HQ := hidp (show _ ∧ _ ∧ _ ∧ _ ∧ _ from ⟨q1.below hbA, q2.below hbA, q3.below hbA, q4, q5.trans (hbA.mono q5.size)⟩)
            have HOLD := hidp HP0.out.old
            have hXS : ¬ (w2.heap.size = S) := by have := q3.lt; omega
            have hXS2 : ¬ (S = w2.heap.size) := by omega
            have hM2b : M2 ≤ 400 := by
              have h1 := hcn.1
              have h2 := hcn.2
              have h3 := HM2.out
              have h4 := HLE.out
              omega
            clear CP h2 s2 q1 q2 q3 q4 q5 hbA hcn HP0 c0 c1 HND
            go_wp2_with fail
            refine CS.out.mono ?_
            rintro e w3 ⟨t3, rfl, hd3, hc3⟩
            obtain ⟨p1, p2⟩ := play_doc HQ.out.1 HQ.out.2.1 HQ.out.2.2.1 HQ.out.2.2.2.1 HOLD.out HQ.out.2.2.2.2 hd3 hc3
            have z0 := (BX.out.chg hc3 hapX).cell (j := 0) rfl
            have z1 := (BX.out.chg hc3 hapX).cell (j := 1) rfl
            have zl := (BX.out.chg hc3 hapX).lt
            obtain ⟨s0, s1, s2, s3⟩ : _ ∧ _ ∧ _ ∧ _ := ⟨p1.cell (j := 0) rfl, p1.cell (j := 1) rfl, p1.cell (j := 2) rfl, p1.cell (j := 3) rfl⟩
            obtain ⟨sf0, sf1, sf2, sf3⟩ : _ ∧ _ ∧ _ ∧ _ := ⟨p1.fr 0, p1.fr 1, p1.fr 2, p1.fr 3⟩
            have sl := p1.lt
            have P2 := hidp p2
            have hkk : (k != k) = false := by simp
            have k2 := fun w => neq_item y0 y1 y0 y1 w
            rw [show (!(y0 == y0 && y1 == y1)) = false by simp] at k2
            clear p1 p2 hd3 hc3 CS BX hapX HQ HOLD b0 b1 b2 b3
            go_wp2_with fail
            generalize hW5 : (((w3.setCell _ _).setCell _ _).setCell _ _).setCell _ _ = w4
            have HP4 := hidp (P2.out w3 (Below.refl _ _) w4 hW5.symm)
            have hsz4 : w4.heap.size = w3.heap.size := by rw [← hW5]; simp
            have HP := hidp ((HP4.out.below' ((Below.refl _ _).alloc (Nat.le_refl _) (.cells #[.int .i64 (r0 : Int), .int .i64 (N : Int), .slice c.1 c.2.1 c.2.2, .slice t3.1 t3.2.1 t3.2.2] 40))).below' ((Below.refl _ _).alloc (Nat.le_refl _) (.cells #[.int .i64 y0, .int .i64 y1] 30)))
            clear P2 HP4 hW5 z0 z1 zl s0 s1 s2 s3 sf0 sf1 sf2 sf3 sl hsz4
            have hcn := HP.out.counts
            have CM := hidp (HP.out.doc.counts hcn.2 (Nat.le_trans hcn.1 (by omega)) (r0 : Int) (N : Nat))
            clear hcn
            refine CM.out.mono ?_
            rintro e w5 ⟨rfl, hb5⟩
            have HP5 := hidp (HP.out.below' hb5)
            clear HP CM hb5
            have hA1 : ((manyS (popS ts) : Int) != (manyS (popS ts) : Int)) = false := by simp
            have hA3 : ((manyS (popS ts) : Int) != (M2 : Int)) = false := by rw [HM2.out]; simp
            have hA2 : ((wrongS (popS ts) : Int) != (wrongS (popS ts) : Int)) = false := by simp
            go_wp2_with fail
            refine (sh_many HP5.out.heap).mono ?_
            rintro e w6 ⟨rfl, _, hb6⟩
            have HP6 := hidp (HP5.out.below' hb6)
            clear HP5 hb6
            go_wp2_with fail
            refine (sh_wrong HP6.out.heap).mono ?_
            rintro e w7 ⟨rfl, _, hb7⟩
            have HP7 := hidp (HP6.out.below' hb7)
            clear HP6 hb7
            go_wp2
            go_roundg (900 - (i + 1))
            case measure => omega
            case rel => exact ⟨i + 1, _, _, _, _, _, _, rfl, by go_num, by omega, Nat.le_refl _, HM2.out.symm, HP7.out⟩
        · have h7b : (x1 == 7) = false := beq_eq_false_iff_ne.2 h7
          have hcn := HP0.out.counts
          have hwr : ∀ w1 : World, Calls Tryd.prog 13 #[.slice (some ⟨w1.heap.size, 0, none⟩) 1 1] (w1.alloc (.cells #[.int .i64 x0, .int .i64 x1] 30)) fun e w' => e = .returned (.int .i64 (wrong #[(x0, x1)] : Nat)) ∧ w' = w1.alloc (.cells #[.int .i64 x0, .int .i64 x1] 30) := fun w1 => refItems_any _ #[(x0, x1)] (w1.alloc (.cells #[.int .i64 x0, .int .i64 x1] 30)) (Sl.of_rd (cap := 1) (rd_one w1 x0 x1) (by simp)) (by simp)
          have CI := hidp (hwr wr)
          have hbA : Below wr.heap.size wr (wr.alloc (.cells #[.int .i64 x0, .int .i64 x1] 30)) := (Below.refl _ wr).alloc (Nat.le_refl _) _
          have H1 := hidp (HP0.out.below' hbA)
          have hW1 : wrongS1 N x0 x1 = if wrong #[(x0, x1)] = 0 then (if N < 400 then 0 else 4) else wrong #[(x0, x1)] := rfl
          obtain ⟨ev, hev⟩ : ∃ ev, wrong #[(x0, x1)] = ev := ⟨_, rfl⟩
          rw [hev] at CI hW1
          obtain ⟨d0, d1⟩ := HCX.out _ H1.out.below
          obtain ⟨b0, b1, b2, b3⟩ : _ ∧ _ ∧ _ ∧ _ := ⟨H1.out.box.cell (j := 0) rfl, H1.out.box.cell (j := 1) rfl, H1.out.box.cell (j := 2) rfl, H1.out.box.cell (j := 3) rfl⟩
          have bl := H1.out.box.lt
          have HCN := hidp hcn
          clear hev hwr hbA hcn
          by_cases hev0 : ev = 0
          · subst hev0
            rw [if_pos rfl] at hW1
            by_cases hN : N < 400
            · rw [if_pos hN] at hW1
              have hNz : ((N : Int) == 400) = false := beq_eq_false_iff_ne.2 (by omega)
              have CP := hidp (sh_push H1.out.heap H1.out.below.size hW1)
              clear hW1 HP0
              go_wp2_with fail
              refine CI.out.mono ?_
              rintro e w1 ⟨rfl, rfl⟩
              clear CI
              go_wp2_with fail
              refine CP.out.mono ?_
              rintro e w2 ⟨rfl, f2, h2, s2⟩
              obtain ⟨q1, q2, q3, q4, q5⟩ := H1.out.step h2 s2
              have CE := hidp (error_any 0 0 w2 (HGL.out.below q5))
              rw [errV_zero] at CE
              have HQ := hidp (show _ ∧ _ ∧ _ ∧ _ ∧ _ from ⟨q1, q2, q3, q4, q5⟩)
              have HOLD := hidp H1.out.old
              have HG := hidp H1.out.heap.good
              clear CP H1 b0 b1 b2 b3 bl c0 c1 d0 d1 h2 s2 q1 q2 q3 q4 q5
              go_wp2_with fail
              refine CE.out.mono ?_
              rintro e w3 ⟨rfl, hb3⟩
              obtain ⟨q1, q2, q3, q4, q5⟩ := HQ.out
              have hq5 : Below w.heap.size w w3 := q5.trans (hb3.mono q5.size)
              have CS : Hid (∀ W, Below w3.heap.size w3 W → Calls Tryd.prog 14 #[.agg #[.int .i64 (r0 : Int), .int .i64 (N : Int), .slice c.1 c.2.1 c.2.2, .slice t.1 t.2.1 t.2.2], .agg #[.int .i64 x0, .int .i64 x1]] W fun e w' => ∃ c' t' : SlW, e = .returned (.agg #[.int .i64 (r0 : Int), .int .i64 ((N : Int) + 1), .slice c'.1 c'.2.1 c'.2.2, .slice t'.1 t'.2.1 t'.2.2]) ∧ BlkAt w' S #[.int .i64 (r0 : Int), .int .i64 (N : Int), .slice c.1 c.2.1 c.2.2, .slice t.1 t.2.1 t.2.2] ∧ Below w.heap.size w w' ∧ Hid (∀ Wx, Below w'.heap.size w' Wx → ∀ W2, W2 = (((Wx.setCell ⟨S, 0, none⟩ (.int .i64 (r0 : Int))).setCell ⟨S, 1, none⟩ (.int .i64 ((N + 1 : Nat) : Int))).setCell ⟨S, 2, none⟩ (.slice c'.1 c'.2.1 c'.2.2)).setCell ⟨S, 3, none⟩ (.slice t'.1 t'.2.1 t'.2.2) → PlayI w hb r0 (N + 1) S c' t' (pushS r0 (x0, x1) ts) f2 W2)) := fun W hW => by
                have hb4 : Below w2.heap.size w2 W := hb3.trans (hW.mono hb3.size)
                have hbl := q5.trans (hb4.mono q5.size)
                refine (softPush_any (x0 := x0) (x1 := x1) (q2.below hb4) HG.out HCN.out.1 hN hbl.size).mono ?_
                rintro e w' ⟨c', t', rfl, hd, hc⟩
                obtain ⟨p1, p2⟩ := play_doc (q1.below hb4) (q2.below hb4) (q3.below hb4) q4 HOLD.out hbl hd hc
                exact ⟨c', t', rfl, p1, hbl.trans (hc.below (fun j z => ((q2.below hb4).apart j z).2) hbl.size), p2⟩
              have q3' := q3.below hb3
              obtain ⟨b0, b1, b2, b3⟩ : _ ∧ _ ∧ _ ∧ _ := ⟨q3'.cell (j := 0) rfl, q3'.cell (j := 1) rfl, q3'.cell (j := 2) rfl, q3'.cell (j := 3) rfl⟩
              have bl := q3'.lt
              obtain ⟨d0, d1⟩ := HCX.out w3 hq5
              have hMb : manyS (pushS r0 (x0, x1) ts) = M + 1 := by
                have := (HG.out.push (x0, x1)).2.length_eq
                have h1 := HM.out
                unfold manyS at h1 ⊢
                rw [this, h1]; rfl
              have HMB := hidp hMb
              have hM4 : M ≤ 400 := by have h1 := HM.out; unfold manyS at h1; have := HCN.out; omega
              clear hMb CE HQ HOLD HG q1 q2 q3 q4 q5 q3' hq5 hb3
              go_wp2_with fail
              go_region_with (first | (go_at_call 14; refine (CS.out _ ?_).mono ?_; (first | (exact Below.refl _ _) | (exact below_drewN (Below.refl _ _) 1)); rintro e w5 ⟨c5, t5, rfl, kb, kw, hP2⟩; have j0 := kb.cell (j := 0) rfl; have j1 := kb.cell (j := 1) rfl; have j2 := kb.cell (j := 2) rfl; have j3 := kb.cell (j := 3) rfl; have jf0 := kb.fr 0; have jf1 := kb.fr 1; have jf2 := kb.fr 2; have jf3 := kb.fr 3; have jl := kb.lt; clear kb kw))
              all_goals
                generalize hW5 : (((World.setCell _ _ _).setCell _ _).setCell _ _).setCell _ _ = wz
                have HP := hidp (hP2.out w5 (Below.refl _ _) wz (by rw [← hW5]; rfl))
                clear hP2 hW5 j0 j1 j2 j3 jf0 jf1 jf2 jf3 jl b0 b1 b2 b3 bl d0 d1 CS
                obtain ⟨b0, b1, b2, b3⟩ : _ ∧ _ ∧ _ ∧ _ := ⟨HP.out.box.cell (j := 0) rfl, HP.out.box.cell (j := 1) rfl, HP.out.box.cell (j := 2) rfl, HP.out.box.cell (j := 3) rfl⟩
                have bl := HP.out.box.lt
                go_wp2_with fail
                clear b0 b1 b2 b3 bl
                have hcn := HP.out.counts
                have CM := hidp (HP.out.doc.counts hcn.2 (Nat.le_trans hcn.1 (by omega)) (r0 : Int) (N + 1 : Nat))
                clear hcn
                refine CM.out.mono ?_
                rintro e w5 ⟨rfl, hb5⟩
                have HP5 := hidp (HP.out.below' hb5)
                clear HP CM hb5
                have hA1 : ((manyS (pushS r0 (x0, x1) ts) : Int) != (manyS (pushS r0 (x0, x1) ts) : Int)) = false := by simp
                have hA3 : ((manyS (pushS r0 (x0, x1) ts) : Int) != ((M : Int) + 1)) = false := by rw [HMB.out]; simp
                have hA2 : ((wrongS (pushS r0 (x0, x1) ts) : Int) != (wrongS (pushS r0 (x0, x1) ts) : Int)) = false := by simp
                go_wp2_with fail
                refine (sh_many HP5.out.heap).mono ?_
                rintro e w6 ⟨rfl, _, hb6⟩
                have HP6 := hidp (HP5.out.below' hb6)
                clear HP5 hb6
                go_wp2_with fail
                refine (sh_wrong HP6.out.heap).mono ?_
                rintro e w7 ⟨rfl, _, hb7⟩
                have HP7 := hidp (HP6.out.below' hb7)
                clear HP6 hb7
                go_wp2
                go_roundg (900 - (i + 1))
                case measure => omega
                case rel => exact ⟨i + 1, N + 1, M + 1, c5, t5, _, _, by go_num, by go_num, by omega, Nat.le_refl _, HMB.out.symm, HP7.out⟩
            · rw [if_neg hN] at hW1
              obtain rfl : N = 400 := by have := HCN.out.2; omega
              have CP := hidp (sh_full H1.out.heap (x0 := x0) (x1 := x1) (by rw [hW1]; omega))
              rw [hW1] at CP
              clear hW1 HP0
              go_wp2_with fail
              refine CI.out.mono ?_
              rintro e w1 ⟨rfl, rfl⟩
              clear CI
              go_wp2_with fail
              refine CP.out.mono ?_
              rintro e w2 ⟨rfl, _, hb2⟩
              have H2 := hidp (H1.out.below' hb2)
              have CE := hidp (error_any 4 4 w2 (HGL.out.below H2.out.below))
              clear CP H1 hb2 b0 b1 b2 b3 bl c0 c1 d0 d1
              rw [errV_pos (show (4 : Nat) ≠ 0 by decide)] at CE ⊢
              have hee : (((4 : Nat) : Int) == ((4 : Nat) : Int)) = true := by simp
              go_wp2_with fail
              refine CE.out.mono ?_
              rintro e w3 ⟨rfl, hb3⟩
              have HP := hidp (H2.out.below' hb3)
              clear CE H2 hb3 hee
              obtain ⟨b0, b1, b2, b3⟩ : _ ∧ _ ∧ _ ∧ _ := ⟨HP.out.box.cell (j := 0) rfl, HP.out.box.cell (j := 1) rfl, HP.out.box.cell (j := 2) rfl, HP.out.box.cell (j := 3) rfl⟩
              have bl := HP.out.box.lt
              go_wp2_with fail
              clear b0 b1 b2 b3 bl
              have hcn := HP.out.counts
              have CM := hidp (HP.out.doc.counts hcn.2 (Nat.le_trans hcn.1 (by omega)) (r0 : Int) (400 : Nat))
              clear hcn
              refine CM.out.mono ?_
              rintro e w5 ⟨rfl, hb5⟩
              have HP5 := hidp (HP.out.below' hb5)
              clear HP CM hb5
              have hA1 : ((manyS (ts) : Int) != (manyS (ts) : Int)) = false := by simp
              have hA3 : ((manyS ts : Int) != (M : Int)) = false := by rw [HM.out]; simp
              have hA2 : ((wrongS (ts) : Int) != (wrongS (ts) : Int)) = false := by simp
              go_wp2_with fail
              refine (sh_many HP5.out.heap).mono ?_
              rintro e w6 ⟨rfl, _, hb6⟩
              have HP6 := hidp (HP5.out.below' hb6)
              clear HP5 hb6
              go_wp2_with fail
              refine (sh_wrong HP6.out.heap).mono ?_
              rintro e w7 ⟨rfl, _, hb7⟩
              have HP7 := hidp (HP6.out.below' hb7)
              clear HP6 hb7
              go_wp2
              go_roundg (900 - (i + 1))
              case measure => omega
              case rel => exact ⟨i + 1, _, _, _, _, _, _, rfl, by go_num, by omega, Nat.le_refl _, HM, HP7.out⟩
          · rw [if_neg hev0] at hW1
            have hez : ((ev : Int) == 0) = false := beq_eq_false_iff_ne.2 (by omega)
            have CP := hidp (sh_full H1.out.heap (x0 := x0) (x1 := x1) (by rw [hW1]; omega))
            rw [hW1] at CP
            clear hW1 HP0
            go_wp2_with fail
            refine CI.out.mono ?_
            rintro e w1 ⟨rfl, rfl⟩
            clear CI
            go_wp2_with fail
            refine CP.out.mono ?_
            rintro e w2 ⟨rfl, _, hb2⟩
            have H2 := hidp (H1.out.below' hb2)
            have CE := hidp (error_any ev ev w2 (HGL.out.below H2.out.below))
            clear CP H1 hb2 b0 b1 b2 b3 bl c0 c1 d0 d1
            rw [errV_pos hev0] at CE ⊢
            have hee : (((ev : Nat) : Int) == ((ev : Nat) : Int)) = true := by simp
            go_wp2_with fail
            refine CE.out.mono ?_
            rintro e w3 ⟨rfl, hb3⟩
            have HP := hidp (H2.out.below' hb3)
            clear CE H2 hb3 hee
            obtain ⟨b0, b1, b2, b3⟩ : _ ∧ _ ∧ _ ∧ _ := ⟨HP.out.box.cell (j := 0) rfl, HP.out.box.cell (j := 1) rfl, HP.out.box.cell (j := 2) rfl, HP.out.box.cell (j := 3) rfl⟩
            have bl := HP.out.box.lt
            go_wp2_with fail
            clear b0 b1 b2 b3 bl
            have hcn := HP.out.counts
            have CM := hidp (HP.out.doc.counts hcn.2 (Nat.le_trans hcn.1 (by omega)) (r0 : Int) (N : Nat))
            clear hcn
            refine CM.out.mono ?_
            rintro e w5 ⟨rfl, hb5⟩
            have HP5 := hidp (HP.out.below' hb5)
            clear HP CM hb5
            have hA1 : ((manyS (ts) : Int) != (manyS (ts) : Int)) = false := by simp
            have hA3 : ((manyS ts : Int) != (M : Int)) = false := by rw [HM.out]; simp
            have hA2 : ((wrongS (ts) : Int) != (wrongS (ts) : Int)) = false := by simp
            go_wp2_with fail
            refine (sh_many HP5.out.heap).mono ?_
            rintro e w6 ⟨rfl, _, hb6⟩
            have HP6 := hidp (HP5.out.below' hb6)
            clear HP5 hb6
            go_wp2_with fail
            refine (sh_wrong HP6.out.heap).mono ?_
            rintro e w7 ⟨rfl, _, hb7⟩
            have HP7 := hidp (HP6.out.below' hb7)
            clear HP6 hb7
            go_wp2
            go_roundg (900 - (i + 1))
            case measure => omega
            case rel => exact ⟨i + 1, _, _, _, _, _, _, rfl, by go_num, by omega, Nat.le_refl _, HM, HP7.out⟩
      · have hz9 : ¬ ((i : Int) < 900) := by omega
        have HP0 := hidp hP
        clear hP
        go_wp2
        go_ret
        exact ⟨rfl, HP0.out.below⟩
    · have hz : ¬ ((i : Int) < (n : Int)) := by omega
      have HP0 := hidp hP
      clear hP
      go_wp2
      go_ret
      exact ⟨rfl, HP0.out.below⟩
theorem softPlays_any (rk : Int) (v : Value) (xs : Array (Int × Int)) (w : World) (hgl : Glob w) (h : Sl w v xs) : Calls Tryd.prog 4 #[.int .i64 rk, v] w fun e w' => e = .returned (.bool true) ∧ Below w.heap.size w w' := by
  obtain ⟨p, cap, rfl, hc, hp⟩ := id h
  by_cases h1 : rk < 0 ∨ 8 < rk
  · exact softPlays_bad rk _ w hgl h1
  · exact softPlays_some rk.toNat rk p _ cap xs w hgl (by omega) (by omega) h
#print axioms softPlays_any
end Go.Proofs.YtdpfijhkbhmkgaaDoor
