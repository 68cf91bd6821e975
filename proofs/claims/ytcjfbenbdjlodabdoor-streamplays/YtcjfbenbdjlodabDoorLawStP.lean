/-
  The law StreamPlays, walked: any stream, and any numbers that come. (Written by wip/gen/stplays.py.)
-/
import Derived.Test.YtcjfbenbdjlodabDoorLawLst
import Derived.Test.YtcjfbenbdjlodabDoorRefZ
import Derived.Test.YtcjfbenbdjlodabDoorTold
namespace Go.Proofs.YtcjfbenbdjlodabDoor
open Go.RowKit Go.Sort Go.Proofs

theorem err_same (k : Nat) (h : k ≠ 0) (w : World) (hg : Glob w) : Calls Tryd.prog 5 #[.iface 35 (.int .i64 (k : Int)), .int .i64 (k : Int)] w fun e w' => e = .returned (.bool true) ∧ Below w.heap.size w w' := by
  have := error_any k k w hg
  rw [show errV k = .iface 35 (.int .i64 (k : Int)) from if_neg h] at this
  simpa using this
theorem RdE.tailZ {w : World} {g n : Nat} {ys : List Int} (h : RdE EZ w g 0 ys) (o : Nat) (hn : n = o) : RdE EZ w g n (ys.drop o) := by
  subst hn
  have := h.part (E := EZ) (ys := ys.drop n) (zs := []) n (by simp)
  have e : 0 + n * EZ.K = n := by show 0 + n * 1 = n; omega
  rw [e] at this
  exact this
theorem own_rd {w : World} {base g n cap : Nat} {ys : List Int} (h : OwnE EZ w base (.slice (some ⟨g, 0, none⟩) n cap) ys) (hn : 0 < n) : RdE EZ w g 0 ys := by
  obtain ⟨hl, _, _⟩ := h.capBound
  obtain ⟨g', cp, e, _, _, hr, _⟩ := h.some hl hn
  simp only [Value.slice.injEq, Option.some.injEq, Addr.mk.injEq] at e
  obtain ⟨⟨rfl, _⟩, _⟩ := e
  exact hr
theorem head_least {ls zs : List Int} {m : Int} (h : LeastOf ls m) (s : SortedZ ls zs) : zs[0]? = some m := by
  have h0 : 0 < zs.length := by
    have := s.perm.length_eq
    have := List.length_pos_of_mem h.1
    omega
  have hm : m ∈ zs := s.perm.symm.subset h.1
  cases zs with
  | nil => simp at h0
  | cons a t =>
    have ha : m ≤ a := h.2 a (s.perm.subset List.mem_cons_self)
    have hb : a ≤ m := by
      rcases List.mem_cons.1 hm with e | z
      · omega
      · exact (List.pairwise_cons.1 s.up).1 m z
    obtain rfl : a = m := by omega
    rfl
theorem half_wrap (k : Nat) (hk : k ≤ 1000) : IntKind.i64.wrap (k : Int) = (k : Int) ∧ Int.tdiv (k : Int) 2 = ((k / 2 : Nat) : Int) ∧ IntKind.i64.wrap ((k / 2 : Nat) : Int) = ((k / 2 : Nat) : Int) := by
  refine ⟨?_, ?_, ?_⟩
  · rw [IntKind.wrap_i64]; omega
  · rw [Int.tdiv_eq_ediv_of_nonneg (by omega)]; omega
  · rw [IntKind.wrap_i64]; omega
set_option maxHeartbeats 4000000 in
theorem plays_lost {w : World} (hgl : Glob w) {room : Int} (h : room < 1 ∨ 60 < room) (p : Option Addr) (n cap : Nat) :
    Calls Tryd.prog 3 #[.int .i64 room, .slice p n cap] w fun e w' => e = .returned (.bool true) ∧ Below w.heap.size w w' := by
  have C1 := hidp (new_bad (w := w) h)
  have CE := hidp (err_same 1 (by decide) w hgl)
  have hq : room < 1 ∨ (60 < room ∧ ¬ room < 1) := by omega
  clear hgl h
  rcases hq with q | ⟨q, q2⟩
  all_goals
    go_enter Tryd.func3, Tryd.ntmps3
    go_wp2_with fail
    refine C1.out.mono ?_
    rintro e w1 ⟨rfl, rfl⟩
    go_wp2_with fail
    refine CE.out.mono ?_
    rintro e w2 ⟨rfl, hb⟩
    have HB := hidp hb
    clear hb C1 CE
    go_wp2
    go_ret
    exact ⟨rfl, HB.out⟩
set_option maxHeartbeats 4000000 in
theorem plays_empty (room : Nat) (hr1 : 1 ≤ room) (hr2 : room ≤ 60) (p : Option Addr) (cap : Nat) (w : World) :
    Calls Tryd.prog 3 #[.int .i64 (room : Int), .slice p 0 cap] w fun e w' => e = .returned (.bool true) ∧ Below w.heap.size w w' := by
  have C1 := hidp (ss_new (w := w) (room := room) hr1 hr2)
  have z1 : ¬ ((room : Int) < 1) := by omega
  have z2 : ¬ ((60 : Int) < (room : Int)) := by omega
  go_enter Tryd.func3, Tryd.ntmps3
  go_wp2_with fail
  refine C1.out.mono ?_
  rintro e w2 ⟨sb, f, rfl, h1, h2, h3⟩
  have HB2 := hidp h3
  clear h1 h2 h3 C1
  go_wp2
  refine wp_loop_rounds 1 ?_
  rw [rounds_succ]
  go_wp2
  go_ret
  exact ⟨rfl, HB2.out⟩
set_option maxHeartbeats 16000000 in
set_option maxRecDepth 100000 in
theorem plays_full (room : Nat) (hr1 : 1 ≤ room) (hr2 : room ≤ 60) (blk off n cap : Nat) (xs : List Int) (w : World) (hgl : Glob w) (hr : RdE EZ w blk off xs) (hn : xs.length = n) :
    Calls Tryd.prog 3 #[.int .i64 (room : Int), .slice (some ⟨blk, off, none⟩) n cap] w fun e w' => e = .returned (.bool true) ∧ Below w.heap.size w w' := by
  have C1 := hidp (ss_new (w := w) (room := room) hr1 hr2)
  have HR := hidp hr
  have HN := hidp hn
  have HG := hidp hgl
  have CE1 := hidp (fun (wx : World) (hb : Below w.heap.size w wx) => err_same 1 (by decide) wx (hgl.below hb))
  have CE5 := hidp (fun (wx : World) (hb : Below w.heap.size w wx) => err_same 5 (by decide) wx (hgl.below hb))
  have z1 : ¬ ((room : Int) < 1) := by omega
  have z2 : ¬ ((60 : Int) < (room : Int)) := by omega
  clear hr hn hgl
  go_enter Tryd.func3, Tryd.ntmps3
  go_wp2_with fail
  refine C1.out.mono ?_
  rintro e w2 ⟨sb, f, rfl, h1, h2, h3⟩
  have HI := hidp (Beside.begin (Below.refl _ _) h1 h2 h3)
  clear h1 h2 h3 C1
  go_wp2
  go_loopg [7, 8] 61 (fun gg v7 v8 wr => ∃ (i : Nat) (zs : List Int) (f : List Nat), v8 = .int .i64 i ∧ i + gg = 61 ∧ zs.length ≤ i ∧ i ≤ 60 ∧ Hid (Beside w sb room zs f v7 zs wr))
  case atStart => exact ⟨0, [], f, rfl, rfl, Nat.zero_le _, by omega, HI⟩
  case round =>
    obtain ⟨i, zs, f, rfl, hg, hzi, hi60, HB⟩ := hrel
    clear HI
    by_cases hlt : i < n ∧ i < 60
    · obtain ⟨hin, hi6⟩ := hlt
      have hiz : (i : Int) < (n : Int) := by omega
      have hiz2 : (i : Int) < 60 := by omega
      have hid0 : decide ((i : Int) < (n : Int)) = true := decide_eq_true hiz
      obtain ⟨c, hc⟩ : ∃ c, xs[i]? = some c := ⟨_, List.getElem?_eq_getElem (by rw [HN.out]; exact hin)⟩
      have HC := hidp hc
      have ca := HR.out.nums HB.out.below hc
      obtain ⟨p6, n6, c6, e6⟩ := form3 HB.out.own
      subst e6
      clear hc
      by_cases hbad : c < -1000000 ∨ 1000000 < c
      · have hq : c < -1000000 ∨ (1000000 < c ∧ ¬ c < -1000000) := by omega
        have CP := hidp (put_bad (w := wr) (sb := sb) hbad)
        clear hbad
        rcases hq with q1 | ⟨q1, q2⟩
        all_goals
          go_wp2_with fail
          refine CP.out.mono ?_
          rintro e wa ⟨rfl, rfl⟩
          go_wp2_with fail
          refine (CE1.out _ HB.out.below).mono ?_
          rintro e wb ⟨rfl, hbb⟩
          have K4 := hidp (HB.out.same hbb)
          clear CP ca hbb HB
          rcases Nat.eq_zero_or_pos zs.length with hz0 | hz0
          · obtain rfl : zs = [] := List.eq_nil_of_length_eq_zero hz0
            obtain ⟨p7, c7, e7⟩ := K4.out.own.form
            simp only [Value.slice.injEq, List.length_nil] at e7
            obtain ⟨rfl, rfl, rfl⟩ := e7
            clear hz0
            go_wp2_with fail
            refine (ss_middle_none K4.out.st).mono ?_
            rintro e wc ⟨rfl, rfl⟩
            go_wp2_with fail
            refine (ss_least_none K4.out.st).mono ?_
            rintro e wd ⟨rfl, rfl⟩
            go_wp2_with fail
            refine (CE5.out _ K4.out.below).mono ?_
            rintro e we ⟨rfl, hb1⟩
            have K5 := hidp (K4.out.same hb1)
            clear hb1 K4
            go_wp2_with fail
            refine (CE5.out _ K5.out.below).mono ?_
            rintro e wf ⟨rfl, hb1⟩
            have K6 := hidp (K5.out.same hb1)
            clear hb1 K5
            go_wp2
            go_roundg (61 - (i + 1))
            case measure => omega
            case rel => exact ⟨i + 1, [], f, by go_num, by omega, Nat.zero_le _, by omega, K6⟩
          · obtain ⟨k, hk⟩ : ∃ k, zs.length = k + 1 := ⟨zs.length - 1, by omega⟩
            obtain ⟨gb, cap1, e1, hcap1⟩ := num_some K4.out.own hk (Nat.succ_pos k)
            simp only [Value.slice.injEq] at e1
            obtain ⟨rfl, rfl, rfl⟩ := e1
            have hki : k + 1 ≤ i + 1 := by omega
            have HNN := hidp hk
            clear hk hz0 hzi
            have hk6 : k + 1 ≤ 60 := by omega
            have CM := hidp (ss_middle K4.out.st (by rw [HNN.out]; exact Nat.succ_pos k))
            have CL := hidp (ss_least K4.out.st (by rw [HNN.out]; exact Nat.succ_pos k))
            have hzz : ((k : Int) + 1 == 0) = false := beq_eq_false_iff_ne.2 (by omega)
            go_wp2_with fail
            refine CM.out.mono ?_
            rintro e we ⟨m, rfl, hm, rfl⟩
            have HM := hidp hm
            clear hm CM
            go_wp2_with fail
            refine CL.out.mono ?_
            rintro e wf ⟨nS, rfl, hS, rfl⟩
            have HS := hidp hS
            have CI := hidp (ints_any (cap := c6) (own_rd K4.out.own (Nat.succ_pos k)) HNN.out (Nat.succ_pos k) hk6)
            clear hS CL
            go_wp2_with fail
            refine CI.out.mono ?_
            rintro e wg ⟨u1, rfl, zs1, o1, s1, b1⟩
            obtain ⟨g1, c1', rfl, hc1'⟩ := num_some (o1.weak (Nat.zero_le _)) (n := k + 1) (by rw [s1.perm.length_eq, HNN.out]) (Nat.succ_pos k)
            have K5 := hidp (K4.out.same b1)
            have HO1 := hidp (o1.weak (Nat.zero_le _))
            have HS1 := hidp s1
            clear o1 s1 b1 CI K4
            go_wp2_with fail
            refine (lasts_any (w := wg) (g := gb) hr1 (Nat.succ_pos k) hcap1 (by omega) hr2).mono ?_
            rintro e wh ⟨rfl, rfl⟩
            obtain ⟨o, ho⟩ : ∃ o, k + 1 - room = o := ⟨_, rfl⟩
            obtain ⟨q, hq⟩ : ∃ q, k + 1 - o = q := ⟨_, rfl⟩
            obtain ⟨cq, hcq⟩ : ∃ cq, c6 - o = cq := ⟨_, rfl⟩
            have HS2 : Hid (LeastOf (zs.drop o) nS) := by have := HS.out; rw [HNN.out, ho] at this; exact this
            have HQ : Hid ((zs.drop o).length = q) := by show _ = _; rw [List.length_drop, HNN.out, hq]
            have hq0 : 0 < q := by omega
            have CJ := hidp (ints_any (cap := cq) (RdE.tailZ (own_rd K5.out.own (Nat.succ_pos k)) o rfl) HQ.out hq0 (by omega))
            rw [ho, hq, hcq]
            clear ho hcq HS hq
            go_wp2_with fail
            refine CJ.out.mono ?_
            rintro e wi ⟨u2, rfl, zs2, o2, s2, b2⟩
            obtain ⟨g2, c2', rfl, hc2'⟩ := num_some (o2.weak (Nat.zero_le _)) (n := q) (by rw [s2.perm.length_eq, HQ.out]) hq0
            have K6 := hidp (K5.out.same b2)
            have cm := ((num_kept HO1.out (F := fun _ => False) (Chg.of_below b2) (fun _ _ z => z)).num (i := k / 2) (k := m) (by have := mid_at HM.out (by rw [HNN.out]; exact Nat.succ_pos k) HS1.out.perm HS1.out.up; rw [HNN.out] at this; exact this)).1
            have cn := ((o2.weak (Nat.zero_le _)).num (head_least HS2.out s2)).1
            obtain ⟨w1', w2', w3'⟩ := half_wrap k (by omega)
            have hk2 : ((k / 2 : Nat) : Int) < (k : Int) + 1 := by omega
            have hq2 : (0 : Int) < (q : Int) := by omega
            generalize k / 2 = kh at cm w2' w3' hk2
            clear o2 s2 b2 CJ K5 HO1 HS1 HM HS2
            go_wp2
            go_roundg (61 - (i + 1))
            case measure => omega
            case rel => exact ⟨i + 1, zs, f, by go_num, by omega, by rw [HNN.out]; exact hki, by omega, K6⟩
      · have CP := hidp (HB.out.put (by omega) hbad)
        have zb1 : ¬ (c < -1000000) := by omega
        have zb2 : ¬ (1000000 < c) := by omega
        clear hbad
        go_wp2_with (first | (go_at_call 6; refine CP.out.mono ?_; rintro e w3 ⟨rfl, f3, k3⟩; have cb := HR.out.nums k3.below HC.out; have K3 := hidp k3; have HOA := hidp (k3.own.alloc (.cells #[.int .i64 c] 3)); have HNEW := hidp (new_num w3 c); have HLN : Hid (zs.length ≤ 100000) := (by show _ ≤ _; omega); clear k3) | (at_builtin; refine wpList_appendE EZ rfl (.tmp 64) (.tmp 69) rfl 0 _ zs c ⟨w3.heap.size, 0, none⟩ 1 rfl HOA.out rfl HNEW.out HLN.out (Nat.zero_le _) ?_; intro v1 wd a1 a2 a3; obtain ⟨p1, n1, cp1, rfl⟩ := form3 a1; have hk4 := K3.out.app a1 a2 a3; have K4 := hidp hk4; clear a1 a2 a3 hk4))
        obtain ⟨ys, hY⟩ : ∃ ys, zs ++ [c] = ys := ⟨_, rfl⟩
        rw [hY] at K4
        obtain ⟨k, hk⟩ : ∃ k, ys.length = k + 1 := ⟨zs.length, by rw [← hY]; simp⟩
        have hki : k + 1 ≤ i + 1 := by rw [← hk, ← hY]; simp; omega
        obtain ⟨gb, cap1, e1, hcap1⟩ := num_some K4.out.own hk (Nat.succ_pos k)
        simp only [Value.slice.injEq] at e1
        obtain ⟨rfl, rfl, rfl⟩ := e1
        have HNN := hidp hk
        clear CP K3 HOA HNEW HLN cb ca HB hY hk hzi
        have hk6 : k + 1 ≤ 60 := by omega
        have CM := hidp (ss_middle K4.out.st (by rw [HNN.out]; exact Nat.succ_pos k))
        have CL := hidp (ss_least K4.out.st (by rw [HNN.out]; exact Nat.succ_pos k))
        have hzz : ((k : Int) + 1 == 0) = false := beq_eq_false_iff_ne.2 (by omega)
        go_wp2_with fail
        refine CM.out.mono ?_
        rintro e we ⟨m, rfl, hm, rfl⟩
        have HM := hidp hm
        clear hm CM
        go_wp2_with fail
        refine CL.out.mono ?_
        rintro e wf ⟨nS, rfl, hS, rfl⟩
        have HS := hidp hS
        have CI := hidp (ints_any (cap := cp1) (own_rd K4.out.own (Nat.succ_pos k)) HNN.out (Nat.succ_pos k) hk6)
        clear hS CL
        go_wp2_with fail
        refine CI.out.mono ?_
        rintro e wg ⟨u1, rfl, zs1, o1, s1, b1⟩
        obtain ⟨g1, c1', rfl, hc1'⟩ := num_some (o1.weak (Nat.zero_le _)) (n := k + 1) (by rw [s1.perm.length_eq, HNN.out]) (Nat.succ_pos k)
        have K5 := hidp (K4.out.same b1)
        have HO1 := hidp (o1.weak (Nat.zero_le _))
        have HS1 := hidp s1
        clear o1 s1 b1 CI K4
        go_wp2_with fail
        refine (lasts_any (w := wg) (g := gb) hr1 (Nat.succ_pos k) hcap1 (by omega) hr2).mono ?_
        rintro e wh ⟨rfl, rfl⟩
        obtain ⟨o, ho⟩ : ∃ o, k + 1 - room = o := ⟨_, rfl⟩
        obtain ⟨q, hq⟩ : ∃ q, k + 1 - o = q := ⟨_, rfl⟩
        obtain ⟨cq, hcq⟩ : ∃ cq, cp1 - o = cq := ⟨_, rfl⟩
        have HS2 : Hid (LeastOf (ys.drop o) nS) := by have := HS.out; rw [HNN.out, ho] at this; exact this
        have HQ : Hid ((ys.drop o).length = q) := by show _ = _; rw [List.length_drop, HNN.out, hq]
        have hq0 : 0 < q := by omega
        have CJ := hidp (ints_any (cap := cq) (RdE.tailZ (own_rd K5.out.own (Nat.succ_pos k)) o rfl) HQ.out hq0 (by omega))
        rw [ho, hq, hcq]
        clear ho hcq HS hq
        go_wp2_with fail
        refine CJ.out.mono ?_
        rintro e wi ⟨u2, rfl, zs2, o2, s2, b2⟩
        obtain ⟨g2, c2', rfl, hc2'⟩ := num_some (o2.weak (Nat.zero_le _)) (n := q) (by rw [s2.perm.length_eq, HQ.out]) hq0
        have K6 := hidp (K5.out.same b2)
        have cm := ((num_kept HO1.out (F := fun _ => False) (Chg.of_below b2) (fun _ _ z => z)).num (i := k / 2) (k := m) (by have := mid_at HM.out (by rw [HNN.out]; exact Nat.succ_pos k) HS1.out.perm HS1.out.up; rw [HNN.out] at this; exact this)).1
        have cn := ((o2.weak (Nat.zero_le _)).num (head_least HS2.out s2)).1
        obtain ⟨w1', w2', w3'⟩ := half_wrap k (by omega)
        have hk2 : ((k / 2 : Nat) : Int) < (k : Int) + 1 := by omega
        have hq2 : (0 : Int) < (q : Int) := by omega
        generalize k / 2 = kh at cm w2' w3' hk2
        clear o2 s2 b2 CJ K5 HO1 HS1 HM HS2
        go_wp2
        go_roundg (61 - (i + 1))
        case measure => omega
        case rel => exact ⟨i + 1, ys, f3, by go_num, by omega, by rw [HNN.out]; exact hki, by omega, K6⟩
    · by_cases hin : i < n
      · obtain rfl : i = 60 := by omega
        have hiz : ((60 : Nat) : Int) < (n : Int) := by omega
        have hiz' : (60 : Int) < (n : Int) := by omega
        go_wp2
        go_ret
        exact ⟨rfl, HB.out.below⟩
      · have hiz : ¬ ((i : Int) < (n : Int)) := by omega
        go_wp2
        go_ret
        exact ⟨rfl, HB.out.below⟩
theorem streamPlays_any (room : Int) (v : Value) (xs : List Int) (w : World) (h : SlE EZ w v xs) (hgl : Glob w) :
    Calls Tryd.prog 3 #[.int .i64 room, v] w fun e w' => e = .returned (.bool true) ∧ Below w.heap.size w w' := by
  by_cases hb : room < 1 ∨ 60 < room
  · obtain ⟨p, cap, rfl, _⟩ := h
    exact plays_lost hgl hb p _ cap
  · obtain ⟨r, rfl⟩ : ∃ r : Nat, room = (r : Int) := ⟨room.toNat, by omega⟩
    obtain ⟨p, cap, rfl, hc, hp | ⟨blk, off, rfl, hr⟩⟩ := h
    · subst hp
      exact plays_empty r (by omega) (by omega) p cap w
    · exact plays_full r (by omega) (by omega) blk off _ cap xs w hgl hr rfl
#print axioms streamPlays_any
end Go.Proofs.YtcjfbenbdjlodabDoor
