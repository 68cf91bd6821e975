/-
  Package heap at whole numbers, told by stream.greater: firstBelow, sink, rise. (Written by wip/gen/qsink.py.)
-/
import Derived.Test.YtcjfbenbdjlodabQRow
import Derived.Deep.RegionWith
namespace Go.Proofs.Ytcjfbenbdjlodab
open Go.RowKit Go.Sort Go.Proofs

theorem cmpG_yes {x z : Int × Int} (h : z.1 < x.1) (W : World) : Calls Try.prog 17 #[.int .i64 (valG z), .int .i64 (valG x)] W fun e w' => e = .returned (.bool true) ∧ w' = W := by
  have h1 := ordG h
  generalize valG z = cz at h1 ⊢
  generalize valG x = cx at h1 ⊢
  go_enter Try.func17, Try.ntmps17
  go_wp2
  go_ret
  exact ⟨rfl, rfl⟩
theorem cmpG_no {x z : Int × Int} (h : ¬ z.1 < x.1) (W : World) : Calls Try.prog 17 #[.int .i64 (valG z), .int .i64 (valG x)] W fun e w' => e = .returned (.bool false) ∧ w' = W := by
  have h1 := ordG' h
  generalize valG z = cz at h1 ⊢
  generalize valG x = cx at h1 ⊢
  go_enter Try.func17, Try.ntmps17
  go_wp2
  go_ret
  exact ⟨rfl, rfl⟩

theorem firstBelowG_far (p : Option Addr) (cap n i : Nat) (w : World) (h60 : n ≤ 1000) (hi : i ≤ n) (hb : n ≤ 2 * i + 2) :
    Calls Try.prog 46 #[.slice p n cap, .int .i64 i, .func (.func 17) #[] #[]] w fun e w' => e = .returned (.int .i64 (2 * i + 1 : Nat)) ∧ ∃ q, w' = w.drewN q := by
  have w0 : IntKind.i64.wrap (2 * (i : Int)) = 2 * (i : Int) := by rw [IntKind.wrap_i64]; omega
  have w1 : IntKind.i64.wrap (2 * (i : Int) + 1) = 2 * (i : Int) + 1 := by rw [IntKind.wrap_i64]; omega
  have w2 : IntKind.i64.wrap (2 * (i : Int) + 2) = 2 * (i : Int) + 2 := by rw [IntKind.wrap_i64]; omega
  have hbz : ¬ 2 * (i : Int) + 2 < (n : Int) := by omega
  have hbd : decide (2 * (i : Int) + 2 < (n : Int)) = false := decide_eq_false hbz
  go_enter Try.func46, Try.ntmps46
  go_wp2_with fail
  go_quiet (fail)
  go_wp2
  go_ret
  exact ⟨rfl, nq, rfl⟩
set_option maxHeartbeats 4000000 in
theorem firstBelowG_any (g cap n i : Nat) (d : Array (Int × Int)) (w : World) (hn : Hid (d.size = n)) (h60 : n ≤ 1000) (hi : i < n) (hr : Hid (OwnE EZ w 0 (.slice (some ⟨g, 0, none⟩) n cap) (d.toList.map valG))) :
    Calls Try.prog 46 #[.slice (some ⟨g, 0, none⟩) n cap, .int .i64 i, .func (.func 17) #[] #[]] w fun e w' => e = .returned (.int .i64 (low d i : Nat)) ∧ ∃ q, w' = w.drewN q := by
  by_cases hb : 2 * i + 2 < n
  · have w0 : IntKind.i64.wrap (2 * (i : Int)) = 2 * (i : Int) := by rw [IntKind.wrap_i64]; omega
    have w1 : IntKind.i64.wrap (2 * (i : Int) + 1) = 2 * (i : Int) + 1 := by rw [IntKind.wrap_i64]; omega
    have w2 : IntKind.i64.wrap (2 * (i : Int) + 2) = 2 * (i : Int) + 2 := by rw [IntKind.wrap_i64]; omega
    have t1 : (2 * (i : Int) + 1).toNat = 2 * i + 1 := by omega
    have t2 : (2 * (i : Int) + 2).toNat = 2 * i + 2 := by omega
    have p1 : (0 : Int) ≤ 2 * (i : Int) + 1 := by omega
    have p2 : (0 : Int) ≤ 2 * (i : Int) + 2 := by omega
    have hbz : 2 * (i : Int) + 2 < (n : Int) := by omega
    have haz : 2 * (i : Int) + 1 < (n : Int) := by omega
    have hbd : decide (2 * (i : Int) + 2 < (n : Int)) = true := decide_eq_true hbz
    have cy := (hr.out.num (map_at valG d (i := 2 * i + 1) (by rw [hn.out]; omega))).1
    have cz := (hr.out.num (map_at valG d (i := 2 * i + 2) (by rw [hn.out]; omega))).1
    by_cases hzy : d[2 * i + 2]!.1 < d[2 * i + 1]!.1
    · have HL : Hid (low d i = 2 * i + 2) := by show _ = _; unfold low; rw [if_pos]; rw [hn.out]; exact ⟨hb, hzy⟩
      have hcg := cmpG_yes hzy
      generalize valG d[2 * i + 1]! = y at cy hcg
      generalize valG d[2 * i + 2]! = z at cz hcg
      have HCG : Aside _ := hcg
      clear hcg hzy hr
      go_enter Try.func46, Try.ntmps46
      go_wp2_with fail
      go_quiet (first | (go_at_call 17; refine Calls.quiet_of_same (HCG.out _)))
      go_wp2
      go_ret
      exact ⟨by rw [HL.out]; rfl, nq, rfl⟩
    · have HL : Hid (low d i = 2 * i + 1) := by show _ = _; unfold low; rw [if_neg]; rw [hn.out]; exact fun h => hzy h.2
      have hcg := cmpG_no hzy
      generalize valG d[2 * i + 1]! = y at cy hcg
      generalize valG d[2 * i + 2]! = z at cz hcg
      have HCG : Aside _ := hcg
      clear hcg hzy hr
      go_enter Try.func46, Try.ntmps46
      go_wp2_with fail
      go_quiet (first | (go_at_call 17; refine Calls.quiet_of_same (HCG.out _)))
      go_wp2
      go_ret
      exact ⟨by rw [HL.out]; rfl, nq, rfl⟩
  · have HL : low d i = 2 * i + 1 := by unfold low; rw [if_neg]; rw [hn.out]; exact fun h => hb h.1
    rw [HL]
    exact firstBelowG_far _ cap n i w h60 (by omega) (by omega)

theorem sinkG_none (p : Option Addr) (cap : Nat) (w : World) : Calls Try.prog 44 #[.slice p 0 cap, .int .i64 0, .func (.func 17) #[] #[]] w fun e w' => e = .returned (.tuple #[]) ∧ ∃ q, w' = w.drewN q := by
  have C := firstBelowG_far p cap 0 0 w (by omega) (by omega) (by omega)
  have CC : Hid (Calls Try.prog 46 #[.slice p 0 cap, .int .i64 0, .func (.func 17) #[] #[]] w fun e w' => e = .returned (.int .i64 1) ∧ ∃ q, w' = w.drewN q) := C
  clear C
  go_enter Try.func44, Try.ntmps44
  go_wp2
  refine wp_loop_rounds 1 ?_
  rw [rounds_succ]
  go_wp2_with fail
  refine CC.out.mono ?_
  rintro e w1 ⟨rfl, q, rfl⟩
  go_wp2_with fail
  go_quiet (fail)
  go_wp2
  refine bodyPost_ret (results_none rfl _ _ _) rfl ?_
  exact ⟨rfl, _, by rw [World.drewN_drewN]⟩

set_option maxHeartbeats 8000000 in
set_option maxRecDepth 4000 in
theorem sinkG_any (g cap n i0 : Nat) (d0 : Array (Int × Int)) (w : World) (h60 : n ≤ 1000) (hi0 : i0 < n) (HN0 : Hid (d0.size = n)) (HW0 : Hid (OwnE EZ w 0 (.slice (some ⟨g, 0, none⟩) n cap) (d0.toList.map valG))) :
    Calls Try.prog 44 #[.slice (some ⟨g, 0, none⟩) n cap, .int .i64 i0, .func (.func 17) #[] #[]] w fun e w' => e = .returned (.tuple #[]) ∧ OwnE EZ w' 0 (.slice (some ⟨g, 0, none⟩) n cap) ((sinkA d0 i0).toList.map valG) ∧ w.grownBy w' (some g) := by
  go_enter Try.func44, Try.ntmps44
  go_wp2
  go_loopg [1] (n - i0) (fun gg vi wr => ∃ i : Nat, vi = .int .i64 i ∧ i + gg = n ∧ i < n ∧ ∃ d : Array (Int × Int), Hid (d.size = n) ∧ Hid (OwnE EZ wr 0 (.slice (some ⟨g, 0, none⟩) n cap) (d.toList.map valG)) ∧ Hid (sinkA d i = sinkA d0 i0) ∧ Hid (w.grownBy wr (some g)))
  case atStart => exact ⟨i0, rfl, by omega, hi0, d0, HN0, HW0, rfl, World.grownBy.refl w _⟩
  case round =>
    obtain ⟨i, rfl, hg, hi, d, HN, HW, HE, HG⟩ := hrel
    have c := firstBelowG_any g cap n i d wr HN h60 hi HW
    obtain ⟨k, hk⟩ : ∃ k, low d i = k := ⟨_, rfl⟩
    have hik : i < k := by have := low_cases d i; omega
    have hk2 : k ≤ 2 * i + 2 := by have := low_cases d i; omega
    rw [hk] at c
    have HK : Hid (low d i = k) := hk
    have C : Hid (Calls Try.prog 46 #[.slice (some ⟨g, 0, none⟩) n cap, .int .i64 i, .func (.func 17) #[] #[]] wr fun e w' => e = .returned (.int .i64 k) ∧ ∃ q, w' = wr.drewN q) := c
    clear c hk
    by_cases hkn : k < n
    · have hkz : ¬ (n : Int) ≤ (k : Int) := by omega
      have hkd : decide ((n : Int) ≤ (k : Int)) = false := decide_eq_false hkz
      have hkz' : (k : Int) < (n : Int) := by omega
      have hiz : (i : Int) < (n : Int) := by omega
      obtain ⟨x, hx⟩ : ∃ x, valG d[i]! = x := ⟨_, rfl⟩
      obtain ⟨z, hz⟩ : ∃ z, valG d[k]! = z := ⟨_, rfl⟩
      have HX : Hid (valG d[i]! = x) := hx
      have HZ : Hid (valG d[k]! = z) := hz
      by_cases hzx : d[k]!.1 < d[i]!.1
      · have hcg := cmpG_yes hzx
        rw [hx, hz] at hcg
        have HCG : Aside _ := hcg
        have HZX : Hid (d[k]!.1 < d[i]!.1) := hzx
        clear hcg hzx hx hz
        go_wp2_with fail
        refine C.out.mono ?_
        rintro e w1 ⟨rfl, q, rfl⟩
        have HW1 : Hid (OwnE EZ (wr.drewN q) 0 (.slice (some ⟨g, 0, none⟩) n cap) (d.toList.map valG)) := num_dn HW.out q
        have HG1 : Hid (w.grownBy (wr.drewN q) (some g)) := gb_drewN HG.out q
        generalize wr.drewN q = w1 at HW1 HG1 ⊢
        obtain ⟨cx, fx⟩ := HW1.out.num (map_at valG d (by rw [HN.out]; exact hi))
        obtain ⟨cz, fz⟩ := HW1.out.num (map_at valG d (by rw [HN.out]; exact hkn))
        rw [HX.out] at cx
        rw [HZ.out] at cz
        go_wp2_with fail
        go_quiet (first | (go_at_call 17; refine Calls.quiet_of_same (HCG.out _)))
        have HW2 : Hid (OwnE EZ (w1.drewN nq) 0 (.slice (some ⟨g, 0, none⟩) n cap) (d.toList.map valG)) := num_dn HW1.out nq
        have HG2 : Hid (w.grownBy (w1.drewN nq) (some g)) := gb_drewN HG1.out nq
        clear cx fx cz fz HW1 HG1 HCG
        generalize w1.drewN nq = w2 at HW2 HG2 ⊢
        obtain ⟨cx, fx⟩ := HW2.out.num (map_at valG d (by rw [HN.out]; exact hi))
        obtain ⟨cz, fz⟩ := HW2.out.num (map_at valG d (by rw [HN.out]; exact hkn))
        rw [HX.out] at cx
        rw [HZ.out] at cz
        go_wp2_with fail
        go_region
        go_wp2
        go_roundg (n - k)
        case measure => omega
        case rel =>
          refine ⟨k, rfl, by omega, hkn, swp d i k, by show _ = _; rw [swp_size]; exact HN.out, exchanged_num HW2.out hi hkn HX.out HZ.out, ?_, exchanged_gn HG2.out _ _ _ _⟩
          show _ = _
          have ek := kid_low_go (d := d) (i := i) (by rw [HK.out, HN.out]; exact hkn) (by rw [HK.out]; exact HZX.out)
          rw [← HE.out, sinkA_go (d := d) (i := i) (by rw [ek, HK.out]; omega), ek, HK.out]
      · have hcg := cmpG_no hzx
        rw [hx, hz] at hcg
        have HCG : Aside _ := hcg
        have HS : Hid (kid d i = i) := by show _ = _; exact kid_low_stop (Or.inr (by rw [HK.out]; omega))
        clear hcg hzx hx hz
        go_wp2_with fail
        refine C.out.mono ?_
        rintro e w1 ⟨rfl, q, rfl⟩
        have HW1 : Hid (OwnE EZ (wr.drewN q) 0 (.slice (some ⟨g, 0, none⟩) n cap) (d.toList.map valG)) := num_dn HW.out q
        have HG1 : Hid (w.grownBy (wr.drewN q) (some g)) := gb_drewN HG.out q
        generalize wr.drewN q = w1 at HW1 HG1 ⊢
        obtain ⟨cx, fx⟩ := HW1.out.num (map_at valG d (by rw [HN.out]; exact hi))
        obtain ⟨cz, fz⟩ := HW1.out.num (map_at valG d (by rw [HN.out]; exact hkn))
        rw [HX.out] at cx
        rw [HZ.out] at cz
        go_wp2_with fail
        go_quiet (first | (go_at_call 17; refine Calls.quiet_of_same (HCG.out _)))
        go_wp2
        refine bodyPost_ret (results_none rfl _ _ _) rfl ?_
        exact ⟨rfl, by rw [← HE.out, sinkA_stop HS.out]; exact num_dn HW1.out _, gb_drewN HG1.out _⟩
    · have hkz : (n : Int) ≤ (k : Int) := by omega
      have hkd : decide ((n : Int) ≤ (k : Int)) = true := decide_eq_true hkz
      have HS : Hid (kid d i = i) := by show _ = _; exact kid_low_stop (Or.inl (by rw [HK.out, HN.out]; omega))
      go_wp2_with fail
      refine C.out.mono ?_
      rintro e w1 ⟨rfl, q, rfl⟩
      go_wp2_with fail
      go_quiet (fail)
      go_wp2
      refine bodyPost_ret (results_none rfl _ _ _) rfl ?_
      exact ⟨rfl, by rw [← HE.out, sinkA_stop HS.out]; exact num_dn (num_dn HW.out _) _, gb_drewN (gb_drewN HG.out _) _⟩

set_option maxHeartbeats 8000000 in
set_option maxRecDepth 4000 in
theorem riseG_any (g cap n i0 : Nat) (d0 : Array (Int × Int)) (w : World) (h60 : n ≤ 1000) (hi0 : i0 < n) (HN0 : Hid (d0.size = n)) (HW0 : Hid (OwnE EZ w 0 (.slice (some ⟨g, 0, none⟩) n cap) (d0.toList.map valG))) :
    Calls Try.prog 39 #[.slice (some ⟨g, 0, none⟩) n cap, .int .i64 i0, .func (.func 17) #[] #[]] w fun e w' => e = .returned (.tuple #[]) ∧ OwnE EZ w' 0 (.slice (some ⟨g, 0, none⟩) n cap) ((upA d0 i0).toList.map valG) ∧ w.grownBy w' (some g) := by
  go_enter Try.func39, Try.ntmps39
  go_wp2
  go_loopg [1] i0 (fun gg vi wr => ∃ i : Nat, vi = .int .i64 i ∧ i ≤ gg ∧ i < n ∧ ∃ d : Array (Int × Int), Hid (d.size = n) ∧ Hid (OwnE EZ wr 0 (.slice (some ⟨g, 0, none⟩) n cap) (d.toList.map valG)) ∧ Hid (upA d i = upA d0 i0) ∧ Hid (w.grownBy wr (some g)))
  case atStart => exact ⟨i0, rfl, Nat.le_refl _, hi0, d0, HN0, HW0, rfl, World.grownBy.refl w _⟩
  case round =>
    obtain ⟨i, rfl, hg, hi, d, HN, HW, HE, HG⟩ := hrel
    have hiz : (i : Int) < (n : Int) := by omega
    by_cases hi1 : 0 < i
    · have h0z : (0 : Int) < (i : Int) := by omega
      have h0d : decide (0 < i) = true := decide_eq_true hi1
      obtain ⟨p, hp⟩ : ∃ p, (i - 1) / 2 = p := ⟨_, rfl⟩
      have c := fun w => above_any i hi1 (by omega) w
      rw [hp] at c
      have hpi : p < i := by omega
      have hpn : p < n := by omega
      have hpz : (p : Int) < (n : Int) := by omega
      obtain ⟨x, hx⟩ : ∃ x, valG d[i]! = x := ⟨_, rfl⟩
      obtain ⟨y, hy⟩ : ∃ y, valG d[p]! = y := ⟨_, rfl⟩
      obtain ⟨cx, fx⟩ := HW.out.num (map_at valG d (by rw [HN.out]; exact hi))
      obtain ⟨cy, fy⟩ := HW.out.num (map_at valG d (by rw [HN.out]; exact hpn))
      rw [hx] at cx
      rw [hy] at cy
      have HX : Hid (valG d[i]! = x) := hx
      have HY : Hid (valG d[p]! = y) := hy
      have HP : Hid ((i - 1) / 2 = p) := hp
      by_cases hxy : d[i]!.1 < d[p]!.1
      · have hcg := cmpG_yes hxy
        rw [hx, hy] at hcg
        have HCG : Aside _ := hcg
        have HXY : Hid (d[i]!.1 < d[p]!.1) := hxy
        clear hcg hxy hx hy hp
        go_wp2_with fail
        go_quiet (first | (go_at_call 38; refine Calls.quiet_of_same (c _)) | (go_at_call 17; refine Calls.quiet_of_same (HCG.out _)))
        have HW2 : Hid (OwnE EZ (wr.drewN nq) 0 (.slice (some ⟨g, 0, none⟩) n cap) (d.toList.map valG)) := num_dn HW.out nq
        have HG2 : Hid (w.grownBy (wr.drewN nq) (some g)) := gb_drewN HG.out nq
        clear cx fx cy fy HCG
        generalize wr.drewN nq = w2 at HW2 HG2 ⊢
        obtain ⟨cx, fx⟩ := HW2.out.num (map_at valG d (by rw [HN.out]; exact hi))
        obtain ⟨cy, fy⟩ := HW2.out.num (map_at valG d (by rw [HN.out]; exact hpn))
        rw [HX.out] at cx
        rw [HY.out] at cy
        go_wp2_with fail
        go_region_with (first | (go_at_call 38; refine (c _).mono ?_; rintro e w' ⟨rfl, rfl⟩))
        all_goals
          go_wp2_with (first | (go_at_call 38; refine (c _).mono ?_; rintro e w' ⟨rfl, rfl⟩))
          go_roundg p
          case measure => omega
          case rel =>
            refine ⟨p, rfl, Nat.le_refl _, hpn, swp d i p, by show _ = _; rw [swp_size]; exact HN.out, exchanged_num HW2.out hi hpn HX.out HY.out, ?_, exchanged_gn HG2.out _ _ _ _⟩
            show _ = _
            rw [← HE.out, upA_go (d := d) (i := i) (by rw [HP.out]; exact ⟨hi1, HXY.out⟩), HP.out]
      · have hcg := cmpG_no hxy
        rw [hx, hy] at hcg
        have HCG : Aside _ := hcg
        have HS : Hid (upA d i = d) := by show _ = _; exact upA_stop (by rw [HP.out]; exact fun h => hxy h.2)
        clear hcg hxy hx hy hp
        go_wp2_with fail
        go_quiet (first | (go_at_call 38; refine Calls.quiet_of_same (c _)) | (go_at_call 17; refine Calls.quiet_of_same (HCG.out _)))
        go_wp2
        go_end0
        exact ⟨rfl, by rw [← HE.out, HS.out]; exact num_dn HW.out _, gb_drewN HG.out _⟩
    · have h0z : ¬ (0 : Int) < (i : Int) := by omega
      have h0d : decide (0 < i) = false := decide_eq_false hi1
      have HS : Hid (upA d i = d) := by show _ = _; exact upA_stop (fun h => hi1 h.1)
      go_wp2_with fail
      go_quiet (fail)
      go_wp2
      go_end0
      exact ⟨rfl, by rw [← HE.out, HS.out]; exact num_dn HW.out _, gb_drewN HG.out _⟩
#print axioms sinkG_any
#print axioms riseG_any
end Go.Proofs.Ytcjfbenbdjlodab
