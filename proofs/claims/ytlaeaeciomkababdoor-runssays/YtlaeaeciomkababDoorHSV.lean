/-
  Package heap at lists of numbers, told by runs.leastFirst: firstBelow, sink, rise. (Written by wip/gen/hq.py.)
-/
import Derived.Test.YtlaeaeciomkababDoorHQ
import Derived.Test.YtlaeaeciomkababDoorVDel
import Derived.Deep.RegionWith
namespace Go.Proofs.YtlaeaeciomkababDoor
open Go.RowKit Go.Sort Go.Proofs

/-- The item (first number, which) of a heap: a list. -/
def valV (tb : Int → Sv) (x : Int × Int) : Sv := tb x.2
def vV (tb : Int → Sv) (x : Int × Int) : Value := .slice (valV tb x).1 (valV tb x).2.1 (valV tb x).2.2
/-- The list has a first number, which lies apart from block g. -/
def KV (tb : Int → Sv) (w : World) (g : Nat) (x : Int × Int) : Prop := ∃ b o n c, tb x.2 = (some ⟨b, o, none⟩, n, c) ∧ 0 < n ∧ b ≠ g ∧ b < w.heap.size ∧ w.cell? ⟨b, o, none⟩ = some (.int .i64 x.1)
/-- What leastFirst tells. -/
def CmpV (tb : Int → Sv) (P : Int × Int → Prop) (w : World) (g : Nat) : Prop := ∀ x z W, P x → P z → w.grownBy W (some g) → Calls Tryd.prog 61 #[vV tb z, vV tb x] W fun e w' => e = .returned (.bool (decide (z.1 < x.1))) ∧ ∃ q os', w' = grow (W.drewN q) os'
set_option maxHeartbeats 1000000 in
theorem leastFirst_any {b1 o1 n1 c1 b2 o2 n2 c2 : Nat} {x y : Int} (W : World) (h1 : W.cell? ⟨b1, o1, none⟩ = some (.int .i64 x)) (h2 : W.cell? ⟨b2, o2, none⟩ = some (.int .i64 y)) (p1 : 0 < n1) (p2 : 0 < n2) :
    Calls Tryd.prog 61 #[.slice (some ⟨b1, o1, none⟩) n1 c1, .slice (some ⟨b2, o2, none⟩) n2 c2] W fun e w' => e = .returned (.bool (decide (x < y))) ∧ ∃ q os', w' = grow (W.drewN q) os' := by
  have z1 : (0 : Int) < (n1 : Int) := by omega
  have z2 : (0 : Int) < (n2 : Int) := by omega
  go_enter Tryd.func61, Tryd.ntmps61
  go_wp2_with fail
  go_quiet (fail)
  go_wp2
  go_ret
  exact ⟨rfl, nq, #[], by rw [grow_empty]⟩
theorem cmpV_any (tb : Int → Sv) (w : World) (g : Nat) : CmpV tb (KV tb w g) w g := by
  rintro x z W ⟨b1, o1, n1, c1, e1, p1, q1, r1, s1⟩ ⟨b2, o2, n2, c2, e2, p2, q2, r2, s2⟩ hg
  unfold vV valV
  rw [e1, e2]
  exact leastFirst_any W ((World.cell?_of_block (a := ⟨b2, o2, none⟩) (hg.block b2 r2 (fun e => q2 (Option.some.inj e)))).trans s2) ((World.cell?_of_block (a := ⟨b1, o1, none⟩) (hg.block b1 r1 (fun e => q1 (Option.some.inj e)))).trans s1) p2 p1

theorem cmpV_up {P : Int × Int → Prop} {tb : Int → Sv} {w w' : World} {g : Nat} (h : CmpV tb P w g) (hg : w.grownBy w' (some g)) : CmpV tb P w' g := fun x z W hx hz hW => h x z W hx hz (gb_trans hg hW)
theorem cmpV_yes {P : Int × Int → Prop} {tb : Int → Sv} {w W : World} {g : Nat} (h : CmpV tb P w g) {x z : Int × Int} (hx : P x) (hz : P z) (hW : w.grownBy W (some g)) (hd : z.1 < x.1) {x0 : Option Addr} {x1 x2 : Nat} {z0 : Option Addr} {z1 z2 : Nat} (ex : valV tb x = (x0, x1, x2)) (ez : valV tb z = (z0, z1, z2)) (n : Nat) (os : Array Obj) :
    Calls Tryd.prog 61 #[.slice z0 z1 z2, .slice x0 x1 x2] (grow (W.drewN n) os) fun e w' => e = .returned (.bool true) ∧ ∃ q os', w' = grow ((grow (W.drewN n) os).drewN q) os' := by
  have := h x z _ hx hz (gb_grown hW n os)
  rw [decide_eq_true hd] at this
  simpa only [vV, ex, ez] using this
theorem cmpV_no {P : Int × Int → Prop} {tb : Int → Sv} {w W : World} {g : Nat} (h : CmpV tb P w g) {x z : Int × Int} (hx : P x) (hz : P z) (hW : w.grownBy W (some g)) (hd : ¬ z.1 < x.1) {x0 : Option Addr} {x1 x2 : Nat} {z0 : Option Addr} {z1 z2 : Nat} (ex : valV tb x = (x0, x1, x2)) (ez : valV tb z = (z0, z1, z2)) (n : Nat) (os : Array Obj) :
    Calls Tryd.prog 61 #[.slice z0 z1 z2, .slice x0 x1 x2] (grow (W.drewN n) os) fun e w' => e = .returned (.bool false) ∧ ∃ q os', w' = grow ((grow (W.drewN n) os).drewN q) os' := by
  have := h x z _ hx hz (gb_grown hW n os)
  rw [decide_eq_false hd] at this
  simpa only [vV, ex, ez] using this

theorem firstBelowV_far (p : Option Addr) (cap n i : Nat) (w : World) (h60 : n ≤ 1000) (hi : i ≤ n) (hb : n ≤ 2 * i + 2) :
    Calls Tryd.prog 107 #[.slice p n cap, .int .i64 i, .func (.func 61) #[] #[]] w fun e w' => e = .returned (.int .i64 (2 * i + 1 : Nat)) ∧ ∃ q, w' = w.drewN q := by
  have w0 : IntKind.i64.wrap (2 * (i : Int)) = 2 * (i : Int) := by rw [IntKind.wrap_i64]; omega
  have w1 : IntKind.i64.wrap (2 * (i : Int) + 1) = 2 * (i : Int) + 1 := by rw [IntKind.wrap_i64]; omega
  have w2 : IntKind.i64.wrap (2 * (i : Int) + 2) = 2 * (i : Int) + 2 := by rw [IntKind.wrap_i64]; omega
  have hbz : ¬ 2 * (i : Int) + 2 < (n : Int) := by omega
  have hbd : decide (2 * (i : Int) + 2 < (n : Int)) = false := decide_eq_false hbz
  go_enter Tryd.func107, Tryd.ntmps107
  go_wp2_with fail
  go_quiet (fail)
  go_wp2
  go_ret
  exact ⟨rfl, nq, rfl⟩
set_option maxHeartbeats 4000000 in
theorem firstBelowV_any {P : Int × Int → Prop} (tb : Int → Sv) (g cap n i : Nat) (d : Array (Int × Int)) (w : World) (hn : Hid (d.size = n)) (h60 : n ≤ 1000) (hi : i < n) (hP : Hid (AllP P d)) (hC : Hid (CmpV tb P w g)) (hr : Hid (OwnE EV w 0 (.slice (some ⟨g, 0, none⟩) n cap) (d.toList.map (valV tb)))) :
    Calls Tryd.prog 107 #[.slice (some ⟨g, 0, none⟩) n cap, .int .i64 i, .func (.func 61) #[] #[]] w fun e w' => e = .returned (.int .i64 (low d i : Nat)) ∧ ∃ q os', w' = grow (w.drewN q) os' := by
  by_cases hb : 2 * i + 2 < n
  · have mixed : Tryd.prog.follows .mixedOrders = true := by kernel_rfl
    have w0 : IntKind.i64.wrap (2 * (i : Int)) = 2 * (i : Int) := by rw [IntKind.wrap_i64]; omega
    have w1 : IntKind.i64.wrap (2 * (i : Int) + 1) = 2 * (i : Int) + 1 := by rw [IntKind.wrap_i64]; omega
    have w2 : IntKind.i64.wrap (2 * (i : Int) + 2) = 2 * (i : Int) + 2 := by rw [IntKind.wrap_i64]; omega
    have t1 : (2 * (i : Int) + 1).toNat = 2 * i + 1 := by omega
    have t2 : (2 * (i : Int) + 2).toNat = 2 * i + 2 := by omega
    have p1 : (0 : Int) ≤ 2 * (i : Int) + 1 := by omega
    have p2 : (0 : Int) ≤ 2 * (i : Int) + 2 := by omega
    have hbz : 2 * (i : Int) + 2 < (n : Int) := by omega
    have haz : 2 * (i : Int) + 1 < (n : Int) := by omega
    have hbd : decide (2 * (i : Int) + 2 < (n : Int)) = true := decide_eq_true hbz
    have by1 : 2 * i + 1 < d.size := by rw [hn.out]; omega
    have by2 : 2 * i + 2 < d.size := by rw [hn.out]; omega
    obtain ⟨y0, y1, y2, hy⟩ : ∃ a0 a1 a2, valV tb d[2 * i + 1]! = (a0, a1, a2) := ⟨_, _, _, rfl⟩
    obtain ⟨z0, z1, z2, hz⟩ : ∃ a0 a1 a2, valV tb d[2 * i + 2]! = (a0, a1, a2) := ⟨_, _, _, rfl⟩
    have cy0 := fun n os => (own_grown hr.out n os).cellE (mapE_at (valV tb) d (i := 2 * i + 1) by1) (c := 0) (v := (.slice y0 y1 y2)) (by rw [hy]; rfl) |>.1
    simp only [EV, Nat.mul_one, Nat.add_zero] at cy0
    have cz0 := fun n os => (own_grown hr.out n os).cellE (mapE_at (valV tb) d (i := 2 * i + 2) by2) (c := 0) (v := (.slice z0 z1 z2)) (by rw [hz]; rfl) |>.1
    simp only [EV, Nat.mul_one, Nat.add_zero] at cz0
    by_cases hzy : d[2 * i + 2]!.1 < d[2 * i + 1]!.1
    · have HL : Hid (low d i = 2 * i + 2) := by show _ = _; unfold low; rw [if_pos]; exact ⟨by2, hzy⟩
      have hcg := cmpV_yes hC.out (hP.out.at by1) (hP.out.at by2) (World.grownBy.refl w _) hzy hy hz
      have HCG : Aside _ := hcg
      clear hcg hzy hr hP hC hn by1 by2 hy hz
      go_enter Tryd.func107, Tryd.ntmps107
      go_wp2_with fail
      go_quiet_grown (first | (go_at_call 61; refine Calls.grown_of (HCG.out _ _)))
      go_wp2
      go_ret
      exact ⟨by rw [HL.out]; rfl, nq, osq, rfl⟩
    · have HL : Hid (low d i = 2 * i + 1) := by show _ = _; unfold low; rw [if_neg]; exact fun h => hzy h.2
      have hcg := cmpV_no hC.out (hP.out.at by1) (hP.out.at by2) (World.grownBy.refl w _) hzy hy hz
      have HCG : Aside _ := hcg
      clear hcg hzy hr hP hC hn by1 by2 hy hz
      go_enter Tryd.func107, Tryd.ntmps107
      go_wp2_with fail
      go_quiet_grown (first | (go_at_call 61; refine Calls.grown_of (HCG.out _ _)))
      go_wp2
      go_ret
      exact ⟨by rw [HL.out]; rfl, nq, osq, rfl⟩
  · have HL : low d i = 2 * i + 1 := by unfold low; rw [if_neg]; rw [hn.out]; exact fun h => hb h.1
    rw [HL]
    exact (firstBelowV_far _ cap n i w h60 (by omega) (by omega)).mono fun _ _ ⟨a, q, b⟩ => ⟨a, q, #[], by rw [b, grow_empty]⟩

theorem sinkV_none (p : Option Addr) (cap : Nat) (w : World) : Calls Tryd.prog 98 #[.slice p 0 cap, .int .i64 0, .func (.func 61) #[] #[]] w fun e w' => e = .returned (.tuple #[]) ∧ ∃ q, w' = w.drewN q := by
  have C := firstBelowV_far p cap 0 0 w (by omega) (by omega) (by omega)
  have CC : Hid (Calls Tryd.prog 107 #[.slice p 0 cap, .int .i64 0, .func (.func 61) #[] #[]] w fun e w' => e = .returned (.int .i64 1) ∧ ∃ q, w' = w.drewN q) := C
  clear C
  go_enter Tryd.func98, Tryd.ntmps98
  go_wp2
  refine wp_loop_rounds 1 ?_
  rw [rounds_succ]
  go_wp2_with fail
  refine CC.out.mono ?_
  rintro e w1 ⟨rfl, q, rfl⟩
  go_wp2_with fail
  go_quiet (fail)
  go_wp2
  refine bodyPost_ret (results_none rfl _ _ _) rfl ?_
  exact ⟨rfl, _, by rw [World.drewN_drewN]⟩

theorem exchangedV (tb : Int → Sv) {wq : World} {g n cap : Nat} {d : Array (Int × Int)} (h : OwnE EV wq 0 (.slice (some ⟨g, 0, none⟩) n cap) (d.toList.map (valV tb))) {i k : Nat} (hi : i < n) (hk : k < n) {x0 : Option Addr} {x1 x2 : Nat} {z0 : Option Addr} {z1 z2 : Nat} (hx : valV tb d[i]! = (x0, x1, x2)) (hz : valV tb d[k]! = (z0, z1, z2)) :
    OwnE EV (((((wq).setCell ⟨g, i, none⟩ (.slice z0 z1 z2))).setCell ⟨g, k, none⟩ (.slice x0 x1 x2)).drew) 0 (.slice (some ⟨g, 0, none⟩) n cap) ((swp d i k).toList.map (valV tb)) := by
  rw [swp_mapE, hx, hz]
  have := (h.setE hi (z0, z1, z2)).setE hk (x0, x1, x2)
  simp only [EV, Nat.mul_one] at this
  exact this
theorem exchangedGV {w wq : World} {g : Nat} (h : w.grownBy wq (some g)) (i k : Nat) {x0 : Option Addr} {x1 x2 : Nat} {z0 : Option Addr} {z1 z2 : Nat} : w.grownBy (((((wq).setCell ⟨g, i, none⟩ (.slice z0 z1 z2))).setCell ⟨g, k, none⟩ (.slice x0 x1 x2)).drew) (some g) := gb_drewN (gb_set h i k _ _) 1

set_option maxHeartbeats 8000000 in
set_option maxRecDepth 4000 in
theorem sinkV_any {P : Int × Int → Prop} (tb : Int → Sv) (g cap n i0 : Nat) (d0 : Array (Int × Int)) (w : World) (h60 : n ≤ 1000) (hi0 : i0 < n) (HN0 : Hid (d0.size = n)) (HP0 : Hid (AllP P d0)) (HC0 : Hid (CmpV tb P w g)) (HW0 : Hid (OwnE EV w 0 (.slice (some ⟨g, 0, none⟩) n cap) (d0.toList.map (valV tb)))) :
    Calls Tryd.prog 98 #[.slice (some ⟨g, 0, none⟩) n cap, .int .i64 i0, .func (.func 61) #[] #[]] w fun e w' => e = .returned (.tuple #[]) ∧ OwnE EV w' 0 (.slice (some ⟨g, 0, none⟩) n cap) ((sinkA d0 i0).toList.map (valV tb)) ∧ w.grownBy w' (some g) := by
  have mixed : Tryd.prog.follows .mixedOrders = true := by kernel_rfl
  go_enter Tryd.func98, Tryd.ntmps98
  go_wp2
  go_loopg [1] (n - i0) (fun gg vi wr => ∃ i : Nat, vi = .int .i64 i ∧ i + gg = n ∧ i < n ∧ ∃ d : Array (Int × Int), Hid (d.size = n) ∧ Hid (AllP P d) ∧ Hid (OwnE EV wr 0 (.slice (some ⟨g, 0, none⟩) n cap) (d.toList.map (valV tb))) ∧ Hid (sinkA d i = sinkA d0 i0) ∧ Hid (w.grownBy wr (some g)))
  case atStart => exact ⟨i0, rfl, by omega, hi0, d0, HN0, HP0, HW0, rfl, World.grownBy.refl w _⟩
  case round =>
    obtain ⟨i, rfl, hg, hi, d, HN, HP, HW, HE, HG⟩ := hrel
    have HC : Hid (CmpV tb P wr g) := cmpV_up HC0.out HG.out
    have c := firstBelowV_any tb g cap n i d wr HN h60 hi HP HC HW
    obtain ⟨k, hk⟩ : ∃ k, low d i = k := ⟨_, rfl⟩
    have hik : i < k := by have := low_cases d i; omega
    have hk2 : k ≤ 2 * i + 2 := by have := low_cases d i; omega
    rw [hk] at c
    have HK : Hid (low d i = k) := hk
    have C : Hid (Calls Tryd.prog 107 #[.slice (some ⟨g, 0, none⟩) n cap, .int .i64 i, .func (.func 61) #[] #[]] wr fun e w' => e = .returned (.int .i64 k) ∧ ∃ q os', w' = grow (wr.drewN q) os') := c
    clear c hk
    by_cases hkn : k < n
    · have hkz : ¬ (n : Int) ≤ (k : Int) := by omega
      have hkd : decide ((n : Int) ≤ (k : Int)) = false := decide_eq_false hkz
      have hkz' : (k : Int) < (n : Int) := by omega
      have hiz : (i : Int) < (n : Int) := by omega
      obtain ⟨x0, x1, x2, hx⟩ : ∃ a0 a1 a2, valV tb d[i]! = (a0, a1, a2) := ⟨_, _, _, rfl⟩
      obtain ⟨z0, z1, z2, hz⟩ : ∃ a0 a1 a2, valV tb d[k]! = (a0, a1, a2) := ⟨_, _, _, rfl⟩
      have HX : Hid (valV tb d[i]! = (x0, x1, x2)) := hx
      have HZ : Hid (valV tb d[k]! = (z0, z1, z2)) := hz
      have HBi : Hid (i < d.size) := by show _ < _; rw [HN.out]; exact hi
      have HBk : Hid (k < d.size) := by show _ < _; rw [HN.out]; exact hkn
      clear hx hz
      by_cases hzx : d[k]!.1 < d[i]!.1
      · have HZX : Hid (d[k]!.1 < d[i]!.1) := hzx
        clear hzx
        go_wp2_with fail
        refine C.out.mono ?_
        rintro e w1 ⟨rfl, q, os1, rfl⟩
        have HW1 : Hid (OwnE EV (grow (wr.drewN q) os1) 0 (.slice (some ⟨g, 0, none⟩) n cap) (d.toList.map (valV tb))) := own_grown HW.out q os1
        have HG1 : Hid (w.grownBy (grow (wr.drewN q) os1) (some g)) := gb_grown HG.out q os1
        generalize grow (wr.drewN q) os1 = w1 at HW1 HG1 ⊢
        have cx0 := fun n os => (own_grown HW1.out n os).cellE (mapE_at (valV tb) d (i := i) HBi.out) (c := 0) (v := (.slice x0 x1 x2)) (by rw [HX.out]; rfl) |>.1
        simp only [EV, Nat.mul_one, Nat.add_zero] at cx0
        have cz0 := fun n os => (own_grown HW1.out n os).cellE (mapE_at (valV tb) d (i := k) HBk.out) (c := 0) (v := (.slice z0 z1 z2)) (by rw [HZ.out]; rfl) |>.1
        simp only [EV, Nat.mul_one, Nat.add_zero] at cz0
        have hcg := cmpV_yes HC0.out (HP.out.at HBi.out) (HP.out.at HBk.out) HG1.out HZX.out HX.out HZ.out
        have HCG : Aside _ := hcg
        clear hcg
        go_wp2_with fail
        go_quiet_grown (first | (go_at_call 61; refine Calls.grown_of (HCG.out _ _)))
        have HW2 : Hid (OwnE EV (grow (w1.drewN nq) osq) 0 (.slice (some ⟨g, 0, none⟩) n cap) (d.toList.map (valV tb))) := own_grown HW1.out nq osq
        have HG2 : Hid (w.grownBy (grow (w1.drewN nq) osq) (some g)) := gb_grown HG1.out nq osq
        clear cx0 cz0 HW1 HG1 HCG
        generalize grow (w1.drewN nq) osq = w2 at HW2 HG2 ⊢
        obtain ⟨cx0, fx0, _⟩ := HW2.out.cellE (mapE_at (valV tb) d (i := i) HBi.out) (c := 0) (v := (.slice x0 x1 x2)) (by rw [HX.out]; rfl)
        simp only [EV, Nat.mul_one, Nat.add_zero] at cx0 fx0
        obtain ⟨cz0, fz0, _⟩ := HW2.out.cellE (mapE_at (valV tb) d (i := k) HBk.out) (c := 0) (v := (.slice z0 z1 z2)) (by rw [HZ.out]; rfl)
        simp only [EV, Nat.mul_one, Nat.add_zero] at cz0 fz0
        go_wp2_with fail
        go_region
        go_wp2
        go_roundg (n - k)
        case measure => omega
        case rel =>
          refine ⟨k, rfl, by omega, hkn, swp d i k, by show _ = _; rw [swp_size]; exact HN.out, HP.out.swp HBi.out HBk.out, exchangedV tb HW2.out hi hkn HX.out HZ.out, ?_, exchangedGV HG2.out _ _⟩
          show _ = _
          have ek := kid_low_go (d := d) (i := i) (by rw [HK.out, HN.out]; exact hkn) (by rw [HK.out]; exact HZX.out)
          rw [← HE.out, sinkA_go (d := d) (i := i) (by rw [ek, HK.out]; omega), ek, HK.out]
      · have HS : Hid (kid d i = i) := by show _ = _; exact kid_low_stop (Or.inr (by rw [HK.out]; omega))
        have HZX : Hid (¬ d[k]!.1 < d[i]!.1) := hzx
        clear hzx
        go_wp2_with fail
        refine C.out.mono ?_
        rintro e w1 ⟨rfl, q, os1, rfl⟩
        have HW1 : Hid (OwnE EV (grow (wr.drewN q) os1) 0 (.slice (some ⟨g, 0, none⟩) n cap) (d.toList.map (valV tb))) := own_grown HW.out q os1
        have HG1 : Hid (w.grownBy (grow (wr.drewN q) os1) (some g)) := gb_grown HG.out q os1
        generalize grow (wr.drewN q) os1 = w1 at HW1 HG1 ⊢
        have cx0 := fun n os => (own_grown HW1.out n os).cellE (mapE_at (valV tb) d (i := i) HBi.out) (c := 0) (v := (.slice x0 x1 x2)) (by rw [HX.out]; rfl) |>.1
        simp only [EV, Nat.mul_one, Nat.add_zero] at cx0
        have cz0 := fun n os => (own_grown HW1.out n os).cellE (mapE_at (valV tb) d (i := k) HBk.out) (c := 0) (v := (.slice z0 z1 z2)) (by rw [HZ.out]; rfl) |>.1
        simp only [EV, Nat.mul_one, Nat.add_zero] at cz0
        have hcg := cmpV_no HC0.out (HP.out.at HBi.out) (HP.out.at HBk.out) HG1.out (by have := HZX.out; omega) HX.out HZ.out
        have HCG : Aside _ := hcg
        clear hcg
        go_wp2_with fail
        go_quiet_grown (first | (go_at_call 61; refine Calls.grown_of (HCG.out _ _)))
        go_wp2
        refine bodyPost_ret (results_none rfl _ _ _) rfl ?_
        exact ⟨rfl, by rw [← HE.out, sinkA_stop HS.out]; exact own_grown HW1.out _ _, gb_grown HG1.out _ _⟩
    · have hkz : (n : Int) ≤ (k : Int) := by omega
      have hkd : decide ((n : Int) ≤ (k : Int)) = true := decide_eq_true hkz
      have HS : Hid (kid d i = i) := by show _ = _; exact kid_low_stop (Or.inl (by rw [HK.out, HN.out]; omega))
      go_wp2_with fail
      refine C.out.mono ?_
      rintro e w1 ⟨rfl, q, os1, rfl⟩
      go_wp2_with fail
      go_quiet (fail)
      go_wp2
      refine bodyPost_ret (results_none rfl _ _ _) rfl ?_
      exact ⟨rfl, by rw [← HE.out, sinkA_stop HS.out]; exact (own_grown HW.out _ _).drewN _, gb_drewN (gb_grown HG.out _ _) _⟩

set_option maxHeartbeats 8000000 in
set_option maxRecDepth 4000 in
theorem riseV_any {P : Int × Int → Prop} (tb : Int → Sv) (g cap n i0 : Nat) (d0 : Array (Int × Int)) (w : World) (h60 : n ≤ 1000) (hi0 : i0 < n) (HN0 : Hid (d0.size = n)) (HP0 : Hid (AllP P d0)) (HC0 : Hid (CmpV tb P w g)) (HW0 : Hid (OwnE EV w 0 (.slice (some ⟨g, 0, none⟩) n cap) (d0.toList.map (valV tb)))) :
    Calls Tryd.prog 82 #[.slice (some ⟨g, 0, none⟩) n cap, .int .i64 i0, .func (.func 61) #[] #[]] w fun e w' => e = .returned (.tuple #[]) ∧ OwnE EV w' 0 (.slice (some ⟨g, 0, none⟩) n cap) ((upA d0 i0).toList.map (valV tb)) ∧ w.grownBy w' (some g) := by
  have mixed : Tryd.prog.follows .mixedOrders = true := by kernel_rfl
  go_enter Tryd.func82, Tryd.ntmps82
  go_wp2
  go_loopg [1] i0 (fun gg vi wr => ∃ i : Nat, vi = .int .i64 i ∧ i ≤ gg ∧ i < n ∧ ∃ d : Array (Int × Int), Hid (d.size = n) ∧ Hid (AllP P d) ∧ Hid (OwnE EV wr 0 (.slice (some ⟨g, 0, none⟩) n cap) (d.toList.map (valV tb))) ∧ Hid (upA d i = upA d0 i0) ∧ Hid (w.grownBy wr (some g)))
  case atStart => exact ⟨i0, rfl, Nat.le_refl _, hi0, d0, HN0, HP0, HW0, rfl, World.grownBy.refl w _⟩
  case round =>
    obtain ⟨i, rfl, hg, hi, d, HN, HP, HW, HE, HG⟩ := hrel
    have hiz : (i : Int) < (n : Int) := by omega
    by_cases hi1 : 0 < i
    · have h0z : (0 : Int) < (i : Int) := by omega
      have h0d : decide (0 < i) = true := decide_eq_true hi1
      obtain ⟨p, hp⟩ : ∃ p, (i - 1) / 2 = p := ⟨_, rfl⟩
      have c := fun w => above_any i hi1 (by omega) w
      have cG := fun w => above_anyG i hi1 (by omega) w
      rw [hp] at c cG
      have HCA : Aside _ := cG
      clear cG
      have hpi : p < i := by omega
      have hpn : p < n := by omega
      have hpz : (p : Int) < (n : Int) := by omega
      have HBi : Hid (i < d.size) := by show _ < _; rw [HN.out]; exact hi
      have HBp : Hid (p < d.size) := by show _ < _; rw [HN.out]; exact hpn
      obtain ⟨x0, x1, x2, hx⟩ : ∃ a0 a1 a2, valV tb d[i]! = (a0, a1, a2) := ⟨_, _, _, rfl⟩
      obtain ⟨y0, y1, y2, hy⟩ : ∃ a0 a1 a2, valV tb d[p]! = (a0, a1, a2) := ⟨_, _, _, rfl⟩
      have cx0 := fun n os => (own_grown HW.out n os).cellE (mapE_at (valV tb) d (i := i) HBi.out) (c := 0) (v := (.slice x0 x1 x2)) (by rw [hx]; rfl) |>.1
      simp only [EV, Nat.mul_one, Nat.add_zero] at cx0
      have cy0 := fun n os => (own_grown HW.out n os).cellE (mapE_at (valV tb) d (i := p) HBp.out) (c := 0) (v := (.slice y0 y1 y2)) (by rw [hy]; rfl) |>.1
      simp only [EV, Nat.mul_one, Nat.add_zero] at cy0
      have HX : Hid (valV tb d[i]! = (x0, x1, x2)) := hx
      have HY : Hid (valV tb d[p]! = (y0, y1, y2)) := hy
      have HP2 : Hid ((i - 1) / 2 = p) := hp
      clear hx hy hp
      by_cases hxy : d[i]!.1 < d[p]!.1
      · have hcg := cmpV_yes HC0.out (HP.out.at HBp.out) (HP.out.at HBi.out) HG.out hxy HY.out HX.out
        have HCG : Aside _ := hcg
        have HXY : Hid (d[i]!.1 < d[p]!.1) := hxy
        clear hcg hxy
        go_wp2_with fail
        go_quiet_grown (first | (go_at_call 84; refine Calls.grown_of (HCA.out _)) | (go_at_call 61; refine Calls.grown_of (HCG.out _ _)))
        have HW2 : Hid (OwnE EV (grow (wr.drewN nq) osq) 0 (.slice (some ⟨g, 0, none⟩) n cap) (d.toList.map (valV tb))) := own_grown HW.out nq osq
        have HG2 : Hid (w.grownBy (grow (wr.drewN nq) osq) (some g)) := gb_grown HG.out nq osq
        clear cx0 cy0 HCG HCA
        generalize grow (wr.drewN nq) osq = w2 at HW2 HG2 ⊢
        obtain ⟨cx0, fx0, _⟩ := HW2.out.cellE (mapE_at (valV tb) d (i := i) HBi.out) (c := 0) (v := (.slice x0 x1 x2)) (by rw [HX.out]; rfl)
        simp only [EV, Nat.mul_one, Nat.add_zero] at cx0 fx0
        obtain ⟨cy0, fy0, _⟩ := HW2.out.cellE (mapE_at (valV tb) d (i := p) HBp.out) (c := 0) (v := (.slice y0 y1 y2)) (by rw [HY.out]; rfl)
        simp only [EV, Nat.mul_one, Nat.add_zero] at cy0 fy0
        go_wp2_with fail
        go_region_with (first | (go_at_call 84; refine (c _).mono ?_; rintro e w' ⟨rfl, rfl⟩))
        all_goals
          go_wp2_with (first | (go_at_call 84; refine (c _).mono ?_; rintro e w' ⟨rfl, rfl⟩))
          go_roundg p
          case measure => omega
          case rel =>
            refine ⟨p, rfl, Nat.le_refl _, hpn, swp d i p, by show _ = _; rw [swp_size]; exact HN.out, HP.out.swp HBi.out HBp.out, exchangedV tb HW2.out hi hpn HX.out HY.out, ?_, exchangedGV HG2.out _ _⟩
            show _ = _
            rw [← HE.out, upA_go (d := d) (i := i) (by rw [HP2.out]; exact ⟨hi1, HXY.out⟩), HP2.out]
      · have HS : Hid (upA d i = d) := by show _ = _; exact upA_stop (by rw [HP2.out]; exact fun h => hxy h.2)
        have hcg := cmpV_no HC0.out (HP.out.at HBp.out) (HP.out.at HBi.out) HG.out hxy HY.out HX.out
        have HCG : Aside _ := hcg
        clear hcg hxy
        go_wp2_with fail
        go_quiet_grown (first | (go_at_call 84; refine Calls.grown_of (HCA.out _)) | (go_at_call 61; refine Calls.grown_of (HCG.out _ _)))
        go_wp2
        go_end0
        exact ⟨rfl, by rw [← HE.out, HS.out]; exact own_grown HW.out _ _, gb_grown HG.out _ _⟩
    · have h0z : ¬ (0 : Int) < (i : Int) := by omega
      have h0d : decide (0 < i) = false := decide_eq_false hi1
      have HS : Hid (upA d i = d) := by show _ = _; exact upA_stop (fun h => hi1 h.1)
      go_wp2_with fail
      go_quiet (fail)
      go_wp2
      go_end0
      exact ⟨rfl, by rw [← HE.out, HS.out]; exact OwnE.drewN HW.out _, gb_drewN HG.out _⟩
#print axioms sinkV_any
#print axioms riseV_any
end Go.Proofs.YtlaeaeciomkababDoor
