/-
  Package heap at groups of symbols, told by huff.lighter: firstBelow, sink, rise. (Written by wip/gen/hq.py.)
-/
import Derived.Test.YtlaeaeciomkababDoorHQ
import Derived.Test.YtlaeaeciomkababDoorUDel
import Derived.Deep.RegionWith
namespace Go.Proofs.YtlaeaeciomkababDoor
open Go.RowKit Go.Sort Go.Proofs

/-- The item (key, weight) of a heap: the weight, the turn, and by that where the symbols stand. -/
def bigU : Int := 1000
def valU (tb : Int → Sv) (x : Int × Int) : Gp := (x.2, x.1 - x.2 * bigU, tb (x.1 - x.2 * bigU))
def itmU (a t : Int) : Int × Int := (a * bigU + t, a)
theorem val_itmU (tb : Int → Sv) (a t : Int) : valU tb (itmU a t) = (a, t, tb t) := by unfold valU itmU; simp only; rw [show a * bigU + t - a * bigU = t by omega]
def vU (tb : Int → Sv) (x : Int × Int) : Value := .agg #[.int .i64 (valU tb x).1, .int .i64 (valU tb x).2.1, .slice (valU tb x).2.2.1 (valU tb x).2.2.2.1 (valU tb x).2.2.2.2]
/-- Its turn is one that may be. -/
def KU (x : Int × Int) : Prop := 0 ≤ x.1 - x.2 * bigU ∧ x.1 - x.2 * bigU < 1000
/-- What lighter tells. -/
def CmpU (tb : Int → Sv) (P : Int × Int → Prop) (w : World) (g : Nat) : Prop := ∀ x z W, P x → P z → w.grownBy W (some g) → Calls Tryd.prog 40 #[vU tb z, vU tb x] W fun e w' => e = .returned (.bool (decide (z.1 < x.1))) ∧ ∃ q os', w' = grow (W.drewN q) os'
set_option maxHeartbeats 1000000 in
theorem lighter_run {x0 y0 : Int} (x1 y1 : Int) (x2 y2 : Option Addr) (x3 x4 y3 y4 : Nat) (h : x0 ≠ y0) (W : World) :
    Calls Tryd.prog 40 #[.agg #[.int .i64 x0, .int .i64 x1, .slice x2 x3 x4], .agg #[.int .i64 y0, .int .i64 y1, .slice y2 y3 y4]] W fun e w' => e = .returned (.bool (decide (x0 < y0))) ∧ ∃ q os', w' = grow (W.drewN q) os' := by
  have hd : (x0 != y0) = true := bne_iff_ne.2 h
  go_enter Tryd.func40, Tryd.ntmps40
  go_wp2
  go_ret
  exact ⟨rfl, 0, _, by rw [alloc_eq_grow, alloc_eq_grow, grow_grow]; rfl⟩
set_option maxHeartbeats 1000000 in
theorem lighter_num (x0 : Int) (x1 y1 : Int) (x2 y2 : Option Addr) (x3 x4 y3 y4 : Nat) (W : World) :
    Calls Tryd.prog 40 #[.agg #[.int .i64 x0, .int .i64 x1, .slice x2 x3 x4], .agg #[.int .i64 x0, .int .i64 y1, .slice y2 y3 y4]] W fun e w' => e = .returned (.bool (decide (x1 < y1))) ∧ ∃ q os', w' = grow (W.drewN q) os' := by
  have hd : (x0 != x0) = false := by simp
  go_enter Tryd.func40, Tryd.ntmps40
  go_wp2
  go_ret
  exact ⟨rfl, 0, _, by rw [alloc_eq_grow, alloc_eq_grow, grow_grow]; rfl⟩
theorem cmpU_any (tb : Int → Sv) (w : World) (g : Nat) : CmpU tb KU w g := by
  rintro ⟨kx, rx⟩ ⟨kz, rz⟩ W ⟨hx1, hx2⟩ ⟨hz1, hz2⟩ _
  unfold bigU at *
  simp only at hx1 hx2 hz1 hz2
  unfold vU valU bigU
  simp only
  by_cases h : rz = rx
  · subst h
    have := lighter_num rz (kz - rz * 1000) (kx - rz * 1000) (tb (kz - rz * 1000)).1 (tb (kx - rz * 1000)).1 (tb (kz - rz * 1000)).2.1 (tb (kz - rz * 1000)).2.2 (tb (kx - rz * 1000)).2.1 (tb (kx - rz * 1000)).2.2 W
    rw [show decide (kz - rz * 1000 < kx - rz * 1000) = decide (kz < kx) by rw [decide_eq_decide]; omega] at this
    exact this
  · have := lighter_run (kz - rz * 1000) (kx - rx * 1000) (tb (kz - rz * 1000)).1 (tb (kx - rx * 1000)).1 (tb (kz - rz * 1000)).2.1 (tb (kz - rz * 1000)).2.2 (tb (kx - rx * 1000)).2.1 (tb (kx - rx * 1000)).2.2 h W
    rw [show decide (rz < rx) = decide (kz < kx) by rw [decide_eq_decide]; omega] at this
    exact this

theorem cmpU_up {P : Int × Int → Prop} {tb : Int → Sv} {w w' : World} {g : Nat} (h : CmpU tb P w g) (hg : w.grownBy w' (some g)) : CmpU tb P w' g := fun x z W hx hz hW => h x z W hx hz (gb_trans hg hW)
theorem cmpU_yes {P : Int × Int → Prop} {tb : Int → Sv} {w W : World} {g : Nat} (h : CmpU tb P w g) {x z : Int × Int} (hx : P x) (hz : P z) (hW : w.grownBy W (some g)) (hd : z.1 < x.1) {x0 x1 : Int} {x2 : Option Addr} {x3 x4 : Nat} {z0 z1 : Int} {z2 : Option Addr} {z3 z4 : Nat} (ex : valU tb x = (x0, x1, x2, x3, x4)) (ez : valU tb z = (z0, z1, z2, z3, z4)) (n : Nat) (os : Array Obj) :
    Calls Tryd.prog 40 #[.agg #[.int .i64 z0, .int .i64 z1, .slice z2 z3 z4], .agg #[.int .i64 x0, .int .i64 x1, .slice x2 x3 x4]] (grow (W.drewN n) os) fun e w' => e = .returned (.bool true) ∧ ∃ q os', w' = grow ((grow (W.drewN n) os).drewN q) os' := by
  have := h x z _ hx hz (gb_grown hW n os)
  rw [decide_eq_true hd] at this
  simpa only [vU, ex, ez] using this
theorem cmpU_no {P : Int × Int → Prop} {tb : Int → Sv} {w W : World} {g : Nat} (h : CmpU tb P w g) {x z : Int × Int} (hx : P x) (hz : P z) (hW : w.grownBy W (some g)) (hd : ¬ z.1 < x.1) {x0 x1 : Int} {x2 : Option Addr} {x3 x4 : Nat} {z0 z1 : Int} {z2 : Option Addr} {z3 z4 : Nat} (ex : valU tb x = (x0, x1, x2, x3, x4)) (ez : valU tb z = (z0, z1, z2, z3, z4)) (n : Nat) (os : Array Obj) :
    Calls Tryd.prog 40 #[.agg #[.int .i64 z0, .int .i64 z1, .slice z2 z3 z4], .agg #[.int .i64 x0, .int .i64 x1, .slice x2 x3 x4]] (grow (W.drewN n) os) fun e w' => e = .returned (.bool false) ∧ ∃ q os', w' = grow ((grow (W.drewN n) os).drewN q) os' := by
  have := h x z _ hx hz (gb_grown hW n os)
  rw [decide_eq_false hd] at this
  simpa only [vU, ex, ez] using this

theorem firstBelowU_far (p : Option Addr) (cap n i : Nat) (w : World) (h60 : n ≤ 1000) (hi : i ≤ n) (hb : n ≤ 2 * i + 2) :
    Calls Tryd.prog 85 #[.slice p n cap, .int .i64 i, .func (.func 40) #[] #[]] w fun e w' => e = .returned (.int .i64 (2 * i + 1 : Nat)) ∧ ∃ q, w' = w.drewN q := by
  have w0 : IntKind.i64.wrap (2 * (i : Int)) = 2 * (i : Int) := by rw [IntKind.wrap_i64]; omega
  have w1 : IntKind.i64.wrap (2 * (i : Int) + 1) = 2 * (i : Int) + 1 := by rw [IntKind.wrap_i64]; omega
  have w2 : IntKind.i64.wrap (2 * (i : Int) + 2) = 2 * (i : Int) + 2 := by rw [IntKind.wrap_i64]; omega
  have hbz : ¬ 2 * (i : Int) + 2 < (n : Int) := by omega
  have hbd : decide (2 * (i : Int) + 2 < (n : Int)) = false := decide_eq_false hbz
  go_enter Tryd.func85, Tryd.ntmps85
  go_wp2_with fail
  go_quiet (fail)
  go_wp2
  go_ret
  exact ⟨rfl, nq, rfl⟩
set_option maxHeartbeats 4000000 in
theorem firstBelowU_any {P : Int × Int → Prop} (tb : Int → Sv) (g cap n i : Nat) (d : Array (Int × Int)) (w : World) (hn : Hid (d.size = n)) (h60 : n ≤ 1000) (hi : i < n) (hP : Hid (AllP P d)) (hC : Hid (CmpU tb P w g)) (hr : Hid (OwnE EU w 0 (.slice (some ⟨g, 0, none⟩) n cap) (d.toList.map (valU tb)))) :
    Calls Tryd.prog 85 #[.slice (some ⟨g, 0, none⟩) n cap, .int .i64 i, .func (.func 40) #[] #[]] w fun e w' => e = .returned (.int .i64 (low d i : Nat)) ∧ ∃ q os', w' = grow (w.drewN q) os' := by
  by_cases hb : 2 * i + 2 < n
  · have mixed : Tryd.prog.follows .mixedOrders = true := by kernel_rfl
    have w0 : IntKind.i64.wrap (2 * (i : Int)) = 2 * (i : Int) := by rw [IntKind.wrap_i64]; omega
    have w1 : IntKind.i64.wrap (2 * (i : Int) + 1) = 2 * (i : Int) + 1 := by rw [IntKind.wrap_i64]; omega
    have w2 : IntKind.i64.wrap (2 * (i : Int) + 2) = 2 * (i : Int) + 2 := by rw [IntKind.wrap_i64]; omega
    have t1 : (2 * (i : Int) + 1).toNat = 2 * i + 1 := by omega
    have t2 : (2 * (i : Int) + 2).toNat = 2 * i + 2 := by omega
    have p1 : (0 : Int) ≤ 2 * (i : Int) + 1 := by omega
    have p2 : (0 : Int) ≤ 2 * (i : Int) + 2 := by omega
    have hbz : 2 * (i : Int) + 2 < (n : Int) := by omega
    have haz : 2 * (i : Int) + 1 < (n : Int) := by omega
    have hbd : decide (2 * (i : Int) + 2 < (n : Int)) = true := decide_eq_true hbz
    have by1 : 2 * i + 1 < d.size := by rw [hn.out]; omega
    have by2 : 2 * i + 2 < d.size := by rw [hn.out]; omega
    obtain ⟨y0, y1, y2, y3, y4, hy⟩ : ∃ a0 a1 a2 a3 a4, valU tb d[2 * i + 1]! = (a0, a1, a2, a3, a4) := ⟨_, _, _, _, _, rfl⟩
    obtain ⟨z0, z1, z2, z3, z4, hz⟩ : ∃ a0 a1 a2 a3 a4, valU tb d[2 * i + 2]! = (a0, a1, a2, a3, a4) := ⟨_, _, _, _, _, rfl⟩
    have cy0 := fun n os => (own_grown hr.out n os).cellE (mapE_at (valU tb) d (i := 2 * i + 1) by1) (c := 0) (v := (.int .i64 y0)) (by rw [hy]; rfl) |>.1
    simp only [EU, Nat.add_zero] at cy0
    have cy1 := fun n os => (own_grown hr.out n os).cellE (mapE_at (valU tb) d (i := 2 * i + 1) by1) (c := 1) (v := (.int .i64 y1)) (by rw [hy]; rfl) |>.1
    simp only [EU] at cy1
    have cy2 := fun n os => (own_grown hr.out n os).cellE (mapE_at (valU tb) d (i := 2 * i + 1) by1) (c := 2) (v := (.slice y2 y3 y4)) (by rw [hy]; rfl) |>.1
    simp only [EU] at cy2
    have cz0 := fun n os => (own_grown hr.out n os).cellE (mapE_at (valU tb) d (i := 2 * i + 2) by2) (c := 0) (v := (.int .i64 z0)) (by rw [hz]; rfl) |>.1
    simp only [EU, Nat.add_zero] at cz0
    have cz1 := fun n os => (own_grown hr.out n os).cellE (mapE_at (valU tb) d (i := 2 * i + 2) by2) (c := 1) (v := (.int .i64 z1)) (by rw [hz]; rfl) |>.1
    simp only [EU] at cz1
    have cz2 := fun n os => (own_grown hr.out n os).cellE (mapE_at (valU tb) d (i := 2 * i + 2) by2) (c := 2) (v := (.slice z2 z3 z4)) (by rw [hz]; rfl) |>.1
    simp only [EU] at cz2
    by_cases hzy : d[2 * i + 2]!.1 < d[2 * i + 1]!.1
    · have HL : Hid (low d i = 2 * i + 2) := by show _ = _; unfold low; rw [if_pos]; exact ⟨by2, hzy⟩
      have hcg := cmpU_yes hC.out (hP.out.at by1) (hP.out.at by2) (World.grownBy.refl w _) hzy hy hz
      have HCG : Aside _ := hcg
      clear hcg hzy hr hP hC hn by1 by2 hy hz
      go_enter Tryd.func85, Tryd.ntmps85
      go_wp2_with fail
      go_quiet_grown (first | (go_at_call 40; refine Calls.grown_of (HCG.out _ _)))
      go_wp2
      go_ret
      exact ⟨by rw [HL.out]; rfl, nq, osq, rfl⟩
    · have HL : Hid (low d i = 2 * i + 1) := by show _ = _; unfold low; rw [if_neg]; exact fun h => hzy h.2
      have hcg := cmpU_no hC.out (hP.out.at by1) (hP.out.at by2) (World.grownBy.refl w _) hzy hy hz
      have HCG : Aside _ := hcg
      clear hcg hzy hr hP hC hn by1 by2 hy hz
      go_enter Tryd.func85, Tryd.ntmps85
      go_wp2_with fail
      go_quiet_grown (first | (go_at_call 40; refine Calls.grown_of (HCG.out _ _)))
      go_wp2
      go_ret
      exact ⟨by rw [HL.out]; rfl, nq, osq, rfl⟩
  · have HL : low d i = 2 * i + 1 := by unfold low; rw [if_neg]; rw [hn.out]; exact fun h => hb h.1
    rw [HL]
    exact (firstBelowU_far _ cap n i w h60 (by omega) (by omega)).mono fun _ _ ⟨a, q, b⟩ => ⟨a, q, #[], by rw [b, grow_empty]⟩

theorem sinkU_none (p : Option Addr) (cap : Nat) (w : World) : Calls Tryd.prog 67 #[.slice p 0 cap, .int .i64 0, .func (.func 40) #[] #[]] w fun e w' => e = .returned (.tuple #[]) ∧ ∃ q, w' = w.drewN q := by
  have C := firstBelowU_far p cap 0 0 w (by omega) (by omega) (by omega)
  have CC : Hid (Calls Tryd.prog 85 #[.slice p 0 cap, .int .i64 0, .func (.func 40) #[] #[]] w fun e w' => e = .returned (.int .i64 1) ∧ ∃ q, w' = w.drewN q) := C
  clear C
  go_enter Tryd.func67, Tryd.ntmps67
  go_wp2
  refine wp_loop_rounds 1 ?_
  rw [rounds_succ]
  go_wp2_with fail
  refine CC.out.mono ?_
  rintro e w1 ⟨rfl, q, rfl⟩
  go_wp2_with fail
  go_quiet (fail)
  go_wp2
  refine bodyPost_ret (results_none rfl _ _ _) rfl ?_
  exact ⟨rfl, _, by rw [World.drewN_drewN]⟩

theorem exchangedU (tb : Int → Sv) {wq : World} {g n cap : Nat} {d : Array (Int × Int)} (h : OwnE EU wq 0 (.slice (some ⟨g, 0, none⟩) n cap) (d.toList.map (valU tb))) {i k : Nat} (hi : i < n) (hk : k < n) {x0 x1 : Int} {x2 : Option Addr} {x3 x4 : Nat} {z0 z1 : Int} {z2 : Option Addr} {z3 z4 : Nat} (hx : valU tb d[i]! = (x0, x1, x2, x3, x4)) (hz : valU tb d[k]! = (z0, z1, z2, z3, z4)) :
    OwnE EU (((((((((wq).setCell ⟨g, i * 3, none⟩ (.int .i64 z0)).setCell ⟨g, i * 3 + 1, none⟩ (.int .i64 z1)).setCell ⟨g, i * 3 + 2, none⟩ (.slice z2 z3 z4))).setCell ⟨g, k * 3, none⟩ (.int .i64 x0)).setCell ⟨g, k * 3 + 1, none⟩ (.int .i64 x1)).setCell ⟨g, k * 3 + 2, none⟩ (.slice x2 x3 x4)).drew) 0 (.slice (some ⟨g, 0, none⟩) n cap) ((swp d i k).toList.map (valU tb)) := by
  rw [swp_mapE, hx, hz]
  have := (h.setE hi (z0, z1, z2, z3, z4)).setE hk (x0, x1, x2, x3, x4)
  simp only [EU, encU, World.setCells, Nat.add_assoc, Nat.reduceAdd] at this
  exact OwnE.drewN this 1
theorem exchangedGU {w wq : World} {g : Nat} (h : w.grownBy wq (some g)) (i k : Nat) {x0 x1 : Int} {x2 : Option Addr} {x3 x4 : Nat} {z0 z1 : Int} {z2 : Option Addr} {z3 z4 : Nat} : w.grownBy (((((((((wq).setCell ⟨g, i * 3, none⟩ (.int .i64 z0)).setCell ⟨g, i * 3 + 1, none⟩ (.int .i64 z1)).setCell ⟨g, i * 3 + 2, none⟩ (.slice z2 z3 z4))).setCell ⟨g, k * 3, none⟩ (.int .i64 x0)).setCell ⟨g, k * 3 + 1, none⟩ (.int .i64 x1)).setCell ⟨g, k * 3 + 2, none⟩ (.slice x2 x3 x4)).drew) (some g) := gb_drewN ((gb_trans (gb_trans (gb_trans (gb_trans (gb_trans (gb_trans h (gb_setCell _ _ _)) (gb_setCell _ _ _)) (gb_setCell _ _ _)) (gb_setCell _ _ _)) (gb_setCell _ _ _)) (gb_setCell _ _ _))) 1

set_option maxHeartbeats 8000000 in
set_option maxRecDepth 4000 in
theorem sinkU_any {P : Int × Int → Prop} (tb : Int → Sv) (g cap n i0 : Nat) (d0 : Array (Int × Int)) (w : World) (h60 : n ≤ 1000) (hi0 : i0 < n) (HN0 : Hid (d0.size = n)) (HP0 : Hid (AllP P d0)) (HC0 : Hid (CmpU tb P w g)) (HW0 : Hid (OwnE EU w 0 (.slice (some ⟨g, 0, none⟩) n cap) (d0.toList.map (valU tb)))) :
    Calls Tryd.prog 67 #[.slice (some ⟨g, 0, none⟩) n cap, .int .i64 i0, .func (.func 40) #[] #[]] w fun e w' => e = .returned (.tuple #[]) ∧ OwnE EU w' 0 (.slice (some ⟨g, 0, none⟩) n cap) ((sinkA d0 i0).toList.map (valU tb)) ∧ w.grownBy w' (some g) := by
  have mixed : Tryd.prog.follows .mixedOrders = true := by kernel_rfl
  go_enter Tryd.func67, Tryd.ntmps67
  go_wp2
  go_loopg [1] (n - i0) (fun gg vi wr => ∃ i : Nat, vi = .int .i64 i ∧ i + gg = n ∧ i < n ∧ ∃ d : Array (Int × Int), Hid (d.size = n) ∧ Hid (AllP P d) ∧ Hid (OwnE EU wr 0 (.slice (some ⟨g, 0, none⟩) n cap) (d.toList.map (valU tb))) ∧ Hid (sinkA d i = sinkA d0 i0) ∧ Hid (w.grownBy wr (some g)))
  case atStart => exact ⟨i0, rfl, by omega, hi0, d0, HN0, HP0, HW0, rfl, World.grownBy.refl w _⟩
  case round =>
    obtain ⟨i, rfl, hg, hi, d, HN, HP, HW, HE, HG⟩ := hrel
    have HC : Hid (CmpU tb P wr g) := cmpU_up HC0.out HG.out
    have c := firstBelowU_any tb g cap n i d wr HN h60 hi HP HC HW
    obtain ⟨k, hk⟩ : ∃ k, low d i = k := ⟨_, rfl⟩
    have hik : i < k := by have := low_cases d i; omega
    have hk2 : k ≤ 2 * i + 2 := by have := low_cases d i; omega
    rw [hk] at c
    have HK : Hid (low d i = k) := hk
    have C : Hid (Calls Tryd.prog 85 #[.slice (some ⟨g, 0, none⟩) n cap, .int .i64 i, .func (.func 40) #[] #[]] wr fun e w' => e = .returned (.int .i64 k) ∧ ∃ q os', w' = grow (wr.drewN q) os') := c
    clear c hk
    by_cases hkn : k < n
    · have hkz : ¬ (n : Int) ≤ (k : Int) := by omega
      have hkd : decide ((n : Int) ≤ (k : Int)) = false := decide_eq_false hkz
      have hkz' : (k : Int) < (n : Int) := by omega
      have hiz : (i : Int) < (n : Int) := by omega
      obtain ⟨x0, x1, x2, x3, x4, hx⟩ : ∃ a0 a1 a2 a3 a4, valU tb d[i]! = (a0, a1, a2, a3, a4) := ⟨_, _, _, _, _, rfl⟩
      obtain ⟨z0, z1, z2, z3, z4, hz⟩ : ∃ a0 a1 a2 a3 a4, valU tb d[k]! = (a0, a1, a2, a3, a4) := ⟨_, _, _, _, _, rfl⟩
      have HX : Hid (valU tb d[i]! = (x0, x1, x2, x3, x4)) := hx
      have HZ : Hid (valU tb d[k]! = (z0, z1, z2, z3, z4)) := hz
      have HBi : Hid (i < d.size) := by show _ < _; rw [HN.out]; exact hi
      have HBk : Hid (k < d.size) := by show _ < _; rw [HN.out]; exact hkn
      clear hx hz
      by_cases hzx : d[k]!.1 < d[i]!.1
      · have HZX : Hid (d[k]!.1 < d[i]!.1) := hzx
        clear hzx
        go_wp2_with fail
        refine C.out.mono ?_
        rintro e w1 ⟨rfl, q, os1, rfl⟩
        have HW1 : Hid (OwnE EU (grow (wr.drewN q) os1) 0 (.slice (some ⟨g, 0, none⟩) n cap) (d.toList.map (valU tb))) := own_grown HW.out q os1
        have HG1 : Hid (w.grownBy (grow (wr.drewN q) os1) (some g)) := gb_grown HG.out q os1
        generalize grow (wr.drewN q) os1 = w1 at HW1 HG1 ⊢
        have cx0 := fun n os => (own_grown HW1.out n os).cellE (mapE_at (valU tb) d (i := i) HBi.out) (c := 0) (v := (.int .i64 x0)) (by rw [HX.out]; rfl) |>.1
        simp only [EU, Nat.add_zero] at cx0
        have cx1 := fun n os => (own_grown HW1.out n os).cellE (mapE_at (valU tb) d (i := i) HBi.out) (c := 1) (v := (.int .i64 x1)) (by rw [HX.out]; rfl) |>.1
        simp only [EU] at cx1
        have cx2 := fun n os => (own_grown HW1.out n os).cellE (mapE_at (valU tb) d (i := i) HBi.out) (c := 2) (v := (.slice x2 x3 x4)) (by rw [HX.out]; rfl) |>.1
        simp only [EU] at cx2
        have cz0 := fun n os => (own_grown HW1.out n os).cellE (mapE_at (valU tb) d (i := k) HBk.out) (c := 0) (v := (.int .i64 z0)) (by rw [HZ.out]; rfl) |>.1
        simp only [EU, Nat.add_zero] at cz0
        have cz1 := fun n os => (own_grown HW1.out n os).cellE (mapE_at (valU tb) d (i := k) HBk.out) (c := 1) (v := (.int .i64 z1)) (by rw [HZ.out]; rfl) |>.1
        simp only [EU] at cz1
        have cz2 := fun n os => (own_grown HW1.out n os).cellE (mapE_at (valU tb) d (i := k) HBk.out) (c := 2) (v := (.slice z2 z3 z4)) (by rw [HZ.out]; rfl) |>.1
        simp only [EU] at cz2
        have hcg := cmpU_yes HC0.out (HP.out.at HBi.out) (HP.out.at HBk.out) HG1.out HZX.out HX.out HZ.out
        have HCG : Aside _ := hcg
        clear hcg
        go_wp2_with fail
        go_quiet_grown (first | (go_at_call 40; refine Calls.grown_of (HCG.out _ _)))
        have HW2 : Hid (OwnE EU (grow (w1.drewN nq) osq) 0 (.slice (some ⟨g, 0, none⟩) n cap) (d.toList.map (valU tb))) := own_grown HW1.out nq osq
        have HG2 : Hid (w.grownBy (grow (w1.drewN nq) osq) (some g)) := gb_grown HG1.out nq osq
        clear cx0 cz0 cx1 cz1 cx2 cz2 HW1 HG1 HCG
        generalize grow (w1.drewN nq) osq = w2 at HW2 HG2 ⊢
        obtain ⟨cx0, fx0, _⟩ := HW2.out.cellE (mapE_at (valU tb) d (i := i) HBi.out) (c := 0) (v := (.int .i64 x0)) (by rw [HX.out]; rfl)
        simp only [EU, Nat.add_zero] at cx0 fx0
        obtain ⟨cx1, fx1, _⟩ := HW2.out.cellE (mapE_at (valU tb) d (i := i) HBi.out) (c := 1) (v := (.int .i64 x1)) (by rw [HX.out]; rfl)
        simp only [EU, ] at cx1 fx1
        obtain ⟨cx2, fx2, _⟩ := HW2.out.cellE (mapE_at (valU tb) d (i := i) HBi.out) (c := 2) (v := (.slice x2 x3 x4)) (by rw [HX.out]; rfl)
        simp only [EU, ] at cx2 fx2
        obtain ⟨cz0, fz0, _⟩ := HW2.out.cellE (mapE_at (valU tb) d (i := k) HBk.out) (c := 0) (v := (.int .i64 z0)) (by rw [HZ.out]; rfl)
        simp only [EU, Nat.add_zero] at cz0 fz0
        obtain ⟨cz1, fz1, _⟩ := HW2.out.cellE (mapE_at (valU tb) d (i := k) HBk.out) (c := 1) (v := (.int .i64 z1)) (by rw [HZ.out]; rfl)
        simp only [EU, ] at cz1 fz1
        obtain ⟨cz2, fz2, _⟩ := HW2.out.cellE (mapE_at (valU tb) d (i := k) HBk.out) (c := 2) (v := (.slice z2 z3 z4)) (by rw [HZ.out]; rfl)
        simp only [EU, ] at cz2 fz2
        go_wp2_with fail
        go_region
        go_wp2
        go_roundg (n - k)
        case measure => omega
        case rel =>
          refine ⟨k, rfl, by omega, hkn, swp d i k, by show _ = _; rw [swp_size]; exact HN.out, HP.out.swp HBi.out HBk.out, exchangedU tb HW2.out hi hkn HX.out HZ.out, ?_, exchangedGU HG2.out _ _⟩
          show _ = _
          have ek := kid_low_go (d := d) (i := i) (by rw [HK.out, HN.out]; exact hkn) (by rw [HK.out]; exact HZX.out)
          rw [← HE.out, sinkA_go (d := d) (i := i) (by rw [ek, HK.out]; omega), ek, HK.out]
      · have HS : Hid (kid d i = i) := by show _ = _; exact kid_low_stop (Or.inr (by rw [HK.out]; omega))
        have HZX : Hid (¬ d[k]!.1 < d[i]!.1) := hzx
        clear hzx
        go_wp2_with fail
        refine C.out.mono ?_
        rintro e w1 ⟨rfl, q, os1, rfl⟩
        have HW1 : Hid (OwnE EU (grow (wr.drewN q) os1) 0 (.slice (some ⟨g, 0, none⟩) n cap) (d.toList.map (valU tb))) := own_grown HW.out q os1
        have HG1 : Hid (w.grownBy (grow (wr.drewN q) os1) (some g)) := gb_grown HG.out q os1
        generalize grow (wr.drewN q) os1 = w1 at HW1 HG1 ⊢
        have cx0 := fun n os => (own_grown HW1.out n os).cellE (mapE_at (valU tb) d (i := i) HBi.out) (c := 0) (v := (.int .i64 x0)) (by rw [HX.out]; rfl) |>.1
        simp only [EU, Nat.add_zero] at cx0
        have cx1 := fun n os => (own_grown HW1.out n os).cellE (mapE_at (valU tb) d (i := i) HBi.out) (c := 1) (v := (.int .i64 x1)) (by rw [HX.out]; rfl) |>.1
        simp only [EU] at cx1
        have cx2 := fun n os => (own_grown HW1.out n os).cellE (mapE_at (valU tb) d (i := i) HBi.out) (c := 2) (v := (.slice x2 x3 x4)) (by rw [HX.out]; rfl) |>.1
        simp only [EU] at cx2
        have cz0 := fun n os => (own_grown HW1.out n os).cellE (mapE_at (valU tb) d (i := k) HBk.out) (c := 0) (v := (.int .i64 z0)) (by rw [HZ.out]; rfl) |>.1
        simp only [EU, Nat.add_zero] at cz0
        have cz1 := fun n os => (own_grown HW1.out n os).cellE (mapE_at (valU tb) d (i := k) HBk.out) (c := 1) (v := (.int .i64 z1)) (by rw [HZ.out]; rfl) |>.1
        simp only [EU] at cz1
        have cz2 := fun n os => (own_grown HW1.out n os).cellE (mapE_at (valU tb) d (i := k) HBk.out) (c := 2) (v := (.slice z2 z3 z4)) (by rw [HZ.out]; rfl) |>.1
        simp only [EU] at cz2
        have hcg := cmpU_no HC0.out (HP.out.at HBi.out) (HP.out.at HBk.out) HG1.out (by have := HZX.out; omega) HX.out HZ.out
        have HCG : Aside _ := hcg
        clear hcg
        go_wp2_with fail
        go_quiet_grown (first | (go_at_call 40; refine Calls.grown_of (HCG.out _ _)))
        go_wp2
        refine bodyPost_ret (results_none rfl _ _ _) rfl ?_
        exact ⟨rfl, by rw [← HE.out, sinkA_stop HS.out]; exact own_grown HW1.out _ _, gb_grown HG1.out _ _⟩
    · have hkz : (n : Int) ≤ (k : Int) := by omega
      have hkd : decide ((n : Int) ≤ (k : Int)) = true := decide_eq_true hkz
      have HS : Hid (kid d i = i) := by show _ = _; exact kid_low_stop (Or.inl (by rw [HK.out, HN.out]; omega))
      go_wp2_with fail
      refine C.out.mono ?_
      rintro e w1 ⟨rfl, q, os1, rfl⟩
      go_wp2_with fail
      go_quiet (fail)
      go_wp2
      refine bodyPost_ret (results_none rfl _ _ _) rfl ?_
      exact ⟨rfl, by rw [← HE.out, sinkA_stop HS.out]; exact (own_grown HW.out _ _).drewN _, gb_drewN (gb_grown HG.out _ _) _⟩

set_option maxHeartbeats 8000000 in
set_option maxRecDepth 4000 in
theorem riseU_any {P : Int × Int → Prop} (tb : Int → Sv) (g cap n i0 : Nat) (d0 : Array (Int × Int)) (w : World) (h60 : n ≤ 1000) (hi0 : i0 < n) (HN0 : Hid (d0.size = n)) (HP0 : Hid (AllP P d0)) (HC0 : Hid (CmpU tb P w g)) (HW0 : Hid (OwnE EU w 0 (.slice (some ⟨g, 0, none⟩) n cap) (d0.toList.map (valU tb)))) :
    Calls Tryd.prog 64 #[.slice (some ⟨g, 0, none⟩) n cap, .int .i64 i0, .func (.func 40) #[] #[]] w fun e w' => e = .returned (.tuple #[]) ∧ OwnE EU w' 0 (.slice (some ⟨g, 0, none⟩) n cap) ((upA d0 i0).toList.map (valU tb)) ∧ w.grownBy w' (some g) := by
  have mixed : Tryd.prog.follows .mixedOrders = true := by kernel_rfl
  go_enter Tryd.func64, Tryd.ntmps64
  go_wp2
  go_loopg [1] i0 (fun gg vi wr => ∃ i : Nat, vi = .int .i64 i ∧ i ≤ gg ∧ i < n ∧ ∃ d : Array (Int × Int), Hid (d.size = n) ∧ Hid (AllP P d) ∧ Hid (OwnE EU wr 0 (.slice (some ⟨g, 0, none⟩) n cap) (d.toList.map (valU tb))) ∧ Hid (upA d i = upA d0 i0) ∧ Hid (w.grownBy wr (some g)))
  case atStart => exact ⟨i0, rfl, Nat.le_refl _, hi0, d0, HN0, HP0, HW0, rfl, World.grownBy.refl w _⟩
  case round =>
    obtain ⟨i, rfl, hg, hi, d, HN, HP, HW, HE, HG⟩ := hrel
    have hiz : (i : Int) < (n : Int) := by omega
    by_cases hi1 : 0 < i
    · have h0z : (0 : Int) < (i : Int) := by omega
      have h0d : decide (0 < i) = true := decide_eq_true hi1
      obtain ⟨p, hp⟩ : ∃ p, (i - 1) / 2 = p := ⟨_, rfl⟩
      have c := fun w => above_any i hi1 (by omega) w
      have cG := fun w => above_anyG i hi1 (by omega) w
      rw [hp] at c cG
      have HCA : Aside _ := cG
      clear cG
      have hpi : p < i := by omega
      have hpn : p < n := by omega
      have hpz : (p : Int) < (n : Int) := by omega
      have HBi : Hid (i < d.size) := by show _ < _; rw [HN.out]; exact hi
      have HBp : Hid (p < d.size) := by show _ < _; rw [HN.out]; exact hpn
      obtain ⟨x0, x1, x2, x3, x4, hx⟩ : ∃ a0 a1 a2 a3 a4, valU tb d[i]! = (a0, a1, a2, a3, a4) := ⟨_, _, _, _, _, rfl⟩
      obtain ⟨y0, y1, y2, y3, y4, hy⟩ : ∃ a0 a1 a2 a3 a4, valU tb d[p]! = (a0, a1, a2, a3, a4) := ⟨_, _, _, _, _, rfl⟩
      have cx0 := fun n os => (own_grown HW.out n os).cellE (mapE_at (valU tb) d (i := i) HBi.out) (c := 0) (v := (.int .i64 x0)) (by rw [hx]; rfl) |>.1
      simp only [EU, Nat.add_zero] at cx0
      have cx1 := fun n os => (own_grown HW.out n os).cellE (mapE_at (valU tb) d (i := i) HBi.out) (c := 1) (v := (.int .i64 x1)) (by rw [hx]; rfl) |>.1
      simp only [EU] at cx1
      have cx2 := fun n os => (own_grown HW.out n os).cellE (mapE_at (valU tb) d (i := i) HBi.out) (c := 2) (v := (.slice x2 x3 x4)) (by rw [hx]; rfl) |>.1
      simp only [EU] at cx2
      have cy0 := fun n os => (own_grown HW.out n os).cellE (mapE_at (valU tb) d (i := p) HBp.out) (c := 0) (v := (.int .i64 y0)) (by rw [hy]; rfl) |>.1
      simp only [EU, Nat.add_zero] at cy0
      have cy1 := fun n os => (own_grown HW.out n os).cellE (mapE_at (valU tb) d (i := p) HBp.out) (c := 1) (v := (.int .i64 y1)) (by rw [hy]; rfl) |>.1
      simp only [EU] at cy1
      have cy2 := fun n os => (own_grown HW.out n os).cellE (mapE_at (valU tb) d (i := p) HBp.out) (c := 2) (v := (.slice y2 y3 y4)) (by rw [hy]; rfl) |>.1
      simp only [EU] at cy2
      have HX : Hid (valU tb d[i]! = (x0, x1, x2, x3, x4)) := hx
      have HY : Hid (valU tb d[p]! = (y0, y1, y2, y3, y4)) := hy
      have HP2 : Hid ((i - 1) / 2 = p) := hp
      clear hx hy hp
      by_cases hxy : d[i]!.1 < d[p]!.1
      · have hcg := cmpU_yes HC0.out (HP.out.at HBp.out) (HP.out.at HBi.out) HG.out hxy HY.out HX.out
        have HCG : Aside _ := hcg
        have HXY : Hid (d[i]!.1 < d[p]!.1) := hxy
        clear hcg hxy
        go_wp2_with fail
        go_quiet_grown (first | (go_at_call 84; refine Calls.grown_of (HCA.out _)) | (go_at_call 40; refine Calls.grown_of (HCG.out _ _)))
        have HW2 : Hid (OwnE EU (grow (wr.drewN nq) osq) 0 (.slice (some ⟨g, 0, none⟩) n cap) (d.toList.map (valU tb))) := own_grown HW.out nq osq
        have HG2 : Hid (w.grownBy (grow (wr.drewN nq) osq) (some g)) := gb_grown HG.out nq osq
        clear cx0 cy0 cx1 cy1 cx2 cy2 HCG HCA
        generalize grow (wr.drewN nq) osq = w2 at HW2 HG2 ⊢
        obtain ⟨cx0, fx0, _⟩ := HW2.out.cellE (mapE_at (valU tb) d (i := i) HBi.out) (c := 0) (v := (.int .i64 x0)) (by rw [HX.out]; rfl)
        simp only [EU, Nat.add_zero] at cx0 fx0
        obtain ⟨cx1, fx1, _⟩ := HW2.out.cellE (mapE_at (valU tb) d (i := i) HBi.out) (c := 1) (v := (.int .i64 x1)) (by rw [HX.out]; rfl)
        simp only [EU, ] at cx1 fx1
        obtain ⟨cx2, fx2, _⟩ := HW2.out.cellE (mapE_at (valU tb) d (i := i) HBi.out) (c := 2) (v := (.slice x2 x3 x4)) (by rw [HX.out]; rfl)
        simp only [EU, ] at cx2 fx2
        obtain ⟨cy0, fy0, _⟩ := HW2.out.cellE (mapE_at (valU tb) d (i := p) HBp.out) (c := 0) (v := (.int .i64 y0)) (by rw [HY.out]; rfl)
        simp only [EU, Nat.add_zero] at cy0 fy0
        obtain ⟨cy1, fy1, _⟩ := HW2.out.cellE (mapE_at (valU tb) d (i := p) HBp.out) (c := 1) (v := (.int .i64 y1)) (by rw [HY.out]; rfl)
        simp only [EU, ] at cy1 fy1
        obtain ⟨cy2, fy2, _⟩ := HW2.out.cellE (mapE_at (valU tb) d (i := p) HBp.out) (c := 2) (v := (.slice y2 y3 y4)) (by rw [HY.out]; rfl)
        simp only [EU, ] at cy2 fy2
        go_wp2_with fail
        go_region_with (first | (go_at_call 84; refine (c _).mono ?_; rintro e w' ⟨rfl, rfl⟩))
        all_goals
          go_wp2_with (first | (go_at_call 84; refine (c _).mono ?_; rintro e w' ⟨rfl, rfl⟩))
          go_roundg p
          case measure => omega
          case rel =>
            refine ⟨p, rfl, Nat.le_refl _, hpn, swp d i p, by show _ = _; rw [swp_size]; exact HN.out, HP.out.swp HBi.out HBp.out, exchangedU tb HW2.out hi hpn HX.out HY.out, ?_, exchangedGU HG2.out _ _⟩
            show _ = _
            rw [← HE.out, upA_go (d := d) (i := i) (by rw [HP2.out]; exact ⟨hi1, HXY.out⟩), HP2.out]
      · have HS : Hid (upA d i = d) := by show _ = _; exact upA_stop (by rw [HP2.out]; exact fun h => hxy h.2)
        have hcg := cmpU_no HC0.out (HP.out.at HBp.out) (HP.out.at HBi.out) HG.out hxy HY.out HX.out
        have HCG : Aside _ := hcg
        clear hcg hxy
        go_wp2_with fail
        go_quiet_grown (first | (go_at_call 84; refine Calls.grown_of (HCA.out _)) | (go_at_call 40; refine Calls.grown_of (HCG.out _ _)))
        go_wp2
        go_end0
        exact ⟨rfl, by rw [← HE.out, HS.out]; exact own_grown HW.out _ _, gb_grown HG.out _ _⟩
    · have h0z : ¬ (0 : Int) < (i : Int) := by omega
      have h0d : decide (0 < i) = false := decide_eq_false hi1
      have HS : Hid (upA d i = d) := by show _ = _; exact upA_stop (fun h => hi1 h.1)
      go_wp2_with fail
      go_quiet (fail)
      go_wp2
      go_end0
      exact ⟨rfl, by rw [← HE.out, HS.out]; exact OwnE.drewN HW.out _, gb_drewN HG.out _⟩
#print axioms sinkU_any
#print axioms riseU_any
end Go.Proofs.YtlaeaeciomkababDoor
