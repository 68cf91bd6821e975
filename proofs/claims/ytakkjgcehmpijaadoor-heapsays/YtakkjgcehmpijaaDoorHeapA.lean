/-
  heap.above, heap.lesserBelow and heap.sink: an item sinks.
-/
import Derived.Test.YtakkjgcehmpijaaDoorWr
import Derived.Test.YtakkjgcehmpijaaDoorHMath
namespace Go.Proofs.YtakkjgcehmpijaaDoor
open Go.RowKit Go.Sort Go.Proofs

theorem above_any (i : Nat) (h1 : 1 ≤ i) (h60 : i ≤ 1000) (w : World) : Calls Tryd.prog 40 #[.int .i64 i] w fun e w' => e = .returned (.int .i64 ((i - 1) / 2 : Nat)) ∧ w' = w := by
  obtain ⟨k, rfl⟩ : ∃ k, i = k + 1 := ⟨i - 1, by omega⟩
  have e : ((k + 1 - 1) / 2 : Nat) = k / 2 := by omega
  rw [e]
  have w1 : IntKind.i64.wrap (((k + 1 : Nat) : Int) - 1) = (k : Int) := by rw [IntKind.wrap_i64]; omega
  have t1 : Int.tdiv (k : Int) 2 = ((k / 2 : Nat) : Int) := by rw [Int.tdiv_eq_ediv_of_nonneg (by omega)]; omega
  have w2 : IntKind.i64.wrap ((k / 2 : Nat) : Int) = ((k / 2 : Nat) : Int) := by rw [IntKind.wrap_i64]; omega
  go_enter Tryd.func40, Tryd.ntmps40
  go_wp2
  go_ret
  exact ⟨rfl, rfl⟩

set_option maxHeartbeats 4000000 in
theorem lesserBelow_any (blk off cap n i : Nat) (d : Array (Int × Int)) (w : World) (hn : Hid (d.size = n)) (h60 : n ≤ 61) (hi : i < n) (hr : Hid (RdAt w blk off d)) :
    Calls Tryd.prog 48 #[.slice (some ⟨blk, off, none⟩) n cap, .int .i64 i] w fun e w' => e = .returned (.int .i64 (low d i : Nat)) ∧ ∃ q, w' = w.drewN q := by
  have w0 : IntKind.i64.wrap (2 * (i : Int)) = 2 * (i : Int) := by rw [IntKind.wrap_i64]; omega
  have w1 : IntKind.i64.wrap (2 * (i : Int) + 1) = 2 * (i : Int) + 1 := by rw [IntKind.wrap_i64]; omega
  have w2 : IntKind.i64.wrap (2 * (i : Int) + 2) = 2 * (i : Int) + 2 := by rw [IntKind.wrap_i64]; omega
  have t1 : (2 * (i : Int) + 1).toNat = 2 * i + 1 := by omega
  have t2 : (2 * (i : Int) + 2).toNat = 2 * i + 2 := by omega
  have p1 : (0 : Int) ≤ 2 * (i : Int) + 1 := by omega
  have p2 : (0 : Int) ≤ 2 * (i : Int) + 2 := by omega
  by_cases hb : 2 * i + 2 < n
  · have hbz : 2 * (i : Int) + 2 < (n : Int) := by omega
    have haz : 2 * (i : Int) + 1 < (n : Int) := by omega
    have hbd : decide (2 * (i : Int) + 2 < (n : Int)) = true := decide_eq_true hbz
    obtain ⟨y0, y1, hy⟩ : ∃ x y, d[2 * i + 1]! = (x, y) := ⟨_, _, rfl⟩
    obtain ⟨z0, z1, hz⟩ : ∃ x y, d[2 * i + 2]! = (x, y) := ⟨_, _, rfl⟩
    obtain ⟨cy0, cy1⟩ := hr.out.2 (2 * i + 1) (by rw [hn.out]; omega)
    obtain ⟨cz0, cz1⟩ := hr.out.2 (2 * i + 2) (by rw [hn.out]; omega)
    rw [hy] at cy0 cy1
    rw [hz] at cz0 cz1
    by_cases hzy : z0 < y0
    · have hd : decide (z0 < y0) = true := decide_eq_true hzy
      have HL : Hid (low d i = 2 * i + 2) := by show _ = _; unfold low; rw [if_pos]; rw [hn.out, hy, hz]; exact ⟨hb, hzy⟩
      clear hy hz
      go_enter Tryd.func48, Tryd.ntmps48
      go_wp2_with fail
      go_quiet (fail)
      go_wp2
      go_ret
      exact ⟨by rw [HL.out]; rfl, nq, rfl⟩
    · have hd : decide (z0 < y0) = false := decide_eq_false hzy
      have HL : Hid (low d i = 2 * i + 1) := by show _ = _; unfold low; rw [if_neg]; rw [hn.out, hy, hz]; exact fun h => hzy h.2
      clear hy hz
      go_enter Tryd.func48, Tryd.ntmps48
      go_wp2_with fail
      go_quiet (fail)
      go_wp2
      go_ret
      exact ⟨by rw [HL.out]; rfl, nq, rfl⟩
  · have hbz : ¬ 2 * (i : Int) + 2 < (n : Int) := by omega
    have hbd : decide (2 * (i : Int) + 2 < (n : Int)) = false := decide_eq_false hbz
    have HL : Hid (low d i = 2 * i + 1) := by show _ = _; unfold low; rw [if_neg]; rw [hn.out]; exact fun h => hb h.1
    go_enter Tryd.func48, Tryd.ntmps48
    go_wp2_with fail
    go_quiet (fail)
    go_wp2
    go_ret
    exact ⟨by rw [HL.out]; rfl, nq, rfl⟩

theorem exchanged_wr {wq : World} {blk off : Nat} {d : Array (Int × Int)} (h : WrAt wq blk off d) {i k : Nat} (hi : i < d.size) (hk : k < d.size) {x0 x1 z0 z1 : Int} (hx : d[i]! = (x0, x1)) (hz : d[k]! = (z0, z1)) :
    WrAt (((((wq.setCell ⟨blk, off + i * 2, none⟩ (.int .i64 z0)).setCell ⟨blk, off + i * 2 + 1, none⟩ (.int .i64 z1)).setCell ⟨blk, off + k * 2, none⟩ (.int .i64 x0)).setCell ⟨blk, off + k * 2 + 1, none⟩ (.int .i64 x1)).drew) blk off (swp d i k) := by
  unfold swp
  rw [hx, hz]
  exact ((h.set hi (z0, z1)).set (i := k) (by simpa using hk) (x0, x1)).drew
theorem exchanged_gb {w wq : World} {blk : Nat} (h : w.grownBy wq (some blk)) (a b c e : Nat) (u1 u2 u3 u4 : Value) :
    w.grownBy (((((wq.setCell ⟨blk, a, none⟩ u1).setCell ⟨blk, b, none⟩ u2).setCell ⟨blk, c, none⟩ u3).setCell ⟨blk, e, none⟩ u4).drew) (some blk) := gb_drewN (gb_set (gb_set h a b u1 u2) c e u3 u4) 1

set_option maxHeartbeats 8000000 in
set_option maxRecDepth 4000 in
theorem sink_any (blk off cap n i0 : Nat) (d0 : Array (Int × Int)) (w : World) (h60 : n ≤ 61) (hi0 : i0 < n) (HN0 : Hid (d0.size = n)) (HW0 : Hid (WrAt w blk off d0)) :
    Calls Tryd.prog 39 #[.slice (some ⟨blk, off, none⟩) n cap, .int .i64 i0] w fun e w' => e = .returned (.tuple #[]) ∧ WrAt w' blk off (sinkA d0 i0) ∧ w.grownBy w' (some blk) := by
  go_enter Tryd.func39, Tryd.ntmps39
  go_wp2
  go_loopg [1] (n - i0) (fun g vi wr => ∃ i : Nat, vi = .int .i64 i ∧ i + g = n ∧ i < n ∧ ∃ d : Array (Int × Int), Hid (d.size = n) ∧ Hid (WrAt wr blk off d) ∧ Hid (sinkA d i = sinkA d0 i0) ∧ Hid (w.grownBy wr (some blk)))
  case atStart => exact ⟨i0, rfl, by omega, hi0, d0, HN0, HW0, rfl, World.grownBy.refl w _⟩
  case round =>
    obtain ⟨i, rfl, hg, hi, d, HN, HW, HE, HG⟩ := hrel
    have c := lesserBelow_any blk off cap n i d wr HN h60 hi HW.out.rd
    obtain ⟨k, hk⟩ : ∃ k, low d i = k := ⟨_, rfl⟩
    have hik : i < k := by have := low_cases d i; omega
    have hk2 : k ≤ 2 * i + 2 := by have := low_cases d i; omega
    rw [hk] at c
    have HK : Hid (low d i = k) := hk
    have C : Hid (Calls Tryd.prog 48 #[.slice (some ⟨blk, off, none⟩) n cap, .int .i64 i] wr fun e w' => e = .returned (.int .i64 k) ∧ ∃ q, w' = wr.drewN q) := c
    clear c hk
    by_cases hkn : k < n
    · have hkz : ¬ (n : Int) ≤ (k : Int) := by omega
      have hkd : decide ((n : Int) ≤ (k : Int)) = false := decide_eq_false hkz
      have hkz' : (k : Int) < (n : Int) := by omega
      have hiz : (i : Int) < (n : Int) := by omega
      obtain ⟨x0, x1, hx⟩ : ∃ x y, d[i]! = (x, y) := ⟨_, _, rfl⟩
      obtain ⟨z0, z1, hz⟩ : ∃ x y, d[k]! = (x, y) := ⟨_, _, rfl⟩
      have HX : Hid (d[i]! = (x0, x1)) := hx
      have HZ : Hid (d[k]! = (z0, z1)) := hz
      clear hx hz
      by_cases hzx : z0 < x0
      · have hzd : decide (x0 ≤ z0) = false := decide_eq_false (by omega)
        have hzn : ¬ x0 ≤ z0 := by omega
        go_wp2_with fail
        refine C.out.mono ?_
        rintro e w1 ⟨rfl, q, rfl⟩
        have HW1 : Hid (WrAt (wr.drewN q) blk off d) := HW.out.drewN q
        have HG1 : Hid (w.grownBy (wr.drewN q) (some blk)) := gb_drewN HG.out q
        generalize wr.drewN q = w1 at HW1 HG1 ⊢
        obtain ⟨cx0, cx1, fx0, fx1⟩ := HW1.out.cell (by rw [HN.out]; exact hi) HX.out
        obtain ⟨cz0, cz1, fz0, fz1⟩ := HW1.out.cell (by rw [HN.out]; exact hkn) HZ.out
        go_wp2_with fail
        go_quiet (fail)
        have HW2 : Hid (WrAt (w1.drewN nq) blk off d) := HW1.out.drewN nq
        have HG2 : Hid (w.grownBy (w1.drewN nq) (some blk)) := gb_drewN HG1.out nq
        clear cx0 cx1 fx0 fx1 cz0 cz1 fz0 fz1 HW1 HG1
        generalize w1.drewN nq = w2 at HW2 HG2 ⊢
        obtain ⟨cx0, cx1, fx0, fx1⟩ := HW2.out.cell (by rw [HN.out]; exact hi) HX.out
        obtain ⟨cz0, cz1, fz0, fz1⟩ := HW2.out.cell (by rw [HN.out]; exact hkn) HZ.out
        go_wp2_with fail
        go_region
        go_wp2
        go_roundg (n - k)
        case measure => omega
        case rel =>
          refine ⟨k, rfl, by omega, hkn, swp d i k, by show _ = _; rw [swp_size]; exact HN.out, exchanged_wr HW2.out (by rw [HN.out]; exact hi) (by rw [HN.out]; exact hkn) HX.out HZ.out, ?_, exchanged_gb HG2.out _ _ _ _ _ _ _ _⟩
          show _ = _
          have ek := kid_low_go (d := d) (i := i) (by rw [HK.out, HN.out]; exact hkn) (by rw [HK.out, HX.out, HZ.out]; exact hzx)
          rw [← HE.out, sinkA_go (d := d) (i := i) (by rw [ek, HK.out]; omega), ek, HK.out]
      · have hzd : decide (x0 ≤ z0) = true := decide_eq_true (by omega)
        have hzn : x0 ≤ z0 := by omega
        have HS : Hid (kid d i = i) := by show _ = _; exact kid_low_stop (Or.inr (by rw [HK.out, HX.out, HZ.out]; exact hzn))
        go_wp2_with fail
        refine C.out.mono ?_
        rintro e w1 ⟨rfl, q, rfl⟩
        have HW1 : Hid (WrAt (wr.drewN q) blk off d) := HW.out.drewN q
        have HG1 : Hid (w.grownBy (wr.drewN q) (some blk)) := gb_drewN HG.out q
        generalize wr.drewN q = w1 at HW1 HG1 ⊢
        obtain ⟨cx0, cx1, fx0, fx1⟩ := HW1.out.cell (by rw [HN.out]; exact hi) HX.out
        obtain ⟨cz0, cz1, fz0, fz1⟩ := HW1.out.cell (by rw [HN.out]; exact hkn) HZ.out
        go_wp2_with fail
        go_quiet (fail)
        go_wp2
        refine bodyPost_ret (results_none rfl _ _ _) rfl ?_
        exact ⟨rfl, by rw [← HE.out, sinkA_stop HS.out]; exact HW1.out.drewN _, gb_drewN HG1.out _⟩
    · have hkz : (n : Int) ≤ (k : Int) := by omega
      have hkd : decide ((n : Int) ≤ (k : Int)) = true := decide_eq_true hkz
      have HS : Hid (kid d i = i) := by show _ = _; exact kid_low_stop (Or.inl (by rw [HK.out, HN.out]; omega))
      go_wp2_with fail
      refine C.out.mono ?_
      rintro e w1 ⟨rfl, q, rfl⟩
      go_wp2_with fail
      go_quiet (fail)
      go_wp2
      refine bodyPost_ret (results_none rfl _ _ _) rfl ?_
      exact ⟨rfl, by rw [← HE.out, sinkA_stop HS.out]; exact (HW.out.drewN _).drewN _, gb_drewN (gb_drewN HG.out _) _⟩
#print axioms sink_any
end Go.Proofs.YtakkjgcehmpijaaDoor
