/-
  heap.lesser, heap.firstBelow and heap.sink at items: an item sinks.
-/
import Derived.Test.YtcjfbenbdjlodabHAbove
namespace Go.Proofs.Ytcjfbenbdjlodab
open Go.RowKit Go.Sort Go.Proofs

set_option maxHeartbeats 1000000 in
theorem lesser_yes {x0 y0 : Int} (x1 y1 : Int) (h : x0 < y0) (W : World) :
    Calls Try.prog 26 #[.agg #[.int .i64 x0, .int .i64 x1], .agg #[.int .i64 y0, .int .i64 y1]] W fun e w' => e = .returned (.bool true) ∧ ∃ q os', w' = grow (W.drewN q) os' := by
  have hd : decide (x0 < y0) = true := decide_eq_true h
  go_enter Try.func26, Try.ntmps26
  go_wp2
  go_ret
  exact ⟨rfl, 0, _, by rw [alloc_eq_grow, alloc_eq_grow, grow_grow]; rfl⟩
set_option maxHeartbeats 1000000 in
theorem lesser_no {x0 y0 : Int} (x1 y1 : Int) (h : ¬ x0 < y0) (W : World) :
    Calls Try.prog 26 #[.agg #[.int .i64 x0, .int .i64 x1], .agg #[.int .i64 y0, .int .i64 y1]] W fun e w' => e = .returned (.bool false) ∧ ∃ q os', w' = grow (W.drewN q) os' := by
  have hd : decide (x0 < y0) = false := decide_eq_false h
  go_enter Try.func26, Try.ntmps26
  go_wp2
  go_ret
  exact ⟨rfl, 0, _, by rw [alloc_eq_grow, alloc_eq_grow, grow_grow]; rfl⟩

set_option maxHeartbeats 4000000 in
theorem firstBelow_any (blk off cap n i : Nat) (d : Array (Int × Int)) (w : World) (hn : Hid (d.size = n)) (h60 : n ≤ 61) (hi : i < n) (hr : Hid (RdAt w blk off d)) :
    Calls Try.prog 37 #[.slice (some ⟨blk, off, none⟩) n cap, .int .i64 i, .func (.func 26) #[] #[]] w fun e w' => e = .returned (.int .i64 (low d i : Nat)) ∧ ∃ q os', w' = grow (w.drewN q) os' := by
  have mixed : Try.prog.follows .mixedOrders = true := by kernel_rfl
  have w0 : IntKind.i64.wrap (2 * (i : Int)) = 2 * (i : Int) := by rw [IntKind.wrap_i64]; omega
  have w1 : IntKind.i64.wrap (2 * (i : Int) + 1) = 2 * (i : Int) + 1 := by rw [IntKind.wrap_i64]; omega
  have w2 : IntKind.i64.wrap (2 * (i : Int) + 2) = 2 * (i : Int) + 2 := by rw [IntKind.wrap_i64]; omega
  have t1 : (2 * (i : Int) + 1).toNat = 2 * i + 1 := by omega
  have t2 : (2 * (i : Int) + 2).toNat = 2 * i + 2 := by omega
  have p1 : (0 : Int) ≤ 2 * (i : Int) + 1 := by omega
  have p2 : (0 : Int) ≤ 2 * (i : Int) + 2 := by omega
  by_cases hb : 2 * i + 2 < n
  · have hbz : 2 * (i : Int) + 2 < (n : Int) := by omega
    have haz : 2 * (i : Int) + 1 < (n : Int) := by omega
    have hbd : decide (2 * (i : Int) + 2 < (n : Int)) = true := decide_eq_true hbz
    obtain ⟨y0, y1, hy⟩ : ∃ x y, d[2 * i + 1]! = (x, y) := ⟨_, _, rfl⟩
    obtain ⟨z0, z1, hz⟩ : ∃ x y, d[2 * i + 2]! = (x, y) := ⟨_, _, rfl⟩
    have cy0 := hr.out.cellG (i := 2 * i + 1) (by rw [hn.out]; omega) hy
    have cy1 := hr.out.cellG1 (i := 2 * i + 1) (by rw [hn.out]; omega) hy
    have cz0 := hr.out.cellG (i := 2 * i + 2) (by rw [hn.out]; omega) hz
    have cz1 := hr.out.cellG1 (i := 2 * i + 2) (by rw [hn.out]; omega) hz
    by_cases hzy : z0 < y0
    · have HL : Hid (low d i = 2 * i + 2) := by show _ = _; unfold low; rw [if_pos]; rw [hn.out, hy, hz]; exact ⟨hb, hzy⟩
      have hcg := fun n os => lesser_yes z1 y1 hzy (grow (w.drewN n) os)
      have HCG : Aside _ := hcg
      clear hy hz hcg
      go_enter Try.func37, Try.ntmps37
      go_wp2_with fail
      go_quiet_grown (first | (go_at_call 26; refine Calls.grown_of (HCG.out _ _)))
      go_wp2
      go_ret
      exact ⟨by rw [HL.out]; rfl, nq, osq, rfl⟩
    · have HL : Hid (low d i = 2 * i + 1) := by show _ = _; unfold low; rw [if_neg]; rw [hn.out, hy, hz]; exact fun h => hzy h.2
      have hcg := fun n os => lesser_no z1 y1 hzy (grow (w.drewN n) os)
      have HCG : Aside _ := hcg
      clear hy hz hcg
      go_enter Try.func37, Try.ntmps37
      go_wp2_with fail
      go_quiet_grown (first | (go_at_call 26; refine Calls.grown_of (HCG.out _ _)))
      go_wp2
      go_ret
      exact ⟨by rw [HL.out]; rfl, nq, osq, rfl⟩
  · have hbz : ¬ 2 * (i : Int) + 2 < (n : Int) := by omega
    have hbd : decide (2 * (i : Int) + 2 < (n : Int)) = false := decide_eq_false hbz
    have HL : Hid (low d i = 2 * i + 1) := by show _ = _; unfold low; rw [if_neg]; rw [hn.out]; exact fun h => hb h.1
    go_enter Try.func37, Try.ntmps37
    go_wp2_with fail
    go_quiet (fail)
    go_wp2
    go_ret
    exact ⟨by rw [HL.out]; rfl, nq, #[], by rw [grow_empty]⟩

theorem exchanged_wr {wq : World} {blk off : Nat} {d : Array (Int × Int)} (h : WrAt wq blk off d) {i k : Nat} (hi : i < d.size) (hk : k < d.size) {x0 x1 z0 z1 : Int} (hx : d[i]! = (x0, x1)) (hz : d[k]! = (z0, z1)) :
    WrAt (((((wq.setCell ⟨blk, off + i * 2, none⟩ (.int .i64 z0)).setCell ⟨blk, off + i * 2 + 1, none⟩ (.int .i64 z1)).setCell ⟨blk, off + k * 2, none⟩ (.int .i64 x0)).setCell ⟨blk, off + k * 2 + 1, none⟩ (.int .i64 x1)).drew) blk off (swp d i k) := by
  unfold swp
  rw [hx, hz]
  exact ((h.set hi (z0, z1)).set (i := k) (by simpa using hk) (x0, x1)).drew
theorem exchanged_gb {w wq : World} {blk : Nat} (h : w.grownBy wq (some blk)) (a b c e : Nat) (u1 u2 u3 u4 : Value) :
    w.grownBy (((((wq.setCell ⟨blk, a, none⟩ u1).setCell ⟨blk, b, none⟩ u2).setCell ⟨blk, c, none⟩ u3).setCell ⟨blk, e, none⟩ u4).drew) (some blk) := gb_drewN (gb_set (gb_set h a b u1 u2) c e u3 u4) 1

set_option maxHeartbeats 8000000 in
set_option maxRecDepth 4000 in
theorem sink_any (blk off cap n i0 : Nat) (d0 : Array (Int × Int)) (w : World) (h60 : n ≤ 61) (hi0 : i0 < n) (HN0 : Hid (d0.size = n)) (HW0 : Hid (WrAt w blk off d0)) :
    Calls Try.prog 25 #[.slice (some ⟨blk, off, none⟩) n cap, .int .i64 i0, .func (.func 26) #[] #[]] w fun e w' => e = .returned (.tuple #[]) ∧ WrAt w' blk off (sinkA d0 i0) ∧ w.grownBy w' (some blk) := by
  have mixed : Try.prog.follows .mixedOrders = true := by kernel_rfl
  go_enter Try.func25, Try.ntmps25
  go_wp2
  go_loopg [1] (n - i0) (fun g vi wr => ∃ i : Nat, vi = .int .i64 i ∧ i + g = n ∧ i < n ∧ ∃ d : Array (Int × Int), Hid (d.size = n) ∧ Hid (WrAt wr blk off d) ∧ Hid (sinkA d i = sinkA d0 i0) ∧ Hid (w.grownBy wr (some blk)))
  case atStart => exact ⟨i0, rfl, by omega, hi0, d0, HN0, HW0, rfl, World.grownBy.refl w _⟩
  case round =>
    obtain ⟨i, rfl, hg, hi, d, HN, HW, HE, HG⟩ := hrel
    have c := firstBelow_any blk off cap n i d wr HN h60 hi HW.out.rd
    obtain ⟨k, hk⟩ : ∃ k, low d i = k := ⟨_, rfl⟩
    have hik : i < k := by have := low_cases d i; omega
    have hk2 : k ≤ 2 * i + 2 := by have := low_cases d i; omega
    rw [hk] at c
    have HK : Hid (low d i = k) := hk
    have C : Hid (Calls Try.prog 37 #[.slice (some ⟨blk, off, none⟩) n cap, .int .i64 i, .func (.func 26) #[] #[]] wr fun e w' => e = .returned (.int .i64 k) ∧ ∃ q os', w' = grow (wr.drewN q) os') := c
    clear c hk
    by_cases hkn : k < n
    · have hkz : ¬ (n : Int) ≤ (k : Int) := by omega
      have hkd : decide ((n : Int) ≤ (k : Int)) = false := decide_eq_false hkz
      have hkz' : (k : Int) < (n : Int) := by omega
      have hiz : (i : Int) < (n : Int) := by omega
      obtain ⟨x0, x1, hx⟩ : ∃ x y, d[i]! = (x, y) := ⟨_, _, rfl⟩
      obtain ⟨z0, z1, hz⟩ : ∃ x y, d[k]! = (x, y) := ⟨_, _, rfl⟩
      have HX : Hid (d[i]! = (x0, x1)) := hx
      have HZ : Hid (d[k]! = (z0, z1)) := hz
      clear hx hz
      by_cases hzx : z0 < x0
      · go_wp2_with fail
        refine C.out.mono ?_
        rintro e w1 ⟨rfl, q, os1, rfl⟩
        have HW1 : Hid (WrAt (grow (wr.drewN q) os1) blk off d) := HW.out.grown q os1
        have HG1 : Hid (w.grownBy (grow (wr.drewN q) os1) (some blk)) := gb_grown HG.out q os1
        generalize grow (wr.drewN q) os1 = w1 at HW1 HG1 ⊢
        have cx0 := HW1.out.rd.cellG (by rw [HN.out]; exact hi) HX.out
        have cx1 := HW1.out.rd.cellG1 (by rw [HN.out]; exact hi) HX.out
        have cz0 := HW1.out.rd.cellG (by rw [HN.out]; exact hkn) HZ.out
        have cz1 := HW1.out.rd.cellG1 (by rw [HN.out]; exact hkn) HZ.out
        have hcg := fun n os => lesser_yes z1 x1 (show z0 < x0 by omega) (grow (w1.drewN n) os)
        have HCG : Aside _ := hcg
        clear hcg
        go_wp2_with fail
        go_quiet_grown (first | (go_at_call 26; refine Calls.grown_of (HCG.out _ _)))
        have HW2 : Hid (WrAt (grow (w1.drewN nq) osq) blk off d) := HW1.out.grown nq osq
        have HG2 : Hid (w.grownBy (grow (w1.drewN nq) osq) (some blk)) := gb_grown HG1.out nq osq
        clear cx0 cx1 cz0 cz1 HW1 HG1 HCG
        generalize grow (w1.drewN nq) osq = w2 at HW2 HG2 ⊢
        obtain ⟨cx0, cx1, fx0, fx1⟩ := HW2.out.cell (by rw [HN.out]; exact hi) HX.out
        obtain ⟨cz0, cz1, fz0, fz1⟩ := HW2.out.cell (by rw [HN.out]; exact hkn) HZ.out
        go_wp2_with fail
        go_region
        go_wp2
        go_roundg (n - k)
        case measure => omega
        case rel =>
          refine ⟨k, rfl, by omega, hkn, swp d i k, by show _ = _; rw [swp_size]; exact HN.out, exchanged_wr HW2.out (by rw [HN.out]; exact hi) (by rw [HN.out]; exact hkn) HX.out HZ.out, ?_, exchanged_gb HG2.out _ _ _ _ _ _ _ _⟩
          show _ = _
          have ek := kid_low_go (d := d) (i := i) (by rw [HK.out, HN.out]; exact hkn) (by rw [HK.out, HX.out, HZ.out]; exact hzx)
          rw [← HE.out, sinkA_go (d := d) (i := i) (by rw [ek, HK.out]; omega), ek, HK.out]
      · have HS : Hid (kid d i = i) := by show _ = _; exact kid_low_stop (Or.inr (by rw [HK.out, HX.out, HZ.out]; omega))
        go_wp2_with fail
        refine C.out.mono ?_
        rintro e w1 ⟨rfl, q, os1, rfl⟩
        have HW1 : Hid (WrAt (grow (wr.drewN q) os1) blk off d) := HW.out.grown q os1
        have HG1 : Hid (w.grownBy (grow (wr.drewN q) os1) (some blk)) := gb_grown HG.out q os1
        generalize grow (wr.drewN q) os1 = w1 at HW1 HG1 ⊢
        have cx0 := HW1.out.rd.cellG (by rw [HN.out]; exact hi) HX.out
        have cx1 := HW1.out.rd.cellG1 (by rw [HN.out]; exact hi) HX.out
        have cz0 := HW1.out.rd.cellG (by rw [HN.out]; exact hkn) HZ.out
        have cz1 := HW1.out.rd.cellG1 (by rw [HN.out]; exact hkn) HZ.out
        have hcg := fun n os => lesser_no z1 x1 (show ¬ z0 < x0 by omega) (grow (w1.drewN n) os)
        have HCG : Aside _ := hcg
        clear hcg
        go_wp2_with fail
        go_quiet_grown (first | (go_at_call 26; refine Calls.grown_of (HCG.out _ _)))
        go_wp2
        refine bodyPost_ret (results_none rfl _ _ _) rfl ?_
        exact ⟨rfl, by rw [← HE.out, sinkA_stop HS.out]; exact HW1.out.grown _ _, gb_grown HG1.out _ _⟩
    · have hkz : (n : Int) ≤ (k : Int) := by omega
      have hkd : decide ((n : Int) ≤ (k : Int)) = true := decide_eq_true hkz
      have HS : Hid (kid d i = i) := by show _ = _; exact kid_low_stop (Or.inl (by rw [HK.out, HN.out]; omega))
      go_wp2_with fail
      refine C.out.mono ?_
      rintro e w1 ⟨rfl, q, os1, rfl⟩
      go_wp2_with fail
      go_quiet (fail)
      go_wp2
      refine bodyPost_ret (results_none rfl _ _ _) rfl ?_
      exact ⟨rfl, by rw [← HE.out, sinkA_stop HS.out]; exact (HW.out.grown _ _).drewN _, gb_drewN (gb_grown HG.out _ _) _⟩
#print axioms sink_any
end Go.Proofs.Ytcjfbenbdjlodab
