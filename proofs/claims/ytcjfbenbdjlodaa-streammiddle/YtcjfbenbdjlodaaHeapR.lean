/-
  heap.rise at items: an item rises.
-/
import Derived.Test.YtcjfbenbdjlodaaHeapC
namespace Go.Proofs.Ytcjfbenbdjlodaa
open Go.RowKit Go.Sort Go.Proofs

set_option maxHeartbeats 8000000 in
set_option maxRecDepth 4000 in
theorem rise_any (blk off cap n i0 : Nat) (d0 : Array (Int × Int)) (w : World) (h60 : n ≤ 61) (hi0 : i0 < n) (HN0 : Hid (d0.size = n)) (HW0 : Hid (WrAt w blk off d0)) :
    Calls Try.prog 25 #[.slice (some ⟨blk, off, none⟩) n cap, .int .i64 i0, .func (.func 22) #[] #[]] w fun e w' => e = .returned (.tuple #[]) ∧ WrAt w' blk off (upA d0 i0) ∧ w.grownBy w' (some blk) := by
  have mixed : Try.prog.follows .mixedOrders = true := by kernel_rfl
  go_enter Try.func25, Try.ntmps25
  go_wp2
  go_loopg [1] i0 (fun g vi wr => ∃ i : Nat, vi = .int .i64 i ∧ i ≤ g ∧ i < n ∧ ∃ d : Array (Int × Int), Hid (d.size = n) ∧ Hid (WrAt wr blk off d) ∧ Hid (upA d i = upA d0 i0) ∧ Hid (w.grownBy wr (some blk)))
  case atStart => exact ⟨i0, rfl, Nat.le_refl _, hi0, d0, HN0, HW0, rfl, World.grownBy.refl w _⟩
  case round =>
    obtain ⟨i, rfl, hg, hi, d, HN, HW, HE, HG⟩ := hrel
    have hiz : (i : Int) < (n : Int) := by omega
    by_cases hi1 : 0 < i
    · have h0z : (0 : Int) < (i : Int) := by omega
      have h0d : decide (0 < i) = true := decide_eq_true hi1
      obtain ⟨p, hp⟩ : ∃ p, (i - 1) / 2 = p := ⟨_, rfl⟩
      have c := fun w => above_any i hi1 (by omega) w
      have cG := fun w => above_anyG i hi1 (by omega) w
      rw [hp] at c cG
      have HCA : Aside _ := cG
      clear cG
      have hpi : p < i := by omega
      have hpn : p < n := by omega
      have hpz : (p : Int) < (n : Int) := by omega
      obtain ⟨x0, x1, hx⟩ : ∃ x y, d[i]! = (x, y) := ⟨_, _, rfl⟩
      obtain ⟨y0, y1, hy⟩ : ∃ x y, d[p]! = (x, y) := ⟨_, _, rfl⟩
      have cx0 := HW.out.rd.cellG (by rw [HN.out]; exact hi) hx
      have cx1 := HW.out.rd.cellG1 (by rw [HN.out]; exact hi) hx
      have cy0 := HW.out.rd.cellG (by rw [HN.out]; exact hpn) hy
      have cy1 := HW.out.rd.cellG1 (by rw [HN.out]; exact hpn) hy
      have HX : Hid (d[i]! = (x0, x1)) := hx
      have HY : Hid (d[p]! = (y0, y1)) := hy
      have HP : Hid ((i - 1) / 2 = p) := hp
      clear hx hy hp
      by_cases hxy : x0 < y0
      · have hcg := fun n os => lesser_yes x1 y1 (show x0 < y0 by omega) (grow (wr.drewN n) os)
        have HCG : Aside _ := hcg
        clear hcg
        go_wp2_with fail
        go_quiet_grown (first | (go_at_call 28; refine Calls.grown_of (HCA.out _)) | (go_at_call 22; refine Calls.grown_of (HCG.out _ _)))
        have HW2 : Hid (WrAt (grow (wr.drewN nq) osq) blk off d) := HW.out.grown nq osq
        have HG2 : Hid (w.grownBy (grow (wr.drewN nq) osq) (some blk)) := gb_grown HG.out nq osq
        clear cx0 cx1 cy0 cy1 HCG HCA
        generalize grow (wr.drewN nq) osq = w2 at HW2 HG2 ⊢
        obtain ⟨cx0, cx1, fx0, fx1⟩ := HW2.out.cell (by rw [HN.out]; exact hi) HX.out
        obtain ⟨cy0, cy1, fy0, fy1⟩ := HW2.out.cell (by rw [HN.out]; exact hpn) HY.out
        go_wp2_with fail
        go_region_with (first | (go_at_call 28; refine (c _).mono ?_; rintro e w' ⟨rfl, rfl⟩))
        all_goals
          go_wp2_with (first | (go_at_call 28; refine (c _).mono ?_; rintro e w' ⟨rfl, rfl⟩))
          go_roundg p
          case measure => omega
          case rel =>
            refine ⟨p, rfl, Nat.le_refl _, hpn, swp d i p, by show _ = _; rw [swp_size]; exact HN.out, exchanged_wr HW2.out (by rw [HN.out]; exact hi) (by rw [HN.out]; exact hpn) HX.out HY.out, ?_, exchanged_gb HG2.out _ _ _ _ _ _ _ _⟩
            show _ = _
            rw [← HE.out, upA_go (d := d) (i := i) (by rw [HP.out, HX.out, HY.out]; exact ⟨hi1, hxy⟩), HP.out]
      · have HS : Hid (upA d i = d) := by show _ = _; exact upA_stop (by rw [HP.out, HX.out, HY.out]; exact fun h => hxy h.2)
        have hcg := fun n os => lesser_no x1 y1 (show ¬ x0 < y0 by omega) (grow (wr.drewN n) os)
        have HCG : Aside _ := hcg
        clear hcg
        go_wp2_with fail
        go_quiet_grown (first | (go_at_call 28; refine Calls.grown_of (HCA.out _)) | (go_at_call 22; refine Calls.grown_of (HCG.out _ _)))
        go_wp2
        go_end0
        exact ⟨rfl, by rw [← HE.out, HS.out]; exact HW.out.grown _ _, gb_grown HG.out _ _⟩
    · have h0z : ¬ (0 : Int) < (i : Int) := by omega
      have h0d : decide (0 < i) = false := decide_eq_false hi1
      have HS : Hid (upA d i = d) := by show _ = _; exact upA_stop (fun h => hi1 h.1)
      go_wp2_with fail
      go_quiet (fail)
      go_wp2
      go_end0
      exact ⟨rfl, by rw [← HE.out, HS.out]; exact HW.out.drewN _, gb_drewN HG.out _⟩
#print axioms rise_any
end Go.Proofs.Ytcjfbenbdjlodaa
