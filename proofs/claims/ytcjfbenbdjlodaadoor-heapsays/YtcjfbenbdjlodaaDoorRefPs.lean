/-
  The document's HeapPush.
-/
import Derived.Test.YtcjfbenbdjlodaaDoorRefMk
import Derived.Test.YtcjfbenbdjlodaaDoorHeapP
namespace Go.Proofs.YtcjfbenbdjlodaaDoor
open Go.RowKit Go.Sort Go.Proofs

theorem swp_of {d : Array (Int × Int)} {i k : Nat} {x : Int × Int} (h : d[i]! = x) : swp d i k = (d.setIfInBounds i d[k]!).setIfInBounds k x := by unfold swp; rw [h]
theorem swp_at {d : Array (Int × Int)} {i k : Nat} (hi : i < d.size) (hk : k < d.size) : (swp d i k)[k]! = d[i]! := by
  rw [swp_get d hi hk]; simp

theorem push_list {xs : Array (Int × Int)} {x : Int × Int} : ([] ++ xs.toList ++ [x]).toArray = xs.push x := by apply Array.ext' <;> simp
theorem pushed_wr {wq : World} {blk : Nat} {d : Array (Int × Int)} (h : WrAt wq blk 0 d) {i k : Nat} (hi : i < d.size) (hk : k < d.size) {x0 x1 z0 z1 : Int} (hx : d[i]! = (x0, x1)) (hz : d[k]! = (z0, z1)) :
    WrAt ((((wq.setCell ⟨blk, i * 2, none⟩ (.int .i64 z0)).setCell ⟨blk, i * 2 + 1, none⟩ (.int .i64 z1)).setCell ⟨blk, k * 2, none⟩ (.int .i64 x0)).setCell ⟨blk, k * 2 + 1, none⟩ (.int .i64 x1)) blk 0 (swp d i k) := by
  unfold swp
  rw [hx, hz]
  have := (h.set hi (z0, z1)).set (i := k) (by simpa using hk) (x0, x1)
  simpa only [Nat.zero_add] using this

set_option maxHeartbeats 8000000 in
set_option maxRecDepth 4000 in
theorem refPush_some (p : Option Addr) (n cap : Nat) (x0 x1 : Int) (xs : Array (Int × Int)) (w : World) (hn : n < 60) (HN : Hid (xs.size = n)) (HS : Hid (Sl w (.slice p n cap) xs)) :
    Calls Tryd.prog 12 #[.slice p n cap, .agg #[.int .i64 x0, .int .i64 x1]] w fun e w' => ∃ u, e = .returned u ∧ Sl w' u (hpush xs (x0, x1)) ∧ Below w.heap.size w w' := by
  have HS0 : Hid (Sl (w.alloc (.cells #[.int .i64 x0, .int .i64 x1] 24)) (.slice p n cap) xs) := HS.out.below ((Below.refl _ _).alloc (Nat.le_refl _) _)
  go_enter Tryd.func12, Tryd.ntmps12
  go_wp2_with (first | (at_builtin; refine wpList_append_sl rfl (.tmp 8) (.tmp 9) rfl (w.heap.size + 1) (.slice none 0 0) (.slice p n cap) [] xs rfl rfl (OwnI.nil _ _) HS0.out (by rw [HN.out]; simp; omega) (by simp) ?_; intro v1 w1 hA1 hg1; have k0 := (World.cell?_of_block (a := ⟨w.heap.size, 0, none⟩) (hg1.block w.heap.size (by simp) (by simp [Value.ownBlock]))).trans (show (w.alloc (.cells #[.int .i64 x0, .int .i64 x1] 24)).cell? ⟨w.heap.size, 0, none⟩ = some (.int .i64 x0) by simp); have k1 := (World.cell?_of_block (a := ⟨w.heap.size, 1, none⟩) (hg1.block w.heap.size (by simp) (by simp [Value.ownBlock]))).trans (show (w.alloc (.cells #[.int .i64 x0, .int .i64 x1] 24)).cell? ⟨w.heap.size, 1, none⟩ = some (.int .i64 x1) by simp); have hz1 : w.heap.size + 1 ≤ w1.heap.size := Nat.le_trans (by simp) hg1.size; have hbb1 : Below w.heap.size w w1 := ((Below.refl _ _).alloc (Nat.le_refl _) _).grown hg1 (by simp) (fun k e => by cases e); clear hg1) | (at_builtin; refine wpList_append_item rfl (.tmp 11) (.tmp 13) rfl (w.heap.size + 1) v1 ([] ++ xs.toList) (x0, x1) ⟨w1.heap.size, 0, none⟩ 1 rfl (hA1.alloc _) rfl (by simp) (by simp [Addr.add]) (by simp; rw [HN.out]; omega) (by simp; omega) ?_; intro v2 w2 hA2 hg2 hk2; have hb12 := below_of_grown (hA1.alloc (.cells #[.int .i64 x0, .int .i64 x1] 24)) hg2 (Nat.le_refl _) (by simp; omega); have j0 := (hb12.cell (p := ⟨w.heap.size, 0, none⟩) (Nat.lt_succ_self _)).trans ((World.cell?_alloc_lt _ _ ⟨w.heap.size, 0, none⟩ (by simp; omega)).trans k0); have j1 := (hb12.cell (p := ⟨w.heap.size, 1, none⟩) (Nat.lt_succ_self _)).trans ((World.cell?_alloc_lt _ _ ⟨w.heap.size, 1, none⟩ (by simp; omega)).trans k1); have hb2 : Below w.heap.size w w2 := (hbb1.alloc (by omega) _).trans (hb12.mono (by omega)); obtain ⟨g, cp, hv2, hgb, hcp, hw2⟩ := OwnI.wr (n := n + 1) (by simp [HN.out]) (Nat.succ_pos _) hA2; have HW2 : Hid (WrAt w2 g 0 (xs.push (x0, x1))) := (by show WrAt _ _ _ _; have := hw2; rw [push_list] at this; exact this); clear hg2 hk2 hA2 hw2 hb12 hA1 k0 k1 hbb1; subst hv2))
  have hgx : g ≠ w.heap.size := by omega
  have hgw : w.heap.size ≤ g := by omega
  go_loopg [6] n (fun gg vi wr => ∃ i : Nat, vi = .int .i64 i ∧ i ≤ gg ∧ i ≤ n ∧ ∃ d : Array (Int × Int), Hid (d.size = n + 1) ∧ Hid (WrAt wr g 0 d) ∧ Hid (d[i]! = (x0, x1)) ∧ Hid (upA d i = hpush xs (x0, x1)) ∧ Hid (wr.cell? ⟨w.heap.size, 0, none⟩ = some (.int .i64 x0)) ∧ Hid (wr.cell? ⟨w.heap.size, 1, none⟩ = some (.int .i64 x1)) ∧ Hid (Below w.heap.size w wr))
  case atStart => exact ⟨n, rfl, Nat.le_refl _, Nat.le_refl _, xs.push (x0, x1), (show _ = _ by rw [Array.size_push, HN.out]), HW2, (show _ = _ by rw [← HN.out]; exact get_push_eq xs _), (show _ = _ by unfold hpush; rw [HN.out]), j0, j1, hb2⟩
  case round =>
    obtain ⟨i, rfl, hig, hin, d, HD, HW, HX, HE, HJ0, HJ1, HB⟩ := hrel
    have HSL : Hid (Sl wr (.slice (some ⟨g, 0, none⟩) (n + 1) cp) d) := by
      show Sl _ _ _
      have := Sl.of_rd (cap := cp) HW.out.rd (by rw [HD.out]; exact hcp)
      rw [HD.out] at this; exact this
    by_cases hi0 : 0 < i
    · obtain ⟨m, rfl⟩ : ∃ m, i = m + 1 := ⟨i - 1, by omega⟩
      have h0z : (0 : Int) < (m : Int) + 1 := by omega
      have h0d : decide ((0 : Int) < (m : Int) + 1) = true := decide_eq_true h0z
      have hwp : IntKind.i64.wrap (m : Int) = (m : Int) := by rw [IntKind.wrap_i64]; omega
      have t1 : Int.tdiv (m : Int) 2 = ((m / 2 : Nat) : Int) := by rw [Int.tdiv_eq_ediv_of_nonneg (by omega)]; omega
      obtain ⟨p, hp⟩ : ∃ p, m / 2 = p := ⟨_, rfl⟩
      rw [hp] at t1
      have wp2 : IntKind.i64.wrap (p : Int) = (p : Int) := by rw [IntKind.wrap_i64]; omega
      have hpm : p < m + 1 := by omega
      have hpz : (p : Int) < (n : Int) + 1 := by omega
      have hmz : (m : Int) + 1 < (n : Int) + 1 := by omega
      have q0 : (0 : Int) ≤ (m : Int) + 1 := by omega
      have e0 : ((m : Int) + 1).toNat = m + 1 := by omega
      obtain ⟨z0, z1, hz⟩ : ∃ x y, d[p]! = (x, y) := ⟨_, _, rfl⟩
      obtain ⟨cx0, cx1, fx0, fx1⟩ := HW.out.cell (by rw [HD.out]; omega) HX.out
      obtain ⟨cz0, cz1, fz0, fz1⟩ := HW.out.cell (i := p) (by rw [HD.out]; omega) hz
      simp only [Nat.zero_add] at cx0 cx1 fx0 fx1 cz0 cz1 fz0 fz1
      have HZ : Hid (d[p]! = (z0, z1)) := hz
      have HP : Hid (m / 2 = p) := hp
      clear hz hp
      by_cases hxz : x0 < z0
      · have hd : decide (x0 < z0) = true := decide_eq_true hxz
        have HU : Hid (upA (swp d (m + 1) p) p = hpush xs (x0, x1)) := by
          show _ = _
          have e : (m + 1 - 1) / 2 = p := by rw [Nat.add_sub_cancel]; exact HP.out
          rw [← HE.out, upA_go (d := d) (i := m + 1) (by rw [e, HX.out, HZ.out]; exact ⟨Nat.succ_pos _, hxz⟩), e]
        go_wp2_with fail
        go_quiet (fail)
        have HW2' : Hid (WrAt (wr.drewN nq) g 0 d) := HW.out.drewN nq
        have hb2' : Below w.heap.size w (wr.drewN nq) := below_drewN HB.out nq
        have a0 : (wr.drewN nq).cell? ⟨w.heap.size, 0, none⟩ = some (.int .i64 x0) := HJ0.out
        have a1 : (wr.drewN nq).cell? ⟨w.heap.size, 1, none⟩ = some (.int .i64 x1) := HJ1.out
        clear cx0 cx1 fx0 fx1 cz0 cz1 fz0 fz1
        generalize wr.drewN nq = wq at HW2' hb2' a0 a1 ⊢
        obtain ⟨cx0, cx1, fx0, fx1⟩ := HW2'.out.cell (by rw [HD.out]; omega) HX.out
        obtain ⟨cz0, cz1, fz0, fz1⟩ := HW2'.out.cell (i := p) (by rw [HD.out]; omega) HZ.out
        simp only [Nat.zero_add] at cx0 cx1 fx0 fx1 cz0 cz1 fz0 fz1
        go_wp2
        go_roundg p
        case measure => omega
        case rel =>
          have hgr : wq.grownBy ((((wq.setCell ⟨g, (m + 1) * 2, none⟩ (.int .i64 z0)).setCell ⟨g, (m + 1) * 2 + 1, none⟩ (.int .i64 z1)).setCell ⟨g, p * 2, none⟩ (.int .i64 x0)).setCell ⟨g, p * 2 + 1, none⟩ (.int .i64 x1)) (some g) := gb_set (gb_set (World.grownBy.refl _ _) _ _ _ _) _ _ _ _
          have hlx : w.heap.size < wq.heap.size := by have := HW2'.out.lt; omega
          have hbk := hgr.block w.heap.size hlx (by simp; omega)
          exact ⟨p, rfl, Nat.le_refl _, by omega, swp d (m + 1) p, (show _ = _ by rw [swp_size]; exact HD.out), pushed_wr HW2'.out (by rw [HD.out]; omega) (by rw [HD.out]; omega) HX.out HZ.out, (show _ = _ by rw [swp_at (by rw [HD.out]; omega) (by rw [HD.out]; omega)]; exact HX.out), HU, (World.cell?_of_block (a := ⟨w.heap.size, 0, none⟩) hbk).trans a0, (World.cell?_of_block (a := ⟨w.heap.size, 1, none⟩) hbk).trans a1, below_gb hb2' hgr hgw hb2'.size⟩
      · have hd : decide (x0 < z0) = false := decide_eq_false hxz
        have HS' : Hid (d = hpush xs (x0, x1)) := by
          show _ = _
          have e : (m + 1 - 1) / 2 = p := by rw [Nat.add_sub_cancel]; exact HP.out
          rw [← HE.out, upA_stop (by rw [e, HX.out, HZ.out]; exact fun h => hxz h.2)]
        go_wp2_with fail
        go_quiet (fail)
        go_wp2
        go_ret
        exact ⟨_, rfl, by rw [← HS'.out]; exact HSL.out.below (below_drewN (Below.refl _ _) _), below_drewN HB.out _⟩
    · obtain rfl : i = 0 := by omega
      have HS' : Hid (d = hpush xs (x0, x1)) := by show _ = _; rw [← HE.out, upA_stop (fun h => absurd h.1 (Nat.not_lt_zero _))]
      go_wp2_with fail
      go_quiet (fail)
      go_wp2
      go_ret
      exact ⟨_, rfl, by rw [← HS'.out]; exact HSL.out.below (below_drewN (Below.refl _ _) _), below_drewN HB.out _⟩
theorem refPush_any (v : Value) (x0 x1 : Int) (xs : Array (Int × Int)) (w : World) (h : Sl w v xs) (hn : xs.size < 60) :
    Calls Tryd.prog 12 #[v, .agg #[.int .i64 x0, .int .i64 x1]] w fun e w' => ∃ u, e = .returned u ∧ Sl w' u (hpush xs (x0, x1)) ∧ Below w.heap.size w w' := by
  obtain ⟨p, cap, rfl, hcap, _⟩ := id h
  exact refPush_some p xs.size cap x0 x1 xs w hn rfl h
#print axioms refPush_any
end Go.Proofs.YtcjfbenbdjlodaaDoor
