/-
  The document's heaps in a list.
-/
import Derived.Test.YtcjfbenbdjlodaaDoorWr
import Derived.Test.YtcjfbenbdjlodaaDoorHMath
import Derived.Test.YtcjfbenbdjlodaaDoorRef1
namespace Go.Proofs.YtcjfbenbdjlodaaDoor
open Go.RowKit Go.Sort Go.Proofs

theorem swapped_wr {wq : World} {blk off : Nat} {d : Array (Int × Int)} (h : WrAt wq blk off d) {i k : Nat} (hi : i < d.size) (hk : k < d.size) {x0 x1 z0 z1 : Int} (hx : d[i]! = (x0, x1)) (hz : d[k]! = (z0, z1)) (o : Obj) :
    WrAt (((((wq.setCell ⟨blk, off + i * 2, none⟩ (.int .i64 z0)).setCell ⟨blk, off + i * 2 + 1, none⟩ (.int .i64 z1)).setCell ⟨blk, off + k * 2, none⟩ (.int .i64 x0)).setCell ⟨blk, off + k * 2 + 1, none⟩ (.int .i64 x1)).alloc o) blk off (swp d i k) := by
  unfold swp
  rw [hx, hz]
  exact ((h.set hi (z0, z1)).set (i := k) (by simpa using hk) (x0, x1)).alloc o
theorem swapped_gb {w wq : World} {blk : Nat} (h : w.grownBy wq (some blk)) (a b c e : Nat) (u1 u2 u3 u4 : Value) (o : Obj) :
    w.grownBy (((((wq.setCell ⟨blk, a, none⟩ u1).setCell ⟨blk, b, none⟩ u2).setCell ⟨blk, c, none⟩ u3).setCell ⟨blk, e, none⟩ u4).alloc o) (some blk) := gb_alloc (gb_set (gb_set h a b u1 u2) c e u3 u4) o

set_option maxHeartbeats 16000000 in
set_option maxRecDepth 4000 in
theorem refSink_any (blk off cap n : Nat) (h60 : n ≤ 60) : ∀ (m i : Nat) (d : Array (Int × Int)) (w : World), n - i ≤ m → i < n → Hid (d.size = n) → Hid (WrAt w blk off d) →
    Calls Tryd.prog 20 #[.slice (some ⟨blk, off, none⟩) n cap, .int .i64 i] w fun e w' => e = .returned (.tuple #[]) ∧ WrAt w' blk off (sinkA d i) ∧ w.grownBy w' (some blk) := by
  intro m
  induction m with
  | zero => intro i d w hm hi; omega
  | succ m ih =>
    intro i d w hm hi HN HW
    have IH : Hid (∀ (i : Nat) (d : Array (Int × Int)) (w : World), n - i ≤ m → i < n → Hid (d.size = n) → Hid (WrAt w blk off d) → Calls Tryd.prog 20 #[.slice (some ⟨blk, off, none⟩) n cap, .int .i64 i] w fun e w' => e = .returned (.tuple #[]) ∧ WrAt w' blk off (sinkA d i) ∧ w.grownBy w' (some blk)) := ih
    clear ih
    have w0 : IntKind.i64.wrap (2 * (i : Int)) = 2 * (i : Int) := by rw [IntKind.wrap_i64]; omega
    have w1 : IntKind.i64.wrap (2 * (i : Int) + 1) = 2 * (i : Int) + 1 := by rw [IntKind.wrap_i64]; omega
    have w2 : IntKind.i64.wrap (2 * (i : Int) + 2) = 2 * (i : Int) + 2 := by rw [IntKind.wrap_i64]; omega
    have t1 : (2 * (i : Int) + 1).toNat = 2 * i + 1 := by omega
    have t2 : (2 * (i : Int) + 2).toNat = 2 * i + 2 := by omega
    have p1 : (0 : Int) ≤ 2 * (i : Int) + 1 := by omega
    have p2 : (0 : Int) ≤ 2 * (i : Int) + 2 := by omega
    have n1e : ¬ 2 * (i : Int) + 1 = (i : Int) := by omega
    have n2e : ¬ 2 * (i : Int) + 2 = (i : Int) := by omega
    have hiz : (i : Int) < (n : Int) := by omega
    obtain ⟨x0, x1, hx⟩ : ∃ x y, d[i]! = (x, y) := ⟨_, _, rfl⟩
    obtain ⟨cx0, cx1, fx0, fx1⟩ := HW.out.cell (by rw [HN.out]; exact hi) hx
    have HXX : Hid (d[i]! = (x0, x1)) := hx
    clear hx
    by_cases ha : 2 * i + 1 < n
    · have haz : 2 * (i : Int) + 1 < (n : Int) := by omega
      have had : decide (2 * (i : Int) + 1 < (n : Int)) = true := decide_eq_true haz
      obtain ⟨y0, y1, hy⟩ : ∃ x y, d[2 * i + 1]! = (x, y) := ⟨_, _, rfl⟩
      obtain ⟨cy0, cy1, fy0, fy1⟩ := HW.out.cell (by rw [HN.out]; exact ha) hy
      have HYY : Hid (d[2 * i + 1]! = (y0, y1)) := hy
      clear hy
      by_cases hyx : y0 < x0
      · have hyd : decide (y0 < x0) = true := decide_eq_true hyx
        by_cases hb : 2 * i + 2 < n
        · have hbz : 2 * (i : Int) + 2 < (n : Int) := by omega
          have hbd : decide (2 * (i : Int) + 2 < (n : Int)) = true := decide_eq_true hbz
          obtain ⟨z0, z1, hz⟩ : ∃ x y, d[2 * i + 2]! = (x, y) := ⟨_, _, rfl⟩
          obtain ⟨cz0, cz1, fz0, fz1⟩ := HW.out.cell (by rw [HN.out]; exact hb) hz
          have HZZ : Hid (d[2 * i + 2]! = (z0, z1)) := hz
          clear hz
          by_cases hzx : z0 < y0
          · have hzd : decide (z0 < y0) = true := decide_eq_true hzx
            have hk : Hid (kid d i = 2 * i + 2) := by show _ = _; exact kid_second (by rw [HN.out, HXX.out, HYY.out]; exact ⟨ha, hyx⟩) (by rw [HN.out, HZZ.out, HYY.out]; exact ⟨hb, hzx⟩)
            go_enter Tryd.func20, Tryd.ntmps20
            go_wp2_with fail
            go_quiet (fail)
            obtain ⟨n1, rfl⟩ : ∃ n1, n1 = nq := ⟨_, rfl⟩
            go_wp2_with fail
            go_quiet (fail)
            have HWQ : Hid (WrAt ((w.drewN n1).drewN nq) blk off d) := (HW.out.drewN _).drewN _
            have hgq : w.grownBy ((w.drewN n1).drewN nq) (some blk) := gb_drewN (gb_drewN (World.grownBy.refl w _) _) _
            clear cx0 cx1 fx0 fx1 cy0 cy1 fy0 fy1 cz0 cz1 fz0 fz1
            generalize (w.drewN n1).drewN nq = wq at HWQ hgq ⊢
            obtain ⟨cx0, cx1, fx0, fx1⟩ := HWQ.out.cell (by rw [HN.out]; exact hi) HXX.out
            obtain ⟨cz0, cz1, fz0, fz1⟩ := HWQ.out.cell (by rw [HN.out]; exact hb) HZZ.out
            have hbl : blk < wq.heap.size := HWQ.out.lt
            go_wp2_with fail
            have hs := swapped_wr HWQ.out (i := i) (k := 2 * i + 2) (by rw [HN.out]; exact hi) (by rw [HN.out]; exact hb) HXX.out HZZ.out (.cells #[.int .i64 x0, .int .i64 x1] 24)
            have c := IH.out (2 * i + 2) (swp d i (2 * i + 2)) _ (by omega) hb (by show _ = _; rw [swp_size]; exact HN.out) hs
            have cc : ((2 * i + 2 : Nat) : Int) = 2 * (i : Int) + 2 := by omega
            rw [cc] at c
            refine c.mono ?_
            rintro e w9 ⟨rfl, hw9, hg9⟩
            have hs9 : Hid (WrAt w9 blk off (sinkA d i)) := by show WrAt _ _ _ _; rw [sinkA_go (by rw [hk.out]; omega), hk.out]; exact hw9
            have hg9' := gb_trans (swapped_gb hgq _ _ _ _ _ _ _ _ _) hg9
            clear c hw9 hg9 hs
            go_wp2
            go_end0
            exact ⟨rfl, hs9.out, hg9'⟩
          · have hzd : decide (z0 < y0) = false := decide_eq_false hzx
            have hk : Hid (kid d i = 2 * i + 1) := by show _ = _; exact kid_first (by rw [HN.out, HXX.out, HYY.out]; exact ⟨ha, hyx⟩) (by rw [HN.out, HZZ.out, HYY.out]; exact fun h => hzx h.2)
            go_enter Tryd.func20, Tryd.ntmps20
            go_wp2_with fail
            go_quiet (fail)
            obtain ⟨n1, rfl⟩ : ∃ n1, n1 = nq := ⟨_, rfl⟩
            go_wp2_with fail
            go_quiet (fail)
            have HWQ : Hid (WrAt ((w.drewN n1).drewN nq) blk off d) := (HW.out.drewN _).drewN _
            have hgq : w.grownBy ((w.drewN n1).drewN nq) (some blk) := gb_drewN (gb_drewN (World.grownBy.refl w _) _) _
            clear cx0 cx1 fx0 fx1 cy0 cy1 fy0 fy1 cz0 cz1 fz0 fz1
            generalize (w.drewN n1).drewN nq = wq at HWQ hgq ⊢
            obtain ⟨cx0, cx1, fx0, fx1⟩ := HWQ.out.cell (by rw [HN.out]; exact hi) HXX.out
            obtain ⟨cy0, cy1, fy0, fy1⟩ := HWQ.out.cell (by rw [HN.out]; exact ha) HYY.out
            have hbl : blk < wq.heap.size := HWQ.out.lt
            go_wp2_with fail
            have hs := swapped_wr HWQ.out (i := i) (k := 2 * i + 1) (by rw [HN.out]; exact hi) (by rw [HN.out]; exact ha) HXX.out HYY.out (.cells #[.int .i64 x0, .int .i64 x1] 24)
            have c := IH.out (2 * i + 1) (swp d i (2 * i + 1)) _ (by omega) ha (by show _ = _; rw [swp_size]; exact HN.out) hs
            have cc : ((2 * i + 1 : Nat) : Int) = 2 * (i : Int) + 1 := by omega
            rw [cc] at c
            refine c.mono ?_
            rintro e w9 ⟨rfl, hw9, hg9⟩
            have hs9 : Hid (WrAt w9 blk off (sinkA d i)) := by show WrAt _ _ _ _; rw [sinkA_go (by rw [hk.out]; omega), hk.out]; exact hw9
            have hg9' := gb_trans (swapped_gb hgq _ _ _ _ _ _ _ _ _) hg9
            clear c hw9 hg9 hs
            go_wp2
            go_end0
            exact ⟨rfl, hs9.out, hg9'⟩
        · have hbz : ¬ 2 * (i : Int) + 2 < (n : Int) := by omega
          have hbd : decide (2 * (i : Int) + 2 < (n : Int)) = false := decide_eq_false hbz
          have hk : Hid (kid d i = 2 * i + 1) := by show _ = _; exact kid_first (by rw [HN.out, HXX.out, HYY.out]; exact ⟨ha, hyx⟩) (by rw [HN.out]; exact fun h => hb h.1)
          go_enter Tryd.func20, Tryd.ntmps20
          go_wp2_with fail
          go_quiet (fail)
          obtain ⟨n1, rfl⟩ : ∃ n1, n1 = nq := ⟨_, rfl⟩
          go_wp2_with fail
          go_quiet (fail)
          have HWQ : Hid (WrAt ((w.drewN n1).drewN nq) blk off d) := (HW.out.drewN _).drewN _
          have hgq : w.grownBy ((w.drewN n1).drewN nq) (some blk) := gb_drewN (gb_drewN (World.grownBy.refl w _) _) _
          clear cx0 cx1 fx0 fx1 cy0 cy1 fy0 fy1
          generalize (w.drewN n1).drewN nq = wq at HWQ hgq ⊢
          obtain ⟨cx0, cx1, fx0, fx1⟩ := HWQ.out.cell (by rw [HN.out]; exact hi) HXX.out
          obtain ⟨cy0, cy1, fy0, fy1⟩ := HWQ.out.cell (by rw [HN.out]; exact ha) HYY.out
          have hbl : blk < wq.heap.size := HWQ.out.lt
          go_wp2_with fail
          have hs := swapped_wr HWQ.out (i := i) (k := 2 * i + 1) (by rw [HN.out]; exact hi) (by rw [HN.out]; exact ha) HXX.out HYY.out (.cells #[.int .i64 x0, .int .i64 x1] 24)
          have c := IH.out (2 * i + 1) (swp d i (2 * i + 1)) _ (by omega) ha (by show _ = _; rw [swp_size]; exact HN.out) hs
          have cc : ((2 * i + 1 : Nat) : Int) = 2 * (i : Int) + 1 := by omega
          rw [cc] at c
          refine c.mono ?_
          rintro e w9 ⟨rfl, hw9, hg9⟩
          have hs9 : Hid (WrAt w9 blk off (sinkA d i)) := by show WrAt _ _ _ _; rw [sinkA_go (by rw [hk.out]; omega), hk.out]; exact hw9
          have hg9' := gb_trans (swapped_gb hgq _ _ _ _ _ _ _ _ _) hg9
          clear c hw9 hg9 hs
          go_wp2
          go_end0
          exact ⟨rfl, hs9.out, hg9'⟩
      · have hyd : decide (y0 < x0) = false := decide_eq_false hyx
        by_cases hb : 2 * i + 2 < n
        · have hbz : 2 * (i : Int) + 2 < (n : Int) := by omega
          have hbd : decide (2 * (i : Int) + 2 < (n : Int)) = true := decide_eq_true hbz
          obtain ⟨z0, z1, hz⟩ : ∃ x y, d[2 * i + 2]! = (x, y) := ⟨_, _, rfl⟩
          obtain ⟨cz0, cz1, fz0, fz1⟩ := HW.out.cell (by rw [HN.out]; exact hb) hz
          have HZZ : Hid (d[2 * i + 2]! = (z0, z1)) := hz
          clear hz
          by_cases hzx : z0 < x0
          · have hzd : decide (z0 < x0) = true := decide_eq_true hzx
            have hk : Hid (kid d i = 2 * i + 2) := by show _ = _; exact kid_second' (by rw [HN.out, HXX.out, HYY.out]; exact fun h => hyx h.2) (by rw [HN.out, HZZ.out, HXX.out]; exact ⟨hb, hzx⟩)
            go_enter Tryd.func20, Tryd.ntmps20
            go_wp2_with fail
            go_quiet (fail)
            obtain ⟨n1, rfl⟩ : ∃ n1, n1 = nq := ⟨_, rfl⟩
            go_wp2_with fail
            go_quiet (fail)
            have HWQ : Hid (WrAt ((w.drewN n1).drewN nq) blk off d) := (HW.out.drewN _).drewN _
            have hgq : w.grownBy ((w.drewN n1).drewN nq) (some blk) := gb_drewN (gb_drewN (World.grownBy.refl w _) _) _
            clear cx0 cx1 fx0 fx1 cy0 cy1 fy0 fy1 cz0 cz1 fz0 fz1
            generalize (w.drewN n1).drewN nq = wq at HWQ hgq ⊢
            obtain ⟨cx0, cx1, fx0, fx1⟩ := HWQ.out.cell (by rw [HN.out]; exact hi) HXX.out
            obtain ⟨cz0, cz1, fz0, fz1⟩ := HWQ.out.cell (by rw [HN.out]; exact hb) HZZ.out
            have hbl : blk < wq.heap.size := HWQ.out.lt
            go_wp2_with fail
            have hs := swapped_wr HWQ.out (i := i) (k := 2 * i + 2) (by rw [HN.out]; exact hi) (by rw [HN.out]; exact hb) HXX.out HZZ.out (.cells #[.int .i64 x0, .int .i64 x1] 24)
            have c := IH.out (2 * i + 2) (swp d i (2 * i + 2)) _ (by omega) hb (by show _ = _; rw [swp_size]; exact HN.out) hs
            have cc : ((2 * i + 2 : Nat) : Int) = 2 * (i : Int) + 2 := by omega
            rw [cc] at c
            refine c.mono ?_
            rintro e w9 ⟨rfl, hw9, hg9⟩
            have hs9 : Hid (WrAt w9 blk off (sinkA d i)) := by show WrAt _ _ _ _; rw [sinkA_go (by rw [hk.out]; omega), hk.out]; exact hw9
            have hg9' := gb_trans (swapped_gb hgq _ _ _ _ _ _ _ _ _) hg9
            clear c hw9 hg9 hs
            go_wp2
            go_end0
            exact ⟨rfl, hs9.out, hg9'⟩
          · have hzd : decide (z0 < x0) = false := decide_eq_false hzx
            have hk : Hid (kid d i = i) := by show _ = _; exact kid_of_le d i (fun _ => by rw [HXX.out, HYY.out]; show x0 ≤ y0; omega) (fun _ => by rw [HXX.out, HZZ.out]; show x0 ≤ z0; omega)
            go_enter Tryd.func20, Tryd.ntmps20
            go_wp2_with fail
            go_quiet (fail)
            obtain ⟨n1, rfl⟩ : ∃ n1, n1 = nq := ⟨_, rfl⟩
            go_wp2_with fail
            go_quiet (fail)
            have HWQ : Hid (WrAt ((w.drewN n1).drewN nq) blk off d) := (HW.out.drewN _).drewN _
            have hgq : w.grownBy ((w.drewN n1).drewN nq) (some blk) := gb_drewN (gb_drewN (World.grownBy.refl w _) _) _
            generalize (w.drewN n1).drewN nq = wq at HWQ hgq ⊢
            go_wp2
            go_end0
            exact ⟨rfl, by rw [sinkA_stop hk.out]; exact HWQ.out, hgq⟩
        · have hbz : ¬ 2 * (i : Int) + 2 < (n : Int) := by omega
          have hbd : decide (2 * (i : Int) + 2 < (n : Int)) = false := decide_eq_false hbz
          have hk : Hid (kid d i = i) := by show _ = _; exact kid_of_le d i (fun _ => by rw [HXX.out, HYY.out]; show x0 ≤ y0; omega) (fun h => absurd h (by rw [HN.out]; exact hb))
          go_enter Tryd.func20, Tryd.ntmps20
          go_wp2_with fail
          go_quiet (fail)
          obtain ⟨n1, rfl⟩ : ∃ n1, n1 = nq := ⟨_, rfl⟩
          go_wp2_with fail
          go_quiet (fail)
          have HWQ : Hid (WrAt ((w.drewN n1).drewN nq) blk off d) := (HW.out.drewN _).drewN _
          have hgq : w.grownBy ((w.drewN n1).drewN nq) (some blk) := gb_drewN (gb_drewN (World.grownBy.refl w _) _) _
          generalize (w.drewN n1).drewN nq = wq at HWQ hgq ⊢
          go_wp2
          go_end0
          exact ⟨rfl, by rw [sinkA_stop hk.out]; exact HWQ.out, hgq⟩
    · have haz : ¬ 2 * (i : Int) + 1 < (n : Int) := by omega
      have had : decide (2 * (i : Int) + 1 < (n : Int)) = false := decide_eq_false haz
      have hb : ¬ 2 * i + 2 < n := by omega
      have hbz : ¬ 2 * (i : Int) + 2 < (n : Int) := by omega
      have hbd : decide (2 * (i : Int) + 2 < (n : Int)) = false := decide_eq_false hbz
      have hk : Hid (kid d i = i) := by show _ = _; exact kid_of_le d i (fun h => absurd h (by rw [HN.out]; exact ha)) (fun h => absurd h (by rw [HN.out]; exact hb))
      go_enter Tryd.func20, Tryd.ntmps20
      go_wp2_with fail
      go_quiet (fail)
      obtain ⟨n1, rfl⟩ : ∃ n1, n1 = nq := ⟨_, rfl⟩
      go_wp2_with fail
      go_quiet (fail)
      have HWQ : Hid (WrAt ((w.drewN n1).drewN nq) blk off d) := (HW.out.drewN _).drewN _
      have hgq : w.grownBy ((w.drewN n1).drewN nq) (some blk) := gb_drewN (gb_drewN (World.grownBy.refl w _) _) _
      generalize (w.drewN n1).drewN nq = wq at HWQ hgq ⊢
      go_wp2
      go_end0
      exact ⟨rfl, by rw [sinkA_stop hk.out]; exact HWQ.out, hgq⟩
#print axioms refSink_any
end Go.Proofs.YtcjfbenbdjlodaaDoor
