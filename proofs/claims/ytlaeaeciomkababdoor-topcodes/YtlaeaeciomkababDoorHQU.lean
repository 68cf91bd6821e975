/-
  Queues of package heap at groups of symbols, told by huff.lighter: NewQueue, Many, First, Push, Pop. (Written by wip/gen/hq.py.)
-/
import Derived.Test.YtlaeaeciomkababDoorHSU
import Derived.Deep.RegionHeld3
namespace Go.Proofs.YtlaeaeciomkababDoor
open Go.RowKit Go.Sort Go.Proofs

set_option maxHeartbeats 1000000 in
theorem newQU (w : World) : Calls Tryd.prog 39 #[.func (.func 40) #[] #[]] w fun e w' => e = .returned (.pointer (some ⟨w.heap.size, 0, none⟩)) ∧ w' = w.alloc (.cells #[.func (.func 40) #[] #[], .slice none 0 0] 113) := by
  go_enter Tryd.func39, Tryd.ntmps39
  go_wp2
  go_ret
  exact ⟨rfl, rfl⟩
theorem newQU_at (tb : Int → Sv) (w : World) : QE EU 113 (w.alloc (.cells #[.func (.func 40) #[] #[], .slice none 0 0] 113)) w.heap.size 40 ((#[] : Array (Int × Int)).toList.map (valU tb)) [w.heap.size] :=
  ⟨.slice none 0 0, qc_new _ w _ _, OwnE.nil EU _ 0, rfl⟩
set_option maxHeartbeats 1000000 in
theorem qManyU {tb : Int → Sv} {w : World} {qb : Nat} {d : Array (Int × Int)} {f : List Nat} (h : QE EU 113 w qb 40 ((d).toList.map (valU tb)) f) : Calls Tryd.prog 42 #[.pointer (some ⟨qb, 0, none⟩)] w fun e w' => e = .returned (.int .i64 (d.size : Nat)) ∧ w' = w := by
  obtain ⟨v, h1, h2, _⟩ := h
  obtain ⟨p, c, rfl⟩ := h2.form
  obtain ⟨_, c1⟩ := h1.cells
  rw [List.length_map, Array.length_toList] at c1
  clear h1 h2
  go_enter Tryd.func42, Tryd.ntmps42
  go_wp2
  go_ret
  exact ⟨rfl, rfl⟩
set_option maxHeartbeats 1000000 in
theorem qFirstU_none {tb : Int → Sv} {w : World} {qb : Nat} {f : List Nat} (h : QE EU 113 w qb 40 ((#[] : Array (Int × Int)).toList.map (valU tb)) f) : Calls Tryd.prog 65 #[.pointer (some ⟨qb, 0, none⟩)] w fun e w' => e = .returned (.tuple #[.agg #[.int .i64 0, .int .i64 0, .slice none 0 0], .iface 48 (.int .i64 5)]) ∧ Below w.heap.size w w' := by
  obtain ⟨v, h1, h2, _⟩ := h
  obtain ⟨p, c, rfl⟩ := h2.form
  obtain ⟨_, c1⟩ := h1.cells
  have hql := h1.lt
  clear h1 h2
  simp only [List.map_nil, List.length_nil] at c1
  go_enter Tryd.func65, Tryd.ntmps65
  go_wp2
  (try simp only [Exit.inBlock, Exit.then]); refine bodyPost_ret (by simp [results, Tryd.results65, go_sem]; try rfl) rfl ?_
  refine ⟨rfl, ?_⟩
  exact ((Below.refl _ w).alloc (Nat.le_refl _) _).alloc (by simp) _
set_option maxHeartbeats 1000000 in
theorem qFirstU_some {tb : Int → Sv} {w : World} {qb : Nat} {d : Array (Int × Int)} {f : List Nat} (h : QE EU 113 w qb 40 ((d).toList.map (valU tb)) f) (h0 : 0 < d.size) : Calls Tryd.prog 65 #[.pointer (some ⟨qb, 0, none⟩)] w fun e w' => e = .returned (.tuple #[vU tb d[0]!, .nilIface]) ∧ Below w.heap.size w w' := by
  obtain ⟨v, h1, h2, _⟩ := h
  obtain ⟨n, hn⟩ : ∃ n, d.size = n + 1 := ⟨d.size - 1, by omega⟩
  obtain ⟨g, cp, rfl, hcp⟩ := own_someE (n := n + 1) h2 (by simp [hn]) (Nat.succ_pos _)
  obtain ⟨_, c1⟩ := h1.cells
  obtain ⟨x0, x1, x2, x3, x4, hx⟩ : ∃ a0 a1 a2 a3 a4, valU tb d[0]! = (a0, a1, a2, a3, a4) := ⟨_, _, _, _, _, rfl⟩
  have cx0 := (h2.cellE (mapE_at (valU tb) d (i := 0) h0) (c := 0) (v := (.int .i64 x0)) (by rw [hx]; rfl)).1
  have gl0 := (h2.cellE (mapE_at (valU tb) d (i := 0) h0) (c := 0) (v := (.int .i64 x0)) (by rw [hx]; rfl)).2.2
  simp only [EU, Nat.zero_mul, Nat.add_zero] at cx0
  have cx1 := (h2.cellE (mapE_at (valU tb) d (i := 0) h0) (c := 1) (v := (.int .i64 x1)) (by rw [hx]; rfl)).1
  have gl1 := (h2.cellE (mapE_at (valU tb) d (i := 0) h0) (c := 1) (v := (.int .i64 x1)) (by rw [hx]; rfl)).2.2
  simp only [EU, Nat.zero_mul, Nat.zero_add] at cx1
  have cx2 := (h2.cellE (mapE_at (valU tb) d (i := 0) h0) (c := 2) (v := (.slice x2 x3 x4)) (by rw [hx]; rfl)).1
  have gl2 := (h2.cellE (mapE_at (valU tb) d (i := 0) h0) (c := 2) (v := (.slice x2 x3 x4)) (by rw [hx]; rfl)).2.2
  simp only [EU, Nat.zero_mul, Nat.zero_add] at cx2
  have hz : ((n : Int) + 1 == 0) = false := beq_eq_false_iff_ne.2 (by omega)
  have hz2 : (0 : Int) < (n : Int) + 1 := by omega
  have hql := h1.lt
  unfold vU
  rw [hx]
  clear h1 h2 hn hx
  go_enter Tryd.func65, Tryd.ntmps65
  go_wp2
  (try simp only [Exit.inBlock, Exit.then]); refine bodyPost_ret (by simp [results, Tryd.results65, go_sem]; try rfl) rfl ?_
  refine ⟨rfl, ?_⟩
  exact (Below.refl _ w).alloc (Nat.le_refl _) _
/-- An element in a block of its own. -/
theorem newU (W : World) (gx : Nat) (hg : gx = W.heap.size) {x0 x1 : Int} {x2 : Option Addr} {x3 x4 : Nat} : ∀ j u, (EU.enc (x0, x1, x2, x3, x4))[j]? = some u → (W.alloc (.cells #[(.int .i64 x0), (.int .i64 x1), (.slice x2 x3 x4)] 74)).cell? ((⟨gx, 0, none⟩ : Addr).add j) = some u := by
  subst hg
  intro j u hu
  match j, hu with
  | 0, hu => cases hu; simp [Addr.add]
  | 1, hu => cases hu; simp [Addr.add]
  | 2, hu => cases hu; simp [Addr.add]
  | j + 3, hu => simp [EU, encU] at hu
set_option maxHeartbeats 4000000 in
set_option maxRecDepth 100000 in
theorem qPushU {tb : Int → Sv} {w : World} {qb : Nat} {d : Array (Int × Int)} {f : List Nat} {x : Int × Int} (h : QE EU 113 w qb 40 ((d).toList.map (valU tb)) f) (hf : f.Nodup) (hs : d.size ≤ 500) (hC : ∀ (w2 : World) (g : Nat), (g ∈ f ∨ w.heap.size ≤ g) → Chg (· ∈ f) w w2 → ∃ P : Int × Int → Prop, AllP P (d.push x) ∧ CmpU tb P w2 g) :
    Calls Tryd.prog 41 #[.pointer (some ⟨qb, 0, none⟩), vU tb x] w fun e w' => e = .returned (.tuple #[]) ∧ ∃ f', QE EU 113 w' qb 40 ((hpush d x).toList.map (valU tb)) f' ∧ Step f f' w w' := by
  obtain ⟨v, h1, h2, rfl⟩ := h
  obtain ⟨n, hn⟩ : ∃ n, d.size = n := ⟨_, rfl⟩
  obtain ⟨x0, x1, x2, x3, x4, hx⟩ : ∃ a0 a1 a2 a3 a4, valU tb x = (a0, a1, a2, a3, a4) := ⟨_, _, _, _, _, rfl⟩
  obtain ⟨_, c1⟩ := h1.cells
  have HQ := hidp h1
  have HF := hidp hf
  have HN := hidp hn
  have HVL := hidp (own_lt h2)
  have HL : Hid ((d.toList.map (valU tb)).length ≤ 100000) := by show _ ≤ _; rw [List.length_map, Array.length_toList]; omega
  have HX := hidp hx
  have HCC := hidp hC
  have hql := h1.lt
  have HLN : Hid ((d.toList.map (valU tb)).length = n) := by show _ = _; rw [List.length_map, Array.length_toList]; exact hn
  have hv : vU tb x = .agg #[.int .i64 x0, .int .i64 x1, .slice x2 x3 x4] := by unfold vU; rw [hx]
  rw [hv]
  have fq := h1.fr 1
  have HO := hidp h2
  clear h1 h2 hf hn hx hC
  go_enter Tryd.func41, Tryd.ntmps41
  go_wp2_with fail
  have b0 : (w.alloc (.cells #[(.int .i64 x0), (.int .i64 x1), (.slice x2 x3 x4)] 74)).cell? ⟨w.heap.size, 0, none⟩ = some (.int .i64 x0) := by simp
  have b1 : (w.alloc (.cells #[(.int .i64 x0), (.int .i64 x1), (.slice x2 x3 x4)] 74)).cell? ⟨w.heap.size, 1, none⟩ = some (.int .i64 x1) := by simp
  have b2 : (w.alloc (.cells #[(.int .i64 x0), (.int .i64 x1), (.slice x2 x3 x4)] 74)).cell? ⟨w.heap.size, 2, none⟩ = some (.slice x2 x3 x4) := by simp
  have HB0 : Hid (Below w.heap.size w (w.alloc (.cells #[(.int .i64 x0), (.int .i64 x1), (.slice x2 x3 x4)] 74))) := (Below.refl _ w).alloc (Nat.le_refl _) _
  generalize w.alloc (.cells #[(.int .i64 x0), (.int .i64 x1), (.slice x2 x3 x4)] 74) = wb at b0 b1 b2 HB0 ⊢
  have HOb : Hid (OwnE EU wb 0 v (d.toList.map (valU tb))) := HO.out.below HB0.out
  have kq1 : wb.cell? ⟨qb, 1, none⟩ = some v := (World.cell?_of_block (a := ⟨qb, 1, none⟩) (HB0.out.block qb hql)).trans c1
  have fqb : wb.frozen? ⟨qb, 1, none⟩ = false := (World.frozen?_of_block (a := ⟨qb, 1, none⟩) (HB0.out.block qb hql)).trans fq
  have hqlb : qb < wb.heap.size := Nat.lt_of_lt_of_le hql HB0.out.size
  have hne : qb ≠ w.heap.size := by omega
  clear c1 fq
  go_region_law (refine step_appendQ EU (by rfl) (.tmp 8) (.tmp 10) (by rfl) 0 v (d.toList.map (valU tb)) (x0, x1, x2, x3, x4) ⟨wb.heap.size, 0, none⟩ 1 (by rfl) (OwnE.drewN (OwnE.alloc HOb.out _) 1) (by rfl) (newU wb _ rfl) HL.out (Nat.zero_le _) ?_; intro v1 w1 a1 a2 a3; obtain ⟨q1, g, cap, e1, hI⟩ := push_midE HQ.out HF.out (below_drewN (HB0.out.alloc HB0.out.size _) 1) a1 a2 a3; rw [HLN.out] at e1 hI; subst e1; obtain ⟨_, j1⟩ := q1.cells; have f1 := q1.fr 1; have y0 := (World.cell?_of_block (a := ⟨w.heap.size, 0, none⟩) (a2.block w.heap.size (by simp; have := (lt_of_cellQ b0); omega) (fun e => by have := HVL.out w.heap.size (by rw [← e]; simp); omega))).trans ((World.cell?_of_block (a := ⟨w.heap.size, 0, none⟩) (Below.heap_alloc wb _ _ (lt_of_cellQ b0))).trans b0); have y1 := (World.cell?_of_block (a := ⟨w.heap.size, 1, none⟩) (a2.block w.heap.size (by simp; have := (lt_of_cellQ b0); omega) (fun e => by have := HVL.out w.heap.size (by rw [← e]; simp); omega))).trans ((World.cell?_of_block (a := ⟨w.heap.size, 1, none⟩) (Below.heap_alloc wb _ _ (lt_of_cellQ b1))).trans b1); have y2 := (World.cell?_of_block (a := ⟨w.heap.size, 2, none⟩) (a2.block w.heap.size (by simp; have := (lt_of_cellQ b0); omega) (fun e => by have := HVL.out w.heap.size (by rw [← e]; simp); omega))).trans ((World.cell?_of_block (a := ⟨w.heap.size, 2, none⟩) (Below.heap_alloc wb _ _ (lt_of_cellQ b2))).trans b2); have HI := hidp hI; clear a1 a2 a3 q1 hI)
  all_goals
    clear f1 j1 y0 y1 y2 b0 b1 b2 kq1 fqb HOb HQ HL HLN
    generalize w1.setCell ⟨qb, 1, none⟩ (.slice (some ⟨g, 0, none⟩) (n + 1) cap) = w2 at HI ⊢
    obtain ⟨k0, k1⟩ := HI.out.qb2.cells
    have hgn : some qb ≠ some g := fun e => by
      have := HI.out.step.nodup
      simp only [Option.some.injEq] at e
      subst e
      simp at this
    have hql2 := HI.out.qb2.lt
    have hhp : upA (d.push x) n = hpush d x := by unfold hpush; rw [HN.out]
    have hpm : d.toList.map (valU tb) ++ [(x0, x1, x2, x3, x4)] = (d.push x).toList.map (valU tb) := by rw [Array.toList_push, List.map_append, ← HX.out]; rfl
    obtain ⟨P, hP1, hP2⟩ := HCC.out w2 g HI.out.gb HI.out.step.chg
    have C : Hid (∀ wx, w2.grownBy wx (some g) → OwnE EU wx 0 (.slice (some ⟨g, 0, none⟩) (n + 1) cap) (d.toList.map (valU tb) ++ [(x0, x1, x2, x3, x4)]) → Calls Tryd.prog 64 #[.slice (some ⟨g, 0, none⟩) (n + 1) cap, .int .i64 n, .func (.func 40) #[] #[]] wx fun e w' => e = .returned (.tuple #[]) ∧ OwnE EU w' 0 (.slice (some ⟨g, 0, none⟩) (n + 1) cap) ((hpush d x).toList.map (valU tb)) ∧ wx.grownBy w' (some g)) := by
      intro wx hg hx
      have := riseU_any tb g cap (n + 1) n (d.push x) wx (by have := HN.out; omega) (by omega) (by show _ = _; rw [Array.size_push, HN.out]) hP1 (cmpU_up hP2 hg) (by rw [hpm] at hx; exact hx)
      rw [hhp] at this
      exact this
    have HGN := hidp hgn
    have hwn : IntKind.i64.wrap (n : Int) = (n : Int) := by have := HN.out; rw [IntKind.wrap_i64]; omega
    clear hhp hgn hpm hP1 hP2 HCC
    go_wp2_with fail
    go_region_held3 (fun w' => w'.cell? ⟨qb, 0, none⟩ = some (.func (.func 40) #[] #[]) ∧ w'.cell? ⟨qb, 1, none⟩ = some (.slice (some ⟨g, 0, none⟩) (n + 1) cap)) (first | go_keep | (exact ⟨j0, j1⟩)) (first | (go_at_call 64; refine (C.out _ (gb_drewN (World.grownBy.refl w2 _) 1) (OwnE.drewN HI.out.own 1)).mono ?_; rintro e w3 ⟨rfl, o3, g3'⟩; have g3 : w2.grownBy w3 (some g) := gb_trans (gb_drewN (World.grownBy.refl w2 _) 1) g3'; have hb3 := g3.block qb hql2 HGN.out; have j0 := (World.cell?_of_block (a := ⟨qb, 0, none⟩) hb3).trans k0; have j1 := (World.cell?_of_block (a := ⟨qb, 1, none⟩) hb3).trans k1; have HO3 := hidp o3; have HG3 := hidp g3; have HB3 := hidp hb3; clear o3 g3' g3 hb3))
    all_goals
      go_wp2
      go_end0
      refine ⟨rfl, [qb, g], ⟨_, HI.out.qb2.kept HB3.out, HO3.out, rfl⟩, HI.out.step.trans (Step.inside (o := [g]) HI.out.step.nodup (Chg.of_grown HG3.out fun k e => by simp at e; simp [e]) fun j z => List.mem_cons_of_mem _ z)⟩
set_option maxHeartbeats 1000000 in
theorem qPopU_none {tb : Int → Sv} {w : World} {qb : Nat} {f : List Nat} (h : QE EU 113 w qb 40 ((#[] : Array (Int × Int)).toList.map (valU tb)) f) : Calls Tryd.prog 43 #[.pointer (some ⟨qb, 0, none⟩)] w fun e w' => e = .returned (.tuple #[.agg #[.int .i64 0, .int .i64 0, .slice none 0 0], .iface 48 (.int .i64 5)]) ∧ Below w.heap.size w w' := by
  have h' : QE EU 113 (w.alloc (.cells #[.int .i64 0, .int .i64 0, .slice none 0 0] 74)) qb 40 ((#[] : Array (Int × Int)).toList.map (valU tb)) f := h.below ((Below.refl _ w).alloc (Nat.le_refl _) _)
  have C := hidp (qFirstU_none h')
  go_enter Tryd.func43, Tryd.ntmps43
  go_wp2_with (go_at_call 65; refine C.out.mono ?_; rintro e w1 ⟨rfl, hb⟩; have hb1 : Below w.heap.size w w1 := ((Below.refl _ w).alloc (Nat.le_refl _) _).trans (hb.mono (by simp)); have hl1 : w.heap.size < w1.heap.size := Nat.lt_of_lt_of_le (by simp) hb.size; have r0 : w1.cell? ⟨w.heap.size, 0, none⟩ = some (.int .i64 0) := (World.cell?_of_block (a := ⟨w.heap.size, 0, none⟩) (hb.block _ (by simp))).trans (by simp); have r1 : w1.cell? ⟨w.heap.size, 1, none⟩ = some (.int .i64 0) := (World.cell?_of_block (a := ⟨w.heap.size, 1, none⟩) (hb.block _ (by simp))).trans (by simp); have r2 : w1.cell? ⟨w.heap.size, 2, none⟩ = some (.slice none 0 0) := (World.cell?_of_block (a := ⟨w.heap.size, 2, none⟩) (hb.block _ (by simp))).trans (by simp); have rf0 : w1.frozen? ⟨w.heap.size, 0, none⟩ = false := (World.frozen?_of_block (a := ⟨w.heap.size, 0, none⟩) (hb.block _ (by simp))).trans (by simp); have rf1 : w1.frozen? ⟨w.heap.size, 1, none⟩ = false := (World.frozen?_of_block (a := ⟨w.heap.size, 1, none⟩) (hb.block _ (by simp))).trans (by simp); have rf2 : w1.frozen? ⟨w.heap.size, 2, none⟩ = false := (World.frozen?_of_block (a := ⟨w.heap.size, 2, none⟩) (hb.block _ (by simp))).trans (by simp); have HB1 := hidp hb1; clear hb hb1)
  have hll : w.heap.size < (((w1.setCell ⟨w.heap.size, 0, none⟩ (.int .i64 0)).setCell ⟨w.heap.size, 1, none⟩ (.int .i64 0)).setCell ⟨w.heap.size, 2, none⟩ (.slice none 0 0)).heap.size := by rw [size_cell, size_cell, size_cell]; exact hl1
  have e0 : ((((w1.setCell ⟨w.heap.size, 0, none⟩ (.int .i64 0)).setCell ⟨w.heap.size, 1, none⟩ (.int .i64 0)).setCell ⟨w.heap.size, 2, none⟩ (.slice none 0 0)).alloc (.cells #[.int .i64 0, .int .i64 0, .slice none 0 0] 74)).cell? ⟨w.heap.size, 0, none⟩ = some (.int .i64 0) := (World.cell?_of_block (a := ⟨w.heap.size, 0, none⟩) (Below.heap_alloc _ _ _ hll)).trans ((World.cell?_setCell_other _ _ _ _ (by simp)).trans ((World.cell?_setCell_other _ _ _ _ (by simp)).trans (World.cell?_setCell_same _ _ _ r0)))
  have e1 : ((((w1.setCell ⟨w.heap.size, 0, none⟩ (.int .i64 0)).setCell ⟨w.heap.size, 1, none⟩ (.int .i64 0)).setCell ⟨w.heap.size, 2, none⟩ (.slice none 0 0)).alloc (.cells #[.int .i64 0, .int .i64 0, .slice none 0 0] 74)).cell? ⟨w.heap.size, 1, none⟩ = some (.int .i64 0) := (World.cell?_of_block (a := ⟨w.heap.size, 1, none⟩) (Below.heap_alloc _ _ _ hll)).trans ((World.cell?_setCell_other _ _ _ _ (by simp)).trans (World.cell?_setCell_same _ _ _ ((World.cell?_setCell_other _ _ _ _ (by simp)).trans r1)))
  have e2 : ((((w1.setCell ⟨w.heap.size, 0, none⟩ (.int .i64 0)).setCell ⟨w.heap.size, 1, none⟩ (.int .i64 0)).setCell ⟨w.heap.size, 2, none⟩ (.slice none 0 0)).alloc (.cells #[.int .i64 0, .int .i64 0, .slice none 0 0] 74)).cell? ⟨w.heap.size, 2, none⟩ = some (.slice none 0 0) := (World.cell?_of_block (a := ⟨w.heap.size, 2, none⟩) (Below.heap_alloc _ _ _ hll)).trans (World.cell?_setCell_same _ _ _ ((World.cell?_setCell_other _ _ _ _ (by simp)).trans ((World.cell?_setCell_other _ _ _ _ (by simp)).trans r2)))
  (try simp only [Exit.inBlock, Exit.then]); refine bodyPost_ret (by simp [results, Tryd.results43, go_sem, e0, e1, e2]; try rfl) rfl ?_
  refine ⟨rfl, ?_⟩
  exact (((HB1.out.setCell (p := ⟨w.heap.size, 0, none⟩) (Nat.le_refl _) _).setCell (p := ⟨w.heap.size, 1, none⟩) (Nat.le_refl _) _).setCell (p := ⟨w.heap.size, 2, none⟩) (Nat.le_refl _) _).alloc (by rw [size_cell, size_cell, size_cell]; omega) _
set_option maxHeartbeats 8000000 in
set_option maxRecDepth 100000 in
theorem qPopU {tb : Int → Sv} {w : World} {qb : Nat} {d : Array (Int × Int)} {f : List Nat} (h : QE EU 113 w qb 40 ((d).toList.map (valU tb)) f) (hf : f.Nodup) (h0 : 0 < d.size) (hs : d.size ≤ 500) (hC : ∀ (w2 : World) (g : Nat), g ∈ f → Chg (· ∈ f) w w2 → ∃ P : Int × Int → Prop, AllP P d ∧ CmpU tb P w2 g) :
    Calls Tryd.prog 43 #[.pointer (some ⟨qb, 0, none⟩)] w fun e w' => e = .returned (.tuple #[vU tb d[0]!, .nilIface]) ∧ ∃ f', QE EU 113 w' qb 40 ((hpop d).toList.map (valU tb)) f' ∧ Step f f' w w' := by
  obtain ⟨m, hm⟩ : ∃ m, d.size = m + 1 := ⟨d.size - 1, by omega⟩
  have h' : QE EU 113 (w.alloc (.cells #[.int .i64 0, .int .i64 0, .slice none 0 0] 74)) qb 40 ((d).toList.map (valU tb)) f := h.below ((Below.refl _ w).alloc (Nat.le_refl _) _)
  have CF := qFirstU_some h' h0
  obtain ⟨v, h1, h2, rfl⟩ := h
  obtain ⟨g, cap, rfl, hcp⟩ := own_someE h2 (n := m + 1) (by simp [hm]) (Nat.succ_pos _)
  obtain ⟨x0, x1, x2, x3, x4, hx⟩ : ∃ a0 a1 a2 a3 a4, valU tb d[0]! = (a0, a1, a2, a3, a4) := ⟨_, _, _, _, _, rfl⟩
  obtain ⟨z0, z1, z2, z3, z4, hz⟩ : ∃ a0 a1 a2 a3 a4, valU tb d[m]! = (a0, a1, a2, a3, a4) := ⟨_, _, _, _, _, rfl⟩
  have hv : vU tb d[0]! = .agg #[.int .i64 x0, .int .i64 x1, .slice x2 x3 x4] := by unfold vU; rw [hx]
  rw [hv] at CF ⊢
  have HX := hidp hx
  have HZ := hidp hz
  have HH0 := hidp h0
  have HM := hidp hm
  have hql := h1.lt
  have hgl : g < w.heap.size := own_lt h2 g (by simp [Value.ownBlock])
  have hgn : some qb ≠ some g := fun e => (List.nodup_cons.1 hf).1 (by simp only [Option.some.injEq] at e; subst e; simp [Value.ownBlock])
  have hqg : qb ≠ g := fun e => hgn (by rw [e])
  have hf2 : [qb, g].Nodup := hf
  have hset : ∀ wx, OwnE EU wx 0 (.slice (some ⟨g, 0, none⟩) (m + 1) cap) (d.toList.map (valU tb)) → OwnE EU (wx.setCells g 0 (EU.enc (z0, z1, z2, z3, z4))) 0 (.slice (some ⟨g, 0, none⟩) (m + 1) cap) ((d.toList.map (valU tb)).set 0 (z0, z1, z2, z3, z4)) := fun wx q => by
    have := q.setE (i := 0) (by omega) (z0, z1, z2, z3, z4)
    rw [Nat.zero_mul] at this
    exact this
  have hcut : ((d.toList.map (valU tb)).set 0 (z0, z1, z2, z3, z4)).take m ++ ((d.toList.map (valU tb)).set 0 (z0, z1, z2, z3, z4)).drop (m + 1) = (if m = 0 then [] else (d.pop.setIfInBounds 0 d[m]!).toList.map (valU tb)) := by rw [← hz]; exact cutE (valU tb) hm
  have CD : Hid (∀ wx, OwnE EU wx 0 (.slice (some ⟨g, 0, none⟩) (m + 1) cap) ((d.toList.map (valU tb)).set 0 (z0, z1, z2, z3, z4)) → Calls Tryd.prog 66 #[.slice (some ⟨g, 0, none⟩) (m + 1) cap, .int .i64 m, .int .i64 ((m : Int) + 1)] wx fun e w' => e = .returned (.slice (some ⟨g, 0, none⟩) m cap) ∧ OwnE EU w' 0 (.slice (some ⟨g, 0, none⟩) m cap) (if m = 0 then [] else (d.pop.setIfInBounds 0 d[m]!).toList.map (valU tb)) ∧ wx.grownBy w' (some g)) := by
    intro wx q
    have := deleteU (i := m) (j := m + 1) q (by omega) (Nat.le_refl _)
    rw [show m + (m + 1 - (m + 1)) = m by omega, hcut] at this
    exact this
  have CS : Hid (∀ wx, Chg (· ∈ [qb, g]) w wx → OwnE EU wx 0 (.slice (some ⟨g, 0, none⟩) m cap) (if m = 0 then [] else (d.pop.setIfInBounds 0 d[m]!).toList.map (valU tb)) → Calls Tryd.prog 67 #[.slice (some ⟨g, 0, none⟩) m cap, .int .i64 0, .func (.func 40) #[] #[]] wx fun e w' => e = .returned (.tuple #[]) ∧ OwnE EU w' 0 (.slice (some ⟨g, 0, none⟩) m cap) ((hpop d).toList.map (valU tb)) ∧ wx.grownBy w' (some g)) := by
    intro wx hch q
    by_cases e0 : m = 0
    · subst e0
      rw [if_pos rfl] at q
      refine (sinkU_none _ cap wx).mono ?_
      rintro e w' ⟨rfl, k, rfl⟩
      refine ⟨rfl, ?_, gb_drewN (World.grownBy.refl wx _) k⟩
      rw [pop_oneE hm]
      exact q.drewN k
    · rw [if_neg e0] at q
      obtain ⟨P, hP1, hP2⟩ := hC wx g (by simp [Value.ownBlock]) hch
      have := sinkU_any tb g cap m 0 (d.pop.setIfInBounds 0 d[m]!) wx (by omega) (by omega) (by show _ = _; rw [Array.size_setIfInBounds, Array.size_pop, hm]; rfl) (hP1.cut hm) hP2 q
      rw [pop_ofE hm e0] at this
      exact this
  have HQ := hidp h1
  have HV := hidp h2
  have HF := hidp hf2
  have HGN := hidp hgn
  have HSET := hidp hset
  have HCF := hidp CF
  have hmz : (m : Int) < (m : Int) + 1 := by omega
  have hmz0 : (0 : Int) < (m : Int) + 1 := by omega
  have hwm : IntKind.i64.wrap (m : Int) = (m : Int) := by rw [IntKind.wrap_i64]; omega
  have hwm1 : IntKind.i64.wrap ((m : Int) + 1) = (m : Int) + 1 := by rw [IntKind.wrap_i64]; omega
  clear h1 h2 hf hf2 hgn hset CF hcut hx hz h0 hm hs hC h'
  go_enter Tryd.func43, Tryd.ntmps43
  go_wp2_with (go_at_call 65; refine HCF.out.mono ?_; rintro e w1 ⟨rfl, hb⟩; have hb1 : Below w.heap.size w w1 := ((Below.refl _ w).alloc (Nat.le_refl _) _).trans (hb.mono (by simp)); have hl1 : w.heap.size < w1.heap.size := Nat.lt_of_lt_of_le (by simp) hb.size; have r0 : w1.cell? ⟨w.heap.size, 0, none⟩ = some (.int .i64 0) := (World.cell?_of_block (a := ⟨w.heap.size, 0, none⟩) (hb.block _ (by simp))).trans (by simp); have r1 : w1.cell? ⟨w.heap.size, 1, none⟩ = some (.int .i64 0) := (World.cell?_of_block (a := ⟨w.heap.size, 1, none⟩) (hb.block _ (by simp))).trans (by simp); have r2 : w1.cell? ⟨w.heap.size, 2, none⟩ = some (.slice none 0 0) := (World.cell?_of_block (a := ⟨w.heap.size, 2, none⟩) (hb.block _ (by simp))).trans (by simp); have rf0 : w1.frozen? ⟨w.heap.size, 0, none⟩ = false := (World.frozen?_of_block (a := ⟨w.heap.size, 0, none⟩) (hb.block _ (by simp))).trans (by simp); have rf1 : w1.frozen? ⟨w.heap.size, 1, none⟩ = false := (World.frozen?_of_block (a := ⟨w.heap.size, 1, none⟩) (hb.block _ (by simp))).trans (by simp); have rf2 : w1.frozen? ⟨w.heap.size, 2, none⟩ = false := (World.frozen?_of_block (a := ⟨w.heap.size, 2, none⟩) (hb.block _ (by simp))).trans (by simp); clear hb; obtain ⟨k0, k1⟩ := (HQ.out.kept (hb1.block qb hql)).cells; have HV1 : Hid (OwnE EU w1 0 (.slice (some ⟨g, 0, none⟩) (m + 1) cap) (d.toList.map (valU tb))) := HV.out.below hb1; have cz0 := (HV1.out.cellE (mapE_at (valU tb) d (i := m) (by rw [HM.out]; omega)) (c := 0) (v := (.int .i64 z0)) (by rw [HZ.out]; rfl)).1; obtain ⟨cx0, fx0, _⟩ := HV1.out.cellE (mapE_at (valU tb) d (i := 0) HH0.out) (c := 0) (v := (.int .i64 x0)) (by rw [HX.out]; rfl); simp only [EU, Nat.zero_mul, Nat.add_zero] at cz0 cx0 fx0; have cz1 := (HV1.out.cellE (mapE_at (valU tb) d (i := m) (by rw [HM.out]; omega)) (c := 1) (v := (.int .i64 z1)) (by rw [HZ.out]; rfl)).1; obtain ⟨cx1, fx1, _⟩ := HV1.out.cellE (mapE_at (valU tb) d (i := 0) HH0.out) (c := 1) (v := (.int .i64 x1)) (by rw [HX.out]; rfl); simp only [EU, Nat.zero_mul] at cz1 cx1 fx1; have cz2 := (HV1.out.cellE (mapE_at (valU tb) d (i := m) (by rw [HM.out]; omega)) (c := 2) (v := (.slice z2 z3 z4)) (by rw [HZ.out]; rfl)).1; obtain ⟨cx2, fx2, _⟩ := HV1.out.cellE (mapE_at (valU tb) d (i := 0) HH0.out) (c := 2) (v := (.slice x2 x3 x4)) (by rw [HX.out]; rfl); simp only [EU, Nat.zero_mul] at cz2 cx2 fx2; have hq1 := Nat.lt_of_lt_of_le hql hb1.size; have hg1 := Nat.lt_of_lt_of_le hgl hb1.size; have HB1 := hidp hb1; clear hb1)
  have HBl : Hid (∀ w', Chg (· ∈ [qb, g]) (w1.alloc (.cells #[(.int .i64 x0), (.int .i64 x1), (.slice x2 x3 x4)] 74)) w' → w'.cell? ⟨w1.heap.size, 0, none⟩ = some (.int .i64 x0) ∧ w'.cell? ⟨w1.heap.size, 1, none⟩ = some (.int .i64 x1) ∧ w'.cell? ⟨w1.heap.size, 2, none⟩ = some (.slice x2 x3 x4) ∧ w'.cell? ⟨w.heap.size, 0, none⟩ = some (.int .i64 0) ∧ w'.cell? ⟨w.heap.size, 1, none⟩ = some (.int .i64 0) ∧ w'.cell? ⟨w.heap.size, 2, none⟩ = some (.slice none 0 0) ∧ w'.frozen? ⟨w.heap.size, 0, none⟩ = false ∧ w'.frozen? ⟨w.heap.size, 1, none⟩ = false ∧ w'.frozen? ⟨w.heap.size, 2, none⟩ = false ∧ w1.heap.size < w'.heap.size) := by
    intro w' hc
    have e1 := hc.block w1.heap.size (by simp) (by simp; omega)
    have e2 := (hc.block w.heap.size (by simp; omega) (by simp; omega)).trans (Below.heap_alloc w1 _ _ hl1)
    have hs := hc.size
    rw [World.size_alloc] at hs
    exact ⟨(World.cell?_of_block (a := ⟨w1.heap.size, 0, none⟩) e1).trans (by simp), (World.cell?_of_block (a := ⟨w1.heap.size, 1, none⟩) e1).trans (by simp), (World.cell?_of_block (a := ⟨w1.heap.size, 2, none⟩) e1).trans (by simp), (World.cell?_of_block (a := ⟨w.heap.size, 0, none⟩) e2).trans r0, (World.cell?_of_block (a := ⟨w.heap.size, 1, none⟩) e2).trans r1, (World.cell?_of_block (a := ⟨w.heap.size, 2, none⟩) e2).trans r2, (World.frozen?_of_block (a := ⟨w.heap.size, 0, none⟩) e2).trans rf0, (World.frozen?_of_block (a := ⟨w.heap.size, 1, none⟩) e2).trans rf1, (World.frozen?_of_block (a := ⟨w.heap.size, 2, none⟩) e2).trans rf2, by omega⟩
  have HQW := hidp hql
  have HGW := hidp hgl
  have HB2 : Hid (Below w.heap.size w (w1.alloc (.cells #[(.int .i64 x0), (.int .i64 x1), (.slice x2 x3 x4)] 74))) := HB1.out.alloc HB1.out.size _
  have HL1 : Hid (w.heap.size < w1.heap.size) := hl1
  clear r0 rf0 cz0 cx0 fx0 r1 rf1 cz1 cx1 fx1 r2 rf2 cz2 cx2 fx2 k0 k1 hq1 hg1 HB1 HV1 hl1
  generalize hbx : w1.heap.size = bx at HBl HL1 ⊢
  generalize w1.alloc (.cells #[(.int .i64 x0), (.int .i64 x1), (.slice x2 x3 x4)] 74) = wb at HBl HB2 ⊢
  have hql2 := Nat.lt_of_lt_of_le hql HB2.out.size
  obtain ⟨k0, k1⟩ := (HQ.out.kept (HB2.out.block qb hql)).cells
  have HV1 : Hid (OwnE EU wb 0 (.slice (some ⟨g, 0, none⟩) (m + 1) cap) (d.toList.map (valU tb))) := HV.out.below HB2.out
  have cz0 := (HV1.out.cellE (mapE_at (valU tb) d (i := m) (by rw [HM.out]; omega)) (c := 0) (v := (.int .i64 z0)) (by rw [HZ.out]; rfl)).1
  obtain ⟨cx0, fx0, _⟩ := HV1.out.cellE (mapE_at (valU tb) d (i := 0) HH0.out) (c := 0) (v := (.int .i64 x0)) (by rw [HX.out]; rfl)
  simp only [EU, Nat.add_zero] at cz0
  simp only [EU, Nat.zero_mul, Nat.add_zero] at cx0 fx0
  have cz1 := (HV1.out.cellE (mapE_at (valU tb) d (i := m) (by rw [HM.out]; omega)) (c := 1) (v := (.int .i64 z1)) (by rw [HZ.out]; rfl)).1
  obtain ⟨cx1, fx1, _⟩ := HV1.out.cellE (mapE_at (valU tb) d (i := 0) HH0.out) (c := 1) (v := (.int .i64 x1)) (by rw [HX.out]; rfl)
  simp only [EU] at cz1
  simp only [EU, Nat.zero_mul, Nat.zero_add] at cx1 fx1
  have cz2 := (HV1.out.cellE (mapE_at (valU tb) d (i := m) (by rw [HM.out]; omega)) (c := 2) (v := (.slice z2 z3 z4)) (by rw [HZ.out]; rfl)).1
  obtain ⟨cx2, fx2, _⟩ := HV1.out.cellE (mapE_at (valU tb) d (i := 0) HH0.out) (c := 2) (v := (.slice x2 x3 x4)) (by rw [HX.out]; rfl)
  simp only [EU] at cz2
  simp only [EU, Nat.zero_mul, Nat.zero_add] at cx2 fx2
  go_wp2_with fail
  go_region
  have HO2 : Hid (OwnE EU ((((wb.setCell ⟨g, 0, none⟩ (.int .i64 z0)).setCell ⟨g, 1, none⟩ (.int .i64 z1)).setCell ⟨g, 2, none⟩ (.slice z2 z3 z4)).drew) 0 (.slice (some ⟨g, 0, none⟩) (m + 1) cap) ((d.toList.map (valU tb)).set 0 (z0, z1, z2, z3, z4))) := OwnE.drewN (HSET.out _ HV1.out) 1
  have HG2 : Hid (Chg (· ∈ [g]) wb ((((wb.setCell ⟨g, 0, none⟩ (.int .i64 z0)).setCell ⟨g, 1, none⟩ (.int .i64 z1)).setCell ⟨g, 2, none⟩ (.slice z2 z3 z4)).drew)) := ((((Chg.refl (· ∈ [g]) wb).setCell (p := ⟨g, 0, none⟩) (Or.inl (by simp)) _).setCell (p := ⟨g, 1, none⟩) (Or.inl (by simp)) _).setCell (p := ⟨g, 2, none⟩) (Or.inl (by simp)) _).dn 1
  have HQ2 : Hid (QC 113 ((((wb.setCell ⟨g, 0, none⟩ (.int .i64 z0)).setCell ⟨g, 1, none⟩ (.int .i64 z1)).setCell ⟨g, 2, none⟩ (.slice z2 z3 z4)).drew) qb 40 (.slice (some ⟨g, 0, none⟩) (m + 1) cap)) := (HQ.out.kept (HB2.out.block qb hql)).kept (HG2.out.block qb (Nat.lt_of_lt_of_le hql HB2.out.size) (by simp; exact hqg))
  clear k0 k1 cz0 cx0 fx0 cz1 cx1 fx1 cz2 cx2 fx2 HCF HSET HV HV1
  generalize (((wb.setCell ⟨g, 0, none⟩ (.int .i64 z0)).setCell ⟨g, 1, none⟩ (.int .i64 z1)).setCell ⟨g, 2, none⟩ (.slice z2 z3 z4)).drew = w2 at HO2 HG2 HQ2 ⊢
  obtain ⟨_, k1⟩ := HQ2.out.cells
  go_wp2_with (first | (go_at_call 66; refine (CD.out _ HO2.out).mono ?_; rintro e w3 ⟨rfl, o3, g3⟩; have q3 : QC 113 w3 qb 40 (.slice (some ⟨g, 0, none⟩) (m + 1) cap) := HQ2.out.kept (g3.block qb HQ2.out.lt HGN.out); have f3 := q3.fr 1; obtain ⟨_, c3⟩ := q3.cells; have HO3 := hidp o3; have HG3 := hidp (HG2.out.trans (Chg.of_grown (F := (· ∈ [g])) g3 fun k e => by simp at e; simp [e]) fun j q => Or.inl q); have HQ3 := hidp q3; clear o3 g3 q3))
  have HQ4 : Hid (QC 113 (w3.setCell ⟨qb, 1, none⟩ (.slice (some ⟨g, 0, none⟩) m cap)) qb 40 (.slice (some ⟨g, 0, none⟩) m cap)) := HQ3.out.put1 _
  have HO4 : Hid (OwnE EU (w3.setCell ⟨qb, 1, none⟩ (.slice (some ⟨g, 0, none⟩) m cap)) 0 (.slice (some ⟨g, 0, none⟩) m cap) (if m = 0 then [] else (d.pop.setIfInBounds 0 d[m]!).toList.map (valU tb))) := own_kept HO3.out ((Chg.refl (· = qb) w3).setCell (p := ⟨qb, 1, none⟩) (Or.inl rfl) _) fun j y e => hqg (by
    have hj : j = g := by simp [Value.ownBlock] at y; omega
    rw [← hj]; exact e.symm)
  have HC4 : Hid (Chg (· ∈ [qb, g]) wb (w3.setCell ⟨qb, 1, none⟩ (.slice (some ⟨g, 0, none⟩) m cap))) := (HG3.out.mono (G := (· ∈ [qb, g])) fun j q => Or.inl (List.mem_cons_of_mem _ q)).setCell (p := ⟨qb, 1, none⟩) (Or.inl List.mem_cons_self) _
  clear HQ3 HO3 HG3 HO2 HG2 HQ2 CD f3 c3 k1 hql HQ
  generalize w3.setCell ⟨qb, 1, none⟩ (.slice (some ⟨g, 0, none⟩) m cap) = w4 at HQ4 HO4 HC4 ⊢
  obtain ⟨k0, k1⟩ := HQ4.out.cells
  have hql := HQ4.out.lt
  have HCW : Hid (Chg (· ∈ [qb, g]) w w4) := (Chg.of_below (F := (· ∈ [qb, g])) HB2.out).trans HC4.out fun j q => Or.inl q
  go_wp2_with fail
  go_region_held3 (fun w' => w'.cell? ⟨qb, 0, none⟩ = some (.func (.func 40) #[] #[]) ∧ w'.cell? ⟨qb, 1, none⟩ = some (.slice (some ⟨g, 0, none⟩) m cap)) (first | go_keep | (exact ⟨j0, j1⟩)) (first | (go_at_call 67; refine (CS.out _ (HCW.out.dn 1) (OwnE.drewN HO4.out 1)).mono ?_; rintro e w5 ⟨rfl, o5, g5'⟩; have g5 : w4.grownBy w5 (some g) := gb_trans (gb_drewN (World.grownBy.refl w4 _) 1) g5'; have hb5 := g5.block qb hql HGN.out; have j0 := (World.cell?_of_block (a := ⟨qb, 0, none⟩) hb5).trans k0; have j1 := (World.cell?_of_block (a := ⟨qb, 1, none⟩) hb5).trans k1; obtain ⟨b0, b1, b2, r0, r1, r2, rf0, rf1, rf2, hbl⟩ := HBl.out w5 (HC4.out.trans (Chg.of_grown (F := (· ∈ [qb, g])) g5 fun k e => by simp at e; simp [e]) fun j q => Or.inl q); have hrl : w.heap.size < w5.heap.size := (by have := HL1.out; omega); have HO5 := hidp o5; have HG5 := hidp g5; have HB5 := hidp hb5; clear o5 g5' g5 hb5))
  all_goals
    go_wp2
    have e0 : (((w5.setCell ⟨w.heap.size, 0, none⟩ (.int .i64 x0)).setCell ⟨w.heap.size, 1, none⟩ (.int .i64 x1)).setCell ⟨w.heap.size, 2, none⟩ (.slice x2 x3 x4)).cell? ⟨w.heap.size, 0, none⟩ = some (.int .i64 x0) := ((World.cell?_setCell_other _ _ _ _ (by simp)).trans ((World.cell?_setCell_other _ _ _ _ (by simp)).trans (World.cell?_setCell_same _ _ _ r0)))
    have e1 : (((w5.setCell ⟨w.heap.size, 0, none⟩ (.int .i64 x0)).setCell ⟨w.heap.size, 1, none⟩ (.int .i64 x1)).setCell ⟨w.heap.size, 2, none⟩ (.slice x2 x3 x4)).cell? ⟨w.heap.size, 1, none⟩ = some (.int .i64 x1) := ((World.cell?_setCell_other _ _ _ _ (by simp)).trans (World.cell?_setCell_same _ _ _ ((World.cell?_setCell_other _ _ _ _ (by simp)).trans r1)))
    have e2 : (((w5.setCell ⟨w.heap.size, 0, none⟩ (.int .i64 x0)).setCell ⟨w.heap.size, 1, none⟩ (.int .i64 x1)).setCell ⟨w.heap.size, 2, none⟩ (.slice x2 x3 x4)).cell? ⟨w.heap.size, 2, none⟩ = some (.slice x2 x3 x4) := (World.cell?_setCell_same _ _ _ ((World.cell?_setCell_other _ _ _ _ (by simp)).trans ((World.cell?_setCell_other _ _ _ _ (by simp)).trans r2)))
    (try simp only [Exit.inBlock, Exit.then]); refine bodyPost_ret (by simp [results, Tryd.results43, go_sem, e0, e1, e2]; try rfl) rfl ?_
    have ch : Chg (fun x => x = w.heap.size) w5 (((w5.setCell ⟨w.heap.size, 0, none⟩ (.int .i64 x0)).setCell ⟨w.heap.size, 1, none⟩ (.int .i64 x1)).setCell ⟨w.heap.size, 2, none⟩ (.slice x2 x3 x4)) := ((((Chg.refl (fun x => x = w.heap.size) w5).setCell (p := ⟨w.heap.size, 0, none⟩) (Or.inl rfl) _).setCell (p := ⟨w.heap.size, 1, none⟩) (Or.inl rfl) _).setCell (p := ⟨w.heap.size, 2, none⟩) (Or.inl rfl) _)
    have q5 : QE EU 113 w5 qb 40 ((hpop d).toList.map (valU tb)) [qb, g] := ⟨_, HQ4.out.kept HB5.out, HO5.out, rfl⟩
    exact ⟨rfl, [qb, g], q5.kept ch (by have := HQW.out; have := HGW.out; simp; omega), Step.inside HF.out ((HCW.out.trans (Chg.of_grown (F := (· ∈ [qb, g])) HG5.out fun k e => by simp at e; simp [e]) fun j q => Or.inl q).trans ch fun j q => Or.inr (by rw [q]; exact Nat.le_refl _)) fun j q => q⟩
#print axioms qPopU
#print axioms qPushU
end Go.Proofs.YtlaeaeciomkababDoor
