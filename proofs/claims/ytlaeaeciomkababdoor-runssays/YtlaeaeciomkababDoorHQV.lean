/-
  Queues of package heap at lists of numbers, told by runs.leastFirst: NewQueue, Many, First, Push, Pop. (Written by wip/gen/hq.py.)
-/
import Derived.Test.YtlaeaeciomkababDoorHSV
import Derived.Deep.RegionHeld3
namespace Go.Proofs.YtlaeaeciomkababDoor
open Go.RowKit Go.Sort Go.Proofs

set_option maxHeartbeats 1000000 in
theorem newQV (w : World) : Calls Tryd.prog 60 #[.func (.func 61) #[] #[]] w fun e w' => e = .returned (.pointer (some ⟨w.heap.size, 0, none⟩)) ∧ w' = w.alloc (.cells #[.func (.func 61) #[] #[], .slice none 0 0] 140) := by
  go_enter Tryd.func60, Tryd.ntmps60
  go_wp2
  go_ret
  exact ⟨rfl, rfl⟩
theorem newQV_at (tb : Int → Sv) (w : World) : QE EV 140 (w.alloc (.cells #[.func (.func 61) #[] #[], .slice none 0 0] 140)) w.heap.size 61 ((#[] : Array (Int × Int)).toList.map (valV tb)) [w.heap.size] :=
  ⟨.slice none 0 0, qc_new _ w _ _, OwnE.nil EV _ 0, rfl⟩
set_option maxHeartbeats 1000000 in
theorem qFirstV_none {tb : Int → Sv} {w : World} {qb : Nat} {f : List Nat} (h : QE EV 140 w qb 61 ((#[] : Array (Int × Int)).toList.map (valV tb)) f) : Calls Tryd.prog 96 #[.pointer (some ⟨qb, 0, none⟩)] w fun e w' => e = .returned (.tuple #[.slice none 0 0, .iface 48 (.int .i64 5)]) ∧ Below w.heap.size w w' := by
  obtain ⟨v, h1, h2, _⟩ := h
  obtain ⟨p, c, rfl⟩ := h2.form
  obtain ⟨_, c1⟩ := h1.cells
  have hql := h1.lt
  clear h1 h2
  simp only [List.map_nil, List.length_nil] at c1
  go_enter Tryd.func96, Tryd.ntmps96
  go_wp2
  go_ret2
  exact ⟨rfl, Below.refl _ _⟩
set_option maxHeartbeats 1000000 in
theorem qFirstV_some {tb : Int → Sv} {w : World} {qb : Nat} {d : Array (Int × Int)} {f : List Nat} (h : QE EV 140 w qb 61 ((d).toList.map (valV tb)) f) (h0 : 0 < d.size) : Calls Tryd.prog 96 #[.pointer (some ⟨qb, 0, none⟩)] w fun e w' => e = .returned (.tuple #[vV tb d[0]!, .nilIface]) ∧ Below w.heap.size w w' := by
  obtain ⟨v, h1, h2, _⟩ := h
  obtain ⟨n, hn⟩ : ∃ n, d.size = n + 1 := ⟨d.size - 1, by omega⟩
  obtain ⟨g, cp, rfl, hcp⟩ := own_someE (n := n + 1) h2 (by simp [hn]) (Nat.succ_pos _)
  obtain ⟨_, c1⟩ := h1.cells
  obtain ⟨x0, x1, x2, hx⟩ : ∃ a0 a1 a2, valV tb d[0]! = (a0, a1, a2) := ⟨_, _, _, rfl⟩
  have cx0 := (h2.cellE (mapE_at (valV tb) d (i := 0) h0) (c := 0) (v := (.slice x0 x1 x2)) (by rw [hx]; rfl)).1
  have gl0 := (h2.cellE (mapE_at (valV tb) d (i := 0) h0) (c := 0) (v := (.slice x0 x1 x2)) (by rw [hx]; rfl)).2.2
  simp only [EV, Nat.mul_one, Nat.add_zero] at cx0
  have hz : ((n : Int) + 1 == 0) = false := beq_eq_false_iff_ne.2 (by omega)
  have hz2 : (0 : Int) < (n : Int) + 1 := by omega
  have hql := h1.lt
  unfold vV
  rw [hx]
  clear h1 h2 hn hx
  go_enter Tryd.func96, Tryd.ntmps96
  go_wp2
  go_ret2
  exact ⟨rfl, Below.refl _ _⟩
/-- An element in a block of its own. -/
theorem newV (W : World) (gx : Nat) (hg : gx = W.heap.size) {x0 : Option Addr} {x1 x2 : Nat} : ∀ j u, (EV.enc (x0, x1, x2))[j]? = some u → (W.alloc (.cells #[(.slice x0 x1 x2)] 22)).cell? ((⟨gx, 0, none⟩ : Addr).add j) = some u := by
  subst hg
  intro j u hu
  match j, hu with
  | 0, hu => cases hu; simp [Addr.add]
  | j + 1, hu => simp [EV, encV] at hu
set_option maxHeartbeats 4000000 in
set_option maxRecDepth 100000 in
theorem qPushV {tb : Int → Sv} {w : World} {qb : Nat} {d : Array (Int × Int)} {f : List Nat} {x : Int × Int} (h : QE EV 140 w qb 61 ((d).toList.map (valV tb)) f) (hf : f.Nodup) (hs : d.size ≤ 500) (hC : ∀ (w2 : World) (g : Nat), (g ∈ f ∨ w.heap.size ≤ g) → Chg (· ∈ f) w w2 → ∃ P : Int × Int → Prop, AllP P (d.push x) ∧ CmpV tb P w2 g) :
    Calls Tryd.prog 62 #[.pointer (some ⟨qb, 0, none⟩), vV tb x] w fun e w' => e = .returned (.tuple #[]) ∧ ∃ f', QE EV 140 w' qb 61 ((hpush d x).toList.map (valV tb)) f' ∧ Step f f' w w' := by
  obtain ⟨v, h1, h2, rfl⟩ := h
  obtain ⟨n, hn⟩ : ∃ n, d.size = n := ⟨_, rfl⟩
  obtain ⟨x0, x1, x2, hx⟩ : ∃ a0 a1 a2, valV tb x = (a0, a1, a2) := ⟨_, _, _, rfl⟩
  obtain ⟨_, c1⟩ := h1.cells
  have HQ := hidp h1
  have HF := hidp hf
  have HN := hidp hn
  have HVL := hidp (own_lt h2)
  have HL : Hid ((d.toList.map (valV tb)).length ≤ 100000) := by show _ ≤ _; rw [List.length_map, Array.length_toList]; omega
  have HX := hidp hx
  have HCC := hidp hC
  have hql := h1.lt
  have HLN : Hid ((d.toList.map (valV tb)).length = n) := by show _ = _; rw [List.length_map, Array.length_toList]; exact hn
  have hv : vV tb x = .slice x0 x1 x2 := by unfold vV; rw [hx]
  rw [hv]
  have hoA : OwnE EV (w.alloc (.cells #[(.slice x0 x1 x2)] 22)) 0 v (d.toList.map (valV tb)) := h2.alloc _
  have HOA := hidp hoA
  have HB : Hid (Below w.heap.size w (w.alloc (.cells #[(.slice x0 x1 x2)] 22))) := (Below.refl _ w).alloc (Nat.le_refl _) _
  have HNEW := hidp (newV w w.heap.size rfl (x0 := x0) (x1 := x1) (x2 := x2))
  clear hoA h1 h2 hf hn hx hC
  go_enter Tryd.func62, Tryd.ntmps62
  go_wp2_with (at_builtin; refine wpList_appendE EV rfl (.tmp 8) (.tmp 10) rfl 0 _ (d.toList.map (valV tb)) (x0, x1, x2) ⟨w.heap.size, 0, none⟩ 1 rfl HOA.out rfl HNEW.out HL.out (Nat.zero_le _) ?_; intro v1 w1 a1 a2 a3; obtain ⟨q1, g, cap, e1, hI⟩ := push_midE HQ.out HF.out HB.out a1 a2 a3; rw [HLN.out] at e1 hI; subst e1; obtain ⟨_, m1⟩ := q1.cells; have f1 := q1.fr 1; have HI := hidp hI; clear a1 a2 a3 q1 hI)
  clear m1 f1 c1 HOA HNEW HB HQ HL HLN
  generalize w1.setCell ⟨qb, 1, none⟩ (.slice (some ⟨g, 0, none⟩) (n + 1) cap) = w2 at HI ⊢
  obtain ⟨k0, k1⟩ := HI.out.qb2.cells
  have hgn : some qb ≠ some g := fun e => by
    have := HI.out.step.nodup
    simp only [Option.some.injEq] at e
    subst e
    simp at this
  have hql2 := HI.out.qb2.lt
  have hhp : upA (d.push x) n = hpush d x := by unfold hpush; rw [HN.out]
  have hpm : d.toList.map (valV tb) ++ [(x0, x1, x2)] = (d.push x).toList.map (valV tb) := by rw [Array.toList_push, List.map_append, ← HX.out]; rfl
  obtain ⟨P, hP1, hP2⟩ := HCC.out w2 g HI.out.gb HI.out.step.chg
  have C : Hid (∀ wx, w2.grownBy wx (some g) → OwnE EV wx 0 (.slice (some ⟨g, 0, none⟩) (n + 1) cap) (d.toList.map (valV tb) ++ [(x0, x1, x2)]) → Calls Tryd.prog 82 #[.slice (some ⟨g, 0, none⟩) (n + 1) cap, .int .i64 n, .func (.func 61) #[] #[]] wx fun e w' => e = .returned (.tuple #[]) ∧ OwnE EV w' 0 (.slice (some ⟨g, 0, none⟩) (n + 1) cap) ((hpush d x).toList.map (valV tb)) ∧ wx.grownBy w' (some g)) := by
    intro wx hg hx
    have := riseV_any tb g cap (n + 1) n (d.push x) wx (by have := HN.out; omega) (by omega) (by show _ = _; rw [Array.size_push, HN.out]) hP1 (cmpV_up hP2 hg) (by rw [hpm] at hx; exact hx)
    rw [hhp] at this
    exact this
  have HGN := hidp hgn
  have hwn : IntKind.i64.wrap (n : Int) = (n : Int) := by have := HN.out; rw [IntKind.wrap_i64]; omega
  clear hhp hgn hpm hP1 hP2 HCC
  go_wp2_with fail
  go_region_held3 (fun w' => w'.cell? ⟨qb, 0, none⟩ = some (.func (.func 61) #[] #[]) ∧ w'.cell? ⟨qb, 1, none⟩ = some (.slice (some ⟨g, 0, none⟩) (n + 1) cap)) (first | go_keep | (exact ⟨j0, j1⟩)) (first | (go_at_call 82; refine (C.out _ (gb_drewN (World.grownBy.refl w2 _) 1) (OwnE.drewN HI.out.own 1)).mono ?_; rintro e w3 ⟨rfl, o3, g3'⟩; have g3 : w2.grownBy w3 (some g) := gb_trans (gb_drewN (World.grownBy.refl w2 _) 1) g3'; have hb3 := g3.block qb hql2 HGN.out; have j0 := (World.cell?_of_block (a := ⟨qb, 0, none⟩) hb3).trans k0; have j1 := (World.cell?_of_block (a := ⟨qb, 1, none⟩) hb3).trans k1; have HO3 := hidp o3; have HG3 := hidp g3; have HB3 := hidp hb3; clear o3 g3' g3 hb3))
  all_goals
    go_wp2
    go_end0
    refine ⟨rfl, [qb, g], ⟨_, HI.out.qb2.kept HB3.out, HO3.out, rfl⟩, HI.out.step.trans (Step.inside (o := [g]) HI.out.step.nodup (Chg.of_grown HG3.out fun k e => by simp at e; simp [e]) fun j z => List.mem_cons_of_mem _ z)⟩
set_option maxHeartbeats 1000000 in
theorem qPopV_none {tb : Int → Sv} {w : World} {qb : Nat} {f : List Nat} (h : QE EV 140 w qb 61 ((#[] : Array (Int × Int)).toList.map (valV tb)) f) : Calls Tryd.prog 83 #[.pointer (some ⟨qb, 0, none⟩)] w fun e w' => e = .returned (.tuple #[.slice none 0 0, .iface 48 (.int .i64 5)]) ∧ Below w.heap.size w w' := by
  have C := hidp (qFirstV_none h)
  go_enter Tryd.func83, Tryd.ntmps83
  go_wp2_with (go_at_call 96; refine C.out.mono ?_; rintro e w' ⟨rfl, hb⟩; have HB1 := hidp hb; clear hb)
  go_ret2
  exact ⟨rfl, HB1.out⟩
set_option maxHeartbeats 8000000 in
set_option maxRecDepth 100000 in
theorem qPopV {tb : Int → Sv} {w : World} {qb : Nat} {d : Array (Int × Int)} {f : List Nat} (h : QE EV 140 w qb 61 ((d).toList.map (valV tb)) f) (hf : f.Nodup) (h0 : 0 < d.size) (hs : d.size ≤ 500) (hC : ∀ (w2 : World) (g : Nat), g ∈ f → Chg (· ∈ f) w w2 → ∃ P : Int × Int → Prop, AllP P d ∧ CmpV tb P w2 g) :
    Calls Tryd.prog 83 #[.pointer (some ⟨qb, 0, none⟩)] w fun e w' => e = .returned (.tuple #[vV tb d[0]!, .nilIface]) ∧ ∃ f', QE EV 140 w' qb 61 ((hpop d).toList.map (valV tb)) f' ∧ Step f f' w w' := by
  obtain ⟨m, hm⟩ : ∃ m, d.size = m + 1 := ⟨d.size - 1, by omega⟩
  have CF := qFirstV_some h h0
  obtain ⟨v, h1, h2, rfl⟩ := h
  obtain ⟨g, cap, rfl, hcp⟩ := own_someE h2 (n := m + 1) (by simp [hm]) (Nat.succ_pos _)
  obtain ⟨x0, x1, x2, hx⟩ : ∃ a0 a1 a2, valV tb d[0]! = (a0, a1, a2) := ⟨_, _, _, rfl⟩
  obtain ⟨z0, z1, z2, hz⟩ : ∃ a0 a1 a2, valV tb d[m]! = (a0, a1, a2) := ⟨_, _, _, rfl⟩
  have hv : vV tb d[0]! = .slice x0 x1 x2 := by unfold vV; rw [hx]
  rw [hv] at CF ⊢
  have HX := hidp hx
  have HZ := hidp hz
  have HH0 := hidp h0
  have HM := hidp hm
  have hql := h1.lt
  have hgl : g < w.heap.size := own_lt h2 g (by simp [Value.ownBlock])
  have hgn : some qb ≠ some g := fun e => (List.nodup_cons.1 hf).1 (by simp only [Option.some.injEq] at e; subst e; simp [Value.ownBlock])
  have hqg : qb ≠ g := fun e => hgn (by rw [e])
  have hf2 : [qb, g].Nodup := hf
  have hset : ∀ wx, OwnE EV wx 0 (.slice (some ⟨g, 0, none⟩) (m + 1) cap) (d.toList.map (valV tb)) → OwnE EV (wx.setCells g 0 (EV.enc (z0, z1, z2))) 0 (.slice (some ⟨g, 0, none⟩) (m + 1) cap) ((d.toList.map (valV tb)).set 0 (z0, z1, z2)) := fun wx q => by
    have := q.setE (i := 0) (by omega) (z0, z1, z2)
    rw [Nat.zero_mul] at this
    exact this
  have hcut : ((d.toList.map (valV tb)).set 0 (z0, z1, z2)).take m ++ ((d.toList.map (valV tb)).set 0 (z0, z1, z2)).drop (m + 1) = (if m = 0 then [] else (d.pop.setIfInBounds 0 d[m]!).toList.map (valV tb)) := by rw [← hz]; exact cutE (valV tb) hm
  have CD : Hid (∀ wx, OwnE EV wx 0 (.slice (some ⟨g, 0, none⟩) (m + 1) cap) ((d.toList.map (valV tb)).set 0 (z0, z1, z2)) → Calls Tryd.prog 97 #[.slice (some ⟨g, 0, none⟩) (m + 1) cap, .int .i64 m, .int .i64 ((m : Int) + 1)] wx fun e w' => e = .returned (.slice (some ⟨g, 0, none⟩) m cap) ∧ OwnE EV w' 0 (.slice (some ⟨g, 0, none⟩) m cap) (if m = 0 then [] else (d.pop.setIfInBounds 0 d[m]!).toList.map (valV tb)) ∧ wx.grownBy w' (some g)) := by
    intro wx q
    have := deleteV (i := m) (j := m + 1) q (by omega) (Nat.le_refl _)
    rw [show m + (m + 1 - (m + 1)) = m by omega, hcut] at this
    exact this
  have CS : Hid (∀ wx, Chg (· ∈ [qb, g]) w wx → OwnE EV wx 0 (.slice (some ⟨g, 0, none⟩) m cap) (if m = 0 then [] else (d.pop.setIfInBounds 0 d[m]!).toList.map (valV tb)) → Calls Tryd.prog 98 #[.slice (some ⟨g, 0, none⟩) m cap, .int .i64 0, .func (.func 61) #[] #[]] wx fun e w' => e = .returned (.tuple #[]) ∧ OwnE EV w' 0 (.slice (some ⟨g, 0, none⟩) m cap) ((hpop d).toList.map (valV tb)) ∧ wx.grownBy w' (some g)) := by
    intro wx hch q
    by_cases e0 : m = 0
    · subst e0
      rw [if_pos rfl] at q
      refine (sinkV_none _ cap wx).mono ?_
      rintro e w' ⟨rfl, k, rfl⟩
      refine ⟨rfl, ?_, gb_drewN (World.grownBy.refl wx _) k⟩
      rw [pop_oneE hm]
      exact q.drewN k
    · rw [if_neg e0] at q
      obtain ⟨P, hP1, hP2⟩ := hC wx g (by simp [Value.ownBlock]) hch
      have := sinkV_any tb g cap m 0 (d.pop.setIfInBounds 0 d[m]!) wx (by omega) (by omega) (by show _ = _; rw [Array.size_setIfInBounds, Array.size_pop, hm]; rfl) (hP1.cut hm) hP2 q
      rw [pop_ofE hm e0] at this
      exact this
  have HQ := hidp h1
  have HV := hidp h2
  have HF := hidp hf2
  have HGN := hidp hgn
  have HSET := hidp hset
  have HCF := hidp CF
  have hmz : (m : Int) < (m : Int) + 1 := by omega
  have hmz0 : (0 : Int) < (m : Int) + 1 := by omega
  have hwm : IntKind.i64.wrap (m : Int) = (m : Int) := by rw [IntKind.wrap_i64]; omega
  have hwm1 : IntKind.i64.wrap ((m : Int) + 1) = (m : Int) + 1 := by rw [IntKind.wrap_i64]; omega
  clear h1 h2 hf hf2 hgn hset CF hcut hx hz h0 hm hs hC
  go_enter Tryd.func83, Tryd.ntmps83
  go_wp2_with (go_at_call 96; refine HCF.out.mono ?_; rintro e w1 ⟨rfl, hb1⟩; obtain ⟨k0, k1⟩ := (HQ.out.kept (hb1.block qb hql)).cells; have HV1 : Hid (OwnE EV w1 0 (.slice (some ⟨g, 0, none⟩) (m + 1) cap) (d.toList.map (valV tb))) := HV.out.below hb1; have cz0 := (HV1.out.cellE (mapE_at (valV tb) d (i := m) (by rw [HM.out]; omega)) (c := 0) (v := (.slice z0 z1 z2)) (by rw [HZ.out]; rfl)).1; obtain ⟨cx0, fx0, _⟩ := HV1.out.cellE (mapE_at (valV tb) d (i := 0) HH0.out) (c := 0) (v := (.slice x0 x1 x2)) (by rw [HX.out]; rfl); simp only [EV, Nat.mul_one, Nat.add_zero] at cz0 cx0 fx0; have hq1 := Nat.lt_of_lt_of_le hql hb1.size; have hg1 := Nat.lt_of_lt_of_le hgl hb1.size; have HB1 := hidp hb1; clear hb1)
  go_region
  have HO2 : Hid (OwnE EV ((w1.setCell ⟨g, 0, none⟩ (.slice z0 z1 z2)).drew) 0 (.slice (some ⟨g, 0, none⟩) (m + 1) cap) ((d.toList.map (valV tb)).set 0 (z0, z1, z2))) := OwnE.drewN (HSET.out _ HV1.out) 1
  have HG2 : Hid (Chg (· ∈ [g]) w1 ((w1.setCell ⟨g, 0, none⟩ (.slice z0 z1 z2)).drew)) := ((Chg.refl (· ∈ [g]) w1).setCell (p := ⟨g, 0, none⟩) (Or.inl (by simp)) _).dn 1
  have HQ2 : Hid (QC 140 ((w1.setCell ⟨g, 0, none⟩ (.slice z0 z1 z2)).drew) qb 61 (.slice (some ⟨g, 0, none⟩) (m + 1) cap)) := (HQ.out.kept (HB1.out.block qb hql)).kept (HG2.out.block qb (Nat.lt_of_lt_of_le hql HB1.out.size) (by simp; exact hqg))
  clear k0 k1 cz0 cx0 fx0 HCF HSET HV HV1
  generalize (w1.setCell ⟨g, 0, none⟩ (.slice z0 z1 z2)).drew = w2 at HO2 HG2 HQ2 ⊢
  obtain ⟨_, k1⟩ := HQ2.out.cells
  go_wp2_with (first | (go_at_call 97; refine (CD.out _ HO2.out).mono ?_; rintro e w3 ⟨rfl, o3, g3⟩; have q3 : QC 140 w3 qb 61 (.slice (some ⟨g, 0, none⟩) (m + 1) cap) := HQ2.out.kept (g3.block qb HQ2.out.lt HGN.out); have f3 := q3.fr 1; obtain ⟨_, c3⟩ := q3.cells; have HO3 := hidp o3; have HG3 := hidp (HG2.out.trans (Chg.of_grown (F := (· ∈ [g])) g3 fun k e => by simp at e; simp [e]) fun j q => Or.inl q); have HQ3 := hidp q3; clear o3 g3 q3))
  have HQ4 : Hid (QC 140 (w3.setCell ⟨qb, 1, none⟩ (.slice (some ⟨g, 0, none⟩) m cap)) qb 61 (.slice (some ⟨g, 0, none⟩) m cap)) := HQ3.out.put1 _
  have HO4 : Hid (OwnE EV (w3.setCell ⟨qb, 1, none⟩ (.slice (some ⟨g, 0, none⟩) m cap)) 0 (.slice (some ⟨g, 0, none⟩) m cap) (if m = 0 then [] else (d.pop.setIfInBounds 0 d[m]!).toList.map (valV tb))) := own_kept HO3.out ((Chg.refl (· = qb) w3).setCell (p := ⟨qb, 1, none⟩) (Or.inl rfl) _) fun j y e => hqg (by
    have hj : j = g := by simp [Value.ownBlock] at y; omega
    rw [← hj]; exact e.symm)
  have HC4 : Hid (Chg (· ∈ [qb, g]) w1 (w3.setCell ⟨qb, 1, none⟩ (.slice (some ⟨g, 0, none⟩) m cap))) := (HG3.out.mono (G := (· ∈ [qb, g])) fun j q => Or.inl (List.mem_cons_of_mem _ q)).setCell (p := ⟨qb, 1, none⟩) (Or.inl List.mem_cons_self) _
  clear HQ3 HO3 HG3 HO2 HG2 HQ2 CD f3 c3 k1 hql HQ
  generalize w3.setCell ⟨qb, 1, none⟩ (.slice (some ⟨g, 0, none⟩) m cap) = w4 at HQ4 HO4 HC4 ⊢
  obtain ⟨k0, k1⟩ := HQ4.out.cells
  have hql := HQ4.out.lt
  have HCW : Hid (Chg (· ∈ [qb, g]) w w4) := (Chg.of_below (F := (· ∈ [qb, g])) HB1.out).trans HC4.out fun j q => Or.inl q
  go_wp2_with fail
  go_region_held3 (fun w' => w'.cell? ⟨qb, 0, none⟩ = some (.func (.func 61) #[] #[]) ∧ w'.cell? ⟨qb, 1, none⟩ = some (.slice (some ⟨g, 0, none⟩) m cap)) (first | go_keep | (exact ⟨j0, j1⟩)) (first | (go_at_call 98; refine (CS.out _ (HCW.out.dn 1) (OwnE.drewN HO4.out 1)).mono ?_; rintro e w5 ⟨rfl, o5, g5'⟩; have g5 : w4.grownBy w5 (some g) := gb_trans (gb_drewN (World.grownBy.refl w4 _) 1) g5'; have hb5 := g5.block qb hql HGN.out; have j0 := (World.cell?_of_block (a := ⟨qb, 0, none⟩) hb5).trans k0; have j1 := (World.cell?_of_block (a := ⟨qb, 1, none⟩) hb5).trans k1; have HO5 := hidp o5; have HG5 := hidp g5; have HB5 := hidp hb5; clear o5 g5' g5 hb5))
  all_goals
    go_wp2
    go_ret2
    exact ⟨rfl, [qb, g], ⟨_, HQ4.out.kept HB5.out, HO5.out, rfl⟩, Step.inside HF.out (HCW.out.trans (Chg.of_grown (F := (· ∈ [qb, g])) HG5.out fun k e => by simp at e; simp [e]) fun j q => Or.inl q) fun j q => q⟩
#print axioms qPopV
#print axioms qPushV
end Go.Proofs.YtlaeaeciomkababDoor
