/-
  Queues of whole numbers told by stream.less: Push and Pop. (Written by wip/gen/queue.py.)
-/
import Derived.Test.YtcjfbenbdjlodabQB
import Derived.Test.YtcjfbenbdjlodabQSinkL
import Derived.Deep.RegionHeld3
namespace Go.Proofs.Ytcjfbenbdjlodab
open Go.RowKit Go.Sort Go.Proofs

/-- Behind the append, and the store. -/
structure PushIL (w : World) (qb : Nat) (f : List Nat) (vs : List Int) (g cap n : Nat) (w2 : World) : Prop where
  qb2 : QB w2 qb 18 (.slice (some ⟨g, 0, none⟩) n cap)
  own : OwnE EZ w2 0 (.slice (some ⟨g, 0, none⟩) n cap) vs
  step : Step f [qb, g] w w2
theorem push_midL {w w1 : World} {qb : Nat} {v v1 : Value} {vs : List Int} {c : Int} (h1 : QB w qb 18 v) (hf : (qb :: v.ownBlock.toList).Nodup) (a1 : OwnE EZ w1 0 v1 (vs ++ [c])) (a2 : (w.alloc (.cells #[.int .i64 c] 3)).grownBy w1 v.ownBlock) (a3 : v1.ownBlock = v.ownBlock ∨ v1.ownBlock = some (w.alloc (.cells #[.int .i64 c] 3)).heap.size) :
    QB w1 qb 18 v ∧ ∃ g cap, v1 = .slice (some ⟨g, 0, none⟩) (vs.length + 1) cap ∧ PushIL w qb (qb :: v.ownBlock.toList) (vs ++ [c]) g cap (vs.length + 1) (w1.setCell ⟨qb, 1, none⟩ v1) := by
  have hA : (w.alloc (.cells #[.int .i64 c] 3)).heap.size = w.heap.size + 1 := by simp
  have hqA : QB (w.alloc (.cells #[.int .i64 c] 3)) qb 18 v := h1.kept (Below.heap_alloc _ _ _ h1.lt)
  have hne : some qb ≠ v.ownBlock := fun e => (List.nodup_cons.1 hf).1 (by rw [← e]; simp)
  have hq1 : QB w1 qb 18 v := hqA.kept (a2.block qb hqA.lt hne)
  obtain ⟨g, cap, rfl, hcp⟩ := num_some a1 (n := vs.length + 1) (by simp) (Nat.succ_pos _)
  have hgq : g ≠ qb := by
    rintro rfl
    rcases a3 with e | e
    · exact hne e
    · have : g = w.heap.size + 1 := by rw [← hA]; simpa [Value.ownBlock] using e
      have := h1.lt; omega
  have ch1 : Chg (· ∈ qb :: v.ownBlock.toList) w w1 := ((Chg.refl _ w).alloc _).trans (Chg.of_grown (F := fun j => some j = v.ownBlock) a2 fun k e => e.symm) fun j e => Or.inl (List.mem_cons_of_mem _ (by rw [← e]; simp))
  refine ⟨hq1, g, cap, rfl, hq1.put1 _, num_kept a1 ((Chg.refl (· = qb) w1).setCell (p := ⟨qb, 1, none⟩) (Or.inl rfl) _) fun j z e => hgq (by
    have hj : j = g := by simp [Value.ownBlock] at z; omega
    rw [← hj]; exact e), ?_, fun j z => ?_, ch1.setCell (p := ⟨qb, 1, none⟩) (Or.inl List.mem_cons_self) _⟩
  · exact List.nodup_cons.2 ⟨fun z => hgq (List.mem_singleton.1 z).symm, by simp⟩
  · rcases List.mem_cons.1 z with rfl | z
    · exact Or.inl List.mem_cons_self
    · obtain rfl := List.mem_singleton.1 z
      rcases a3 with e | e
      · exact Or.inl (List.mem_cons_of_mem _ (by rw [← e]; simp [Value.ownBlock]))
      · right
        have : j = w.heap.size + 1 := by rw [← hA]; simpa [Value.ownBlock] using e
        omega
theorem num_pushL (d : Array (Int × Int)) (c : Int) : numL d ++ [c] = (d.push (itmL c)).toList.map valL := by
  simp [numL, val_itmL]
set_option maxHeartbeats 4000000 in
set_option maxRecDepth 100000 in
theorem qPushL {w : World} {qb : Nat} {d : Array (Int × Int)} {f : List Nat} {c : Int} (h : QAt w qb 18 (numL d) f) (hf : f.Nodup) (hs : d.size ≤ 500) :
    Calls Try.prog 29 #[.pointer (some ⟨qb, 0, none⟩), .int .i64 c] w fun e w' => e = .returned (.tuple #[]) ∧ ∃ f', QAt w' qb 18 (numL (hpush d (itmL c))) f' ∧ Step f f' w w' := by
  obtain ⟨v, h1, h2, rfl⟩ := h
  obtain ⟨n, hn⟩ : ∃ n, d.size = n := ⟨_, rfl⟩
  obtain ⟨_, c1⟩ := h1.cells
  have hoA : OwnE EZ (w.alloc (.cells #[.int .i64 c] 3)) 0 v (numL d) := h2.alloc _
  have hnew := new_num w c
  have hqA : QB (w.alloc (.cells #[.int .i64 c] 3)) qb 18 v := h1.kept (Below.heap_alloc _ _ _ h1.lt)
  have HOA := hidp hoA
  have HNEW := hidp hnew
  have HQ := hidp h1
  have HF := hidp hf
  have HN := hidp hn
  have HL : Hid ((numL d).length ≤ 100000) := by show _ ≤ _; rw [numL_len]; omega
  clear hoA hnew h1 h2 hf hqA hn
  go_enter Try.func29, Try.ntmps29
  go_wp2_with (at_builtin; refine wpList_appendE EZ rfl (.tmp 8) (.tmp 10) rfl 0 _ (numL d) c ⟨w.heap.size, 0, none⟩ 1 rfl HOA.out rfl HNEW.out HL.out (Nat.zero_le _) ?_; intro v1 w1 a1 a2 a3; obtain ⟨q1, g, cap, e1, hI⟩ := push_midL HQ.out HF.out a1 a2 a3; subst e1; obtain ⟨_, m1⟩ := q1.cells; have f1 := q1.fr 1; have HI := hidp hI; clear a1 a2 a3 q1 hI)
  have hln : (numL d).length = n := by rw [numL_len, HN.out]
  rw [hln] at HI ⊢
  clear m1 f1 c1 HOA HNEW HQ HL hln
  generalize w1.setCell ⟨qb, 1, none⟩ (.slice (some ⟨g, 0, none⟩) (n + 1) cap) = w2 at HI ⊢
  obtain ⟨k0, k1⟩ := HI.out.qb2.cells
  have hgn : some qb ≠ some g := fun e => by
    have := HI.out.step.nodup
    simp only [Option.some.injEq] at e
    subst e
    simp at this
  have hql := HI.out.qb2.lt
  have hhp : upA (d.push (itmL c)) n = hpush d (itmL c) := by unfold hpush; rw [HN.out]
  have C : Hid (∀ wx, OwnE EZ wx 0 (.slice (some ⟨g, 0, none⟩) (n + 1) cap) (numL d ++ [c]) → Calls Try.prog 39 #[.slice (some ⟨g, 0, none⟩) (n + 1) cap, .int .i64 n, .func (.func 18) #[] #[]] wx fun e w' => e = .returned (.tuple #[]) ∧ OwnE EZ w' 0 (.slice (some ⟨g, 0, none⟩) (n + 1) cap) (numL (hpush d (itmL c))) ∧ wx.grownBy w' (some g)) := by
    intro wx hx
    have := riseL_any g cap (n + 1) n (d.push (itmL c)) wx (by have := HN.out; omega) (by omega) (by show _ = _; rw [Array.size_push, HN.out]) (by rw [num_pushL] at hx; exact hx)
    rw [hhp] at this
    exact this
  have HGN := hidp hgn
  have hwn : IntKind.i64.wrap (n : Int) = (n : Int) := by have := HN.out; rw [IntKind.wrap_i64]; omega
  clear hhp hgn
  go_wp2_with fail
  go_region_held3 (fun w' => w'.cell? ⟨qb, 0, none⟩ = some (.func (.func 18) #[] #[]) ∧ w'.cell? ⟨qb, 1, none⟩ = some (.slice (some ⟨g, 0, none⟩) (n + 1) cap)) (first | go_keep | (exact ⟨j0, j1⟩)) (first | (go_at_call 39; refine (C.out _ (num_dn HI.out.own 1)).mono ?_; rintro e w3 ⟨rfl, o3, g3'⟩; have g3 : w2.grownBy w3 (some g) := gb_trans (gb_drewN (World.grownBy.refl w2 _) 1) g3'; have hb3 := g3.block qb hql HGN.out; have j0 := (World.cell?_of_block (a := ⟨qb, 0, none⟩) hb3).trans k0; have j1 := (World.cell?_of_block (a := ⟨qb, 1, none⟩) hb3).trans k1; have HO3 := hidp o3; have HG3 := hidp g3; have HB3 := hidp hb3; clear o3 g3' g3 hb3))
  all_goals
    go_wp2
    go_end0
    refine ⟨rfl, [qb, g], ⟨_, HI.out.qb2.kept HB3.out, HO3.out, rfl⟩, HI.out.step.trans (Step.inside (o := [g]) HI.out.step.nodup (Chg.of_grown HG3.out fun k e => by simp at e; simp [e]) fun j z => List.mem_cons_of_mem _ z)⟩

/-- What Pop makes of the row. -/
theorem cutL {d : Array (Int × Int)} {m : Nat} (hm : d.size = m + 1) : ((numL d).set 0 (valL d[m]!)).take m ++ ((numL d).set 0 (valL d[m]!)).drop (m + 1) = (if m = 0 then [] else (d.pop.setIfInBounds 0 d[m]!).toList.map valL) := by
  have h1 : ((numL d).set 0 (valL d[m]!)).drop (m + 1) = [] := List.drop_eq_nil_of_le (by rw [List.length_set, numL_len, hm]; exact Nat.le_refl _)
  rw [h1, List.append_nil]
  by_cases h0 : m = 0
  · rw [if_pos h0, h0]; rfl
  · rw [if_neg h0, Array.toList_setIfInBounds, Array.toList_pop, List.map_set, List.take_set]
    congr 1
    unfold numL
    rw [List.dropLast_eq_take, List.map_take]
    congr 1
    simp [hm]
theorem pop_ofL {d : Array (Int × Int)} {m : Nat} (hm : d.size = m + 1) (h0 : m ≠ 0) : sinkA (d.pop.setIfInBounds 0 d[m]!) 0 = hpop d := by
  unfold hpop
  rw [if_neg (by omega), hm]; rfl
theorem pop_oneL {d : Array (Int × Int)} (hm : d.size = 1) : hpop d = #[] := by unfold hpop; rw [if_pos (by omega)]
set_option maxHeartbeats 1000000 in
theorem qPopL_none {w : World} {qb : Nat} {f : List Nat} (h : QAt w qb 18 [] f) : Calls Try.prog 40 #[.pointer (some ⟨qb, 0, none⟩)] w fun e w' => e = .returned (.tuple #[.int .i64 0, .iface 44 (.int .i64 5)]) ∧ w' = w := by
  have C := hidp (qFirst_none h)
  go_enter Try.func40, Try.ntmps40
  go_wp2_with (go_at_call 27; refine C.out.mono ?_; rintro e w' ⟨rfl, rfl⟩)
  go_ret2
  exact ⟨rfl, rfl⟩
set_option maxHeartbeats 8000000 in
set_option maxRecDepth 100000 in
theorem qPopL {w : World} {qb : Nat} {d : Array (Int × Int)} {f : List Nat} (h : QAt w qb 18 (numL d) f) (hf : f.Nodup) (h0 : 0 < d.size) (hs : d.size ≤ 500) :
    Calls Try.prog 40 #[.pointer (some ⟨qb, 0, none⟩)] w fun e w' => e = .returned (.tuple #[.int .i64 (valL d[0]!), .nilIface]) ∧ ∃ f', QAt w' qb 18 (numL (hpop d)) f' ∧ Step f f' w w' := by
  obtain ⟨m, hm⟩ : ∃ m, d.size = m + 1 := ⟨d.size - 1, by omega⟩
  have hfirst : numL d = valL d[0]! :: (numL d).tail := by
    have e := map_at valL d (i := 0) h0
    have : (numL d)[0]? = some (valL d[0]!) := e
    cases hq : numL d with
    | nil => rw [hq] at this; simp at this
    | cons a t => rw [hq] at this; simp at this; rw [this]; rfl
  have CF := qFirst_some (x := valL d[0]!) (vs := (numL d).tail) (by rw [← hfirst]; exact h)
  obtain ⟨v, h1, h2, rfl⟩ := h
  obtain ⟨g, cap, rfl, hcp⟩ := num_some h2 (n := m + 1) (by rw [numL_len, hm]) (Nat.succ_pos _)
  obtain ⟨x, hx⟩ : ∃ x, valL d[0]! = x := ⟨_, rfl⟩
  obtain ⟨z, hz⟩ : ∃ z, valL d[m]! = z := ⟨_, rfl⟩
  obtain ⟨k0, k1⟩ := h1.cells
  obtain ⟨cz, _⟩ := h2.num (map_at valL d (i := m) (by omega))
  obtain ⟨cx, fx⟩ := h2.num (map_at valL d (i := 0) h0)
  rw [hx] at cx CF ⊢
  rw [hz] at cz
  have hql := h1.lt
  have hgn : some qb ≠ some g := fun e => (List.nodup_cons.1 hf).1 (by simp only [Option.some.injEq] at e; subst e; simp [Value.ownBlock])
  have hqg : qb ≠ g := fun e => hgn (by rw [e])
  have hf2 : [qb, g].Nodup := hf
  -- the row when the last number stands at its head
  have hset : ∀ wx, OwnE EZ wx 0 (.slice (some ⟨g, 0, none⟩) (m + 1) cap) (numL d) → OwnE EZ (wx.setCell ⟨g, 0, none⟩ (.int .i64 z)) 0 (.slice (some ⟨g, 0, none⟩) (m + 1) cap) ((numL d).set 0 z) := fun wx q => q.setNum (by omega) z
  have hcut : ((numL d).set 0 z).take m ++ ((numL d).set 0 z).drop (m + 1) = (if m = 0 then [] else (d.pop.setIfInBounds 0 d[m]!).toList.map valL) := by rw [← hz]; exact cutL hm
  have CD : Hid (∀ wx, OwnE EZ wx 0 (.slice (some ⟨g, 0, none⟩) (m + 1) cap) ((numL d).set 0 z) → Calls Try.prog 32 #[.slice (some ⟨g, 0, none⟩) (m + 1) cap, .int .i64 m, .int .i64 ((m : Int) + 1)] wx fun e w' => e = .returned (.slice (some ⟨g, 0, none⟩) m cap) ∧ OwnE EZ w' 0 (.slice (some ⟨g, 0, none⟩) m cap) (if m = 0 then [] else (d.pop.setIfInBounds 0 d[m]!).toList.map valL) ∧ wx.grownBy w' (some g)) := by
    intro wx q
    have := deleteZ (i := m) (j := m + 1) q (by omega) (Nat.le_refl _)
    rw [show m + (m + 1 - (m + 1)) = m by omega, hcut] at this
    exact this
  have CS : Hid (∀ wx, OwnE EZ wx 0 (.slice (some ⟨g, 0, none⟩) m cap) (if m = 0 then [] else (d.pop.setIfInBounds 0 d[m]!).toList.map valL) → Calls Try.prog 44 #[.slice (some ⟨g, 0, none⟩) m cap, .int .i64 0, .func (.func 18) #[] #[]] wx fun e w' => e = .returned (.tuple #[]) ∧ OwnE EZ w' 0 (.slice (some ⟨g, 0, none⟩) m cap) (numL (hpop d)) ∧ wx.grownBy w' (some g)) := by
    intro wx q
    by_cases e0 : m = 0
    · subst e0
      rw [if_pos rfl] at q
      refine (sinkL_none _ cap wx).mono ?_
      rintro e w' ⟨rfl, k, rfl⟩
      refine ⟨rfl, ?_, gb_drewN (World.grownBy.refl wx _) k⟩
      rw [pop_oneL hm]
      exact num_dn q k
    · rw [if_neg e0] at q
      have := sinkL_any g cap m 0 (d.pop.setIfInBounds 0 d[m]!) wx (by omega) (by omega) (by show _ = _; rw [Array.size_setIfInBounds, Array.size_pop, hm]; rfl) q
      rw [pop_ofL hm e0] at this
      exact this
  have HQ := hidp h1
  have HV := hidp h2
  have HF := hidp hf2
  have HGN := hidp hgn
  have HSET := hidp hset
  have HCF := hidp CF
  have hmz : (m : Int) < (m : Int) + 1 := by omega
  have hmz0 : (0 : Int) < (m : Int) + 1 := by omega
  have hwm : IntKind.i64.wrap (m : Int) = (m : Int) := by rw [IntKind.wrap_i64]; omega
  have hwm1 : IntKind.i64.wrap ((m : Int) + 1) = (m : Int) + 1 := by rw [IntKind.wrap_i64]; omega
  clear h1 h2 hf hf2 hgn hset CF hcut hfirst hx hz h0 hm hs
  go_enter Try.func40, Try.ntmps40
  go_wp2_with (go_at_call 27; refine HCF.out.mono ?_; rintro e w' ⟨rfl, rfl⟩)
  go_region
  have HO2 : Hid (OwnE EZ ((w'.setCell ⟨g, 0, none⟩ (.int .i64 z)).drew) 0 (.slice (some ⟨g, 0, none⟩) (m + 1) cap) ((numL d).set 0 z)) := num_dn (HSET.out _ HV.out) 1
  have HG2 : Hid (w'.grownBy ((w'.setCell ⟨g, 0, none⟩ (.int .i64 z)).drew) (some g)) := gb_drewN (gb_setCell w' ⟨g, 0, none⟩ _) 1
  have HQ2 : Hid (QB ((w'.setCell ⟨g, 0, none⟩ (.int .i64 z)).drew) qb 18 (.slice (some ⟨g, 0, none⟩) (m + 1) cap)) := HQ.out.kept (HG2.out.block qb hql HGN.out)
  clear k0 k1 cz cx fx HCF HSET HV
  generalize (w'.setCell ⟨g, 0, none⟩ (.int .i64 z)).drew = w2 at HO2 HG2 HQ2 ⊢
  obtain ⟨_, k1⟩ := HQ2.out.cells
  go_wp2_with (first | (go_at_call 32; refine (CD.out _ HO2.out).mono ?_; rintro e w3 ⟨rfl, o3, g3⟩; have q3 : QB w3 qb 18 (.slice (some ⟨g, 0, none⟩) (m + 1) cap) := HQ2.out.kept (g3.block qb HQ2.out.lt HGN.out); have f3 := q3.fr 1; obtain ⟨_, c3⟩ := q3.cells; have HO3 := hidp o3; have HG3 := hidp (gb_trans HG2.out g3); have HQ3 := hidp q3; clear o3 g3 q3))
  have HQ4 : Hid (QB (w3.setCell ⟨qb, 1, none⟩ (.slice (some ⟨g, 0, none⟩) m cap)) qb 18 (.slice (some ⟨g, 0, none⟩) m cap)) := HQ3.out.put1 _
  have HO4 : Hid (OwnE EZ (w3.setCell ⟨qb, 1, none⟩ (.slice (some ⟨g, 0, none⟩) m cap)) 0 (.slice (some ⟨g, 0, none⟩) m cap) (if m = 0 then [] else (d.pop.setIfInBounds 0 d[m]!).toList.map valL)) := num_kept HO3.out ((Chg.refl (· = qb) w3).setCell (p := ⟨qb, 1, none⟩) (Or.inl rfl) _) fun j y e => hqg (by
    have hj : j = g := by simp [Value.ownBlock] at y; omega
    rw [← hj]; exact e.symm)
  have HC4 : Hid (Chg (· ∈ [qb, g]) w' (w3.setCell ⟨qb, 1, none⟩ (.slice (some ⟨g, 0, none⟩) m cap))) := (Chg.of_grown HG3.out fun k e => by simp at e; simp [e]).setCell (p := ⟨qb, 1, none⟩) (Or.inl List.mem_cons_self) _
  clear HQ3 HO3 HG3 HO2 HG2 HQ2 CD f3 c3 k1 hql HQ
  generalize w3.setCell ⟨qb, 1, none⟩ (.slice (some ⟨g, 0, none⟩) m cap) = w4 at HQ4 HO4 HC4 ⊢
  obtain ⟨k0, k1⟩ := HQ4.out.cells
  have hql := HQ4.out.lt
  go_wp2_with fail
  go_region_held3 (fun w' => w'.cell? ⟨qb, 0, none⟩ = some (.func (.func 18) #[] #[]) ∧ w'.cell? ⟨qb, 1, none⟩ = some (.slice (some ⟨g, 0, none⟩) m cap)) (first | go_keep | (exact ⟨j0, j1⟩)) (first | (go_at_call 44; refine (CS.out _ (num_dn HO4.out 1)).mono ?_; rintro e w5 ⟨rfl, o5, g5'⟩; have g5 : w4.grownBy w5 (some g) := gb_trans (gb_drewN (World.grownBy.refl w4 _) 1) g5'; have hb5 := g5.block qb hql HGN.out; have j0 := (World.cell?_of_block (a := ⟨qb, 0, none⟩) hb5).trans k0; have j1 := (World.cell?_of_block (a := ⟨qb, 1, none⟩) hb5).trans k1; have HO5 := hidp o5; have HG5 := hidp g5; have HB5 := hidp hb5; clear o5 g5' g5 hb5))
  all_goals
    go_wp2
    go_ret2
    exact ⟨rfl, [qb, g], ⟨_, HQ4.out.kept HB5.out, HO5.out, rfl⟩, Step.inside HF.out (HC4.out.trans (Chg.of_grown (F := (· ∈ [qb, g])) HG5.out fun k e => by simp at e; simp [e]) fun j q => Or.inl q) fun j q => q⟩
#print axioms qPopL
#print axioms qPushL
end Go.Proofs.Ytcjfbenbdjlodab
