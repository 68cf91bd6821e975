/-
  order.merged and order.Merge: two sorted lists merged.
-/
import Derived.Test.YtakkjgcehmpijaaDoorOwnA
import Derived.Test.YtakkjgcehmpijaaDoorMrg
import Derived.Deep.RegionHeld3
import Derived.Deep.AppendLies
namespace Go.Proofs.YtakkjgcehmpijaaDoor
open Go.RowKit Go.Sort Go.Proofs

/-- 'append(dst, x)' at items, at a step of a region that draws its order. -/
theorem step_append_item {w : World} {ops : Array Oper} {o : Oper} {a : Act} {K : Act → World → Prop} {Q : Exit → Act → World → Prop} {E : Prop} (hgd : o.guard = none) (s x : Operand)
    (ho : o.op = .call { callee := .builtin .append, args := #[s, x], argTypes := #[22, 22] }) (base : Nat) (v : Value) (ys : List (Int × Int)) (y : Int × Int) (ad : Addr) (c : Nat) (hs : a.eval s = v) (hown : OwnI w base v ys)
    (hx : a.eval x = .slice (some ad) 1 c) (c0 : w.cell? ad = some (.int .i64 y.1)) (c1 : w.cell? (ad.add 1) = some (.int .i64 y.2)) (hsz : ys.length ≤ 1000000) (hbase : base ≤ w.heap.size)
    (h : ∀ v' w', OwnI w' base v' (ys ++ [y]) → w.grownBy w' v.ownBlock → K (a.put o.dst v') w') :
    if Region.wanted o (yielded ops a.tmps) = true then Oper.wp Tryd.prog o a w K Q else E := by
  have hw : Region.wanted o (yielded ops a.tmps) = true := by simp [Region.wanted, hgd]
  rw [if_pos hw]
  obtain ⟨v', w', hr, h2, h3, h4⟩ := run_append_item w o.type base v ys y ad c hown c0 c1 hsz hbase
  unfold Oper.wp execOp
  simp only [ho, resolve, invoke, builtin, Sem.run_bind, Sem.run_pure, Result.andThen_ok, List.map_toArray, List.map_cons, List.map_nil, hs, hx, hr]
  exact h _ _ h2 h3

theorem keep_cell {wq w2 : World} {o : Obj} {B : Nat} {v u : Value} {ys : List (Int × Int)} (hown : OwnI wq B v ys) (hg : ((wq.alloc o).drew).grownBy w2 v.ownBlock) {p : Addr} (hp : p.block < B) (hB : B ≤ wq.heap.size) (hc : wq.cell? p = some u) : w2.cell? p = some u := by
  have h1 : p.block < (wq.alloc o).drew.heap.size := by show p.block < (wq.alloc o).heap.size; simp; omega
  rw [hg.cell_far p h1 (fun e => by have := (World.ownsRow.lt hown p.block e.symm).1; omega)]
  show (wq.alloc o).cell? p = _
  rw [World.cell?_alloc_lt _ _ p (by omega)]; exact hc
theorem below_append {w wq w2 : World} {o : Obj} {B : Nat} {v : Value} {ys : List (Int × Int)} (hbq : Below B w wq) (hown : OwnI wq B v ys) (hg : ((wq.alloc o).drew).grownBy w2 v.ownBlock) (hB : B ≤ wq.heap.size := by exact Below.size ‹_›) : Below B w w2 :=
  (below_drewN (hbq.alloc hB o) 1).trans (below_of_grown (OwnI.drewN (hown.alloc o) 1) hg (Nat.le_refl _) (by show B ≤ (wq.alloc o).heap.size; simp; omega))
theorem Sl.of_rd' {w : World} {blk off n cap : Nat} {x : Int × Int} {l : List (Int × Int)} (h : RdAt w blk off (x :: l).toArray) (hn : l.length + 1 = n) (hc : n ≤ cap) : Sl w (.slice (some ⟨blk, off, none⟩) n cap) (x :: l).toArray := by
  subst hn
  exact Sl.of_rd h (by simpa using hc)
theorem Sl.tail' {w : World} {blk off cap n : Nat} {x : Int × Int} {xs : List (Int × Int)} (h : RdAt w blk off (x :: xs).toArray) (hn : xs.length + 1 = n) (hc : n ≤ cap) : Sl w (.slice (if cap = 1 then some ⟨blk, off, none⟩ else some ⟨blk, off + 2, none⟩) (n - 1) (cap - 1)) xs.toArray := by
  split
  · exact Sl.empty w _ (n - 1) (cap - 1) xs (by omega) (by omega)
  · exact Sl.tail h hn hc

set_option maxHeartbeats 8000000 in
set_option maxRecDepth 4000 in
theorem merged_any (p q : Option Addr) (ca cb A B : Nat) (xs ys : Array (Int × Int)) (w : World) (hx : Sl w (.slice p A ca) xs) (hy : Sl w (.slice q B cb) ys) (hA : xs.size = A) (hB : ys.size = B) (h60 : A + B ≤ 60) :
    Calls Tryd.prog 35 #[.slice p A ca, .slice q B cb] w fun e w' => ∃ u, e = .returned u ∧ OwnI w' w.heap.size u (mrg xs.toList ys.toList) ∧ Below w.heap.size w w' := by
  have HX : Hid (Sl w (.slice p A ca) xs) := hx
  have HY : Hid (Sl w (.slice q B cb) ys) := hy
  have HA : Hid (xs.size = A) := hA
  have HB : Hid (ys.size = B) := hB
  clear hx hy hA hB
  obtain ⟨i0, hi, hz0, hz1, hz2⟩ := info_parts info_item'
  have HI : Hid (Tryd.prog.info? 38 = some i0) := hi
  have HZ0 : Hid (i0.zero = some (.agg #[.int .i64 0, .int .i64 0])) := hz0
  have HZ1 : Hid (i0.size = 2) := hz1
  have HZ2 : Hid (i0.bytes = 16) := hz2
  clear hi hz0 hz1 hz2
  have mixed : Tryd.prog.follows .mixedOrders = true := by kernel_rfl
  have hwr : IntKind.i64.wrap ((A : Int) + (B : Int)) = (A : Int) + (B : Int) := by rw [IntKind.wrap_i64]; omega
  go_enter Tryd.func35, Tryd.ntmps35
  go_wp2_with (first | (at_make; refine wpList_make_own _ rfl (.const (.int .i64 0)) (.tmp 10) 22 rfl w.heap.size 38 i0 (.agg #[.int .i64 0, .int .i64 0]) 2 Tryd.underlying22 HI.out HZ0.out HZ1.out .i64 .i64 _ (A + B) rfl rfl (by simp) (by rw [HZ2.out]; omega) (by unfold maxLen; omega) (Nat.le_refl _) ?_; intro w1 hown hgr))
  have hb1 : Below w.heap.size w w1 := (Below.refl _ _).grown hgr (Nat.le_refl _) (fun _ e => by cases e)
  have HO1 : Hid (OwnI w1 w.heap.size (.slice (some ⟨w.heap.size, 0, none⟩) 0 (A + B)) []) := hown
  clear hown hgr
  go_loopg [0, 1, 5] (A + B) (fun g va vb vo wr => ∃ (az bz os : List (Int × Int)), az.length + bz.length = g ∧ os.length + g = A + B ∧ Hid (Sl w va az.toArray) ∧ Hid (Sl w vb bz.toArray) ∧ Hid (OwnI wr w.heap.size vo os) ∧
    Hid (os ++ mrg az bz = mrg xs.toList ys.toList) ∧ Below w.heap.size w wr)
  case atStart => exact ⟨xs.toList, ys.toList, [], by simp [HA.out, HB.out], by simp, by simpa using HX, by simpa using HY, HO1, (show Hid _ from rfl), hb1⟩
  case round =>
    obtain ⟨az, bz, os, hg, hos, HSA, HSB, HO, HM, hbr⟩ := hrel
    obtain ⟨wo, rfl⟩ : ∃ wo : World, wo = wr := ⟨_, rfl⟩
    cases az with
    | nil =>
      obtain ⟨pa, cpa, rfl, _⟩ := id HSA.out
      obtain ⟨pb, cpb, rfl, _⟩ := id HSB.out
      obtain ⟨nb, hnb⟩ : ∃ n, bz.length = n := ⟨_, rfl⟩
      simp only [List.length_nil, Nat.zero_add] at hg
      simp only [List.size_toArray, List.length_nil, hnb] at HSA HSB ⊢
      go_wp2_with (first | (at_builtin; refine wpList_append_sl rfl (.tmp 44) (.tmp 45) rfl w.heap.size u5 _ os [].toArray rfl rfl HO.out (HSA.out.below hbr) (by simp; omega) hbr.size ?_; intro v2 w2 h2 hg2; have hb2 := hbr.trans (below_of_grown HO.out hg2 (Nat.le_refl _) hbr.size); clear hg2) | (at_builtin; refine wpList_append_sl rfl (.tmp 47) (.tmp 48) rfl w.heap.size v2 _ _ bz.toArray rfl rfl h2 (HSB.out.below hb2) (by simp; omega) hb2.size ?_; intro v3 w3 h3 hg3; have hb3 := hb2.trans (below_of_grown h2 hg3 (Nat.le_refl _) hb2.size); clear hg3))
      go_ret
      have := HM.out
      rw [mrg_nil_left] at this
      exact ⟨_, rfl, by rw [← this]; simpa using h3, hb3⟩
    | cons x az =>
      cases bz with
      | nil =>
        obtain ⟨pa, cpa, rfl, _⟩ := id HSA.out
        obtain ⟨pb, cpb, rfl, _⟩ := id HSB.out
        obtain ⟨na, hna⟩ : ∃ n, az.length + 1 = n := ⟨_, rfl⟩
        have hn0 : 0 < na := by omega
        have za : (0 : Int) < (na : Int) := by omega
        simp only [List.length_nil, List.length_cons, Nat.add_zero] at hg
        simp only [List.size_toArray, List.length_nil, List.length_cons, hna] at HSA HSB ⊢
        go_wp2_with (first | (at_builtin; refine wpList_append_sl rfl (.tmp 44) (.tmp 45) rfl w.heap.size u5 _ os (x :: az).toArray rfl rfl HO.out (HSA.out.below hbr) (by simp; omega) hbr.size ?_; intro v2 w2 h2 hg2; have hb2 := hbr.trans (below_of_grown HO.out hg2 (Nat.le_refl _) hbr.size); clear hg2) | (at_builtin; refine wpList_append_sl rfl (.tmp 47) (.tmp 48) rfl w.heap.size v2 _ _ [].toArray rfl rfl h2 (HSB.out.below hb2) (by simp; omega) hb2.size ?_; intro v3 w3 h3 hg3; have hb3 := hb2.trans (below_of_grown h2 hg3 (Nat.le_refl _) hb2.size); clear hg3))
        go_ret
        have := HM.out
        rw [mrg_nil_right] at this
        exact ⟨_, rfl, by rw [← this]; simpa using h3, hb3⟩
      | cons y bz =>
        obtain ⟨pa, cpa, ea, hca, hea | ⟨ba, oa, rfl, hra⟩⟩ := HSA.out
        · exact absurd hea (by simp)
        obtain ⟨pb, cpb, eb, hcb, heb | ⟨bb, ob, rfl, hrb⟩⟩ := HSB.out
        · exact absurd heb (by simp)
        obtain ⟨na, hna⟩ : ∃ n, az.length + 1 = n := ⟨_, rfl⟩
        obtain ⟨nb, hnb⟩ : ∃ n, bz.length + 1 = n := ⟨_, rfl⟩
        rw [show (x :: az).toArray.size = na by simp; exact hna] at ea hca
        rw [show (y :: bz).toArray.size = nb by simp; exact hnb] at eb hcb
        have HRA : Hid (RdAt w ba oa (x :: az).toArray) := hra
        have HRB : Hid (RdAt w bb ob (y :: bz).toArray) := hrb
        have HNA : Hid (az.length + 1 = na) := hna
        have HNB : Hid (bz.length + 1 = nb) := hnb
        have za : (0 : Int) < (na : Int) := by omega
        have zb : (0 : Int) < (nb : Int) := by omega
        have za1 : (1 : Int) ≤ (na : Int) := by omega
        have zb1 : (1 : Int) ≤ (nb : Int) := by omega
        have zca : (na : Int) ≤ (cpa : Int) := by omega
        have zcb : (nb : Int) ≤ (cpb : Int) := by omega
        rw [ea, eb]
        clear ea eb hra hrb hna hnb HSA HSB
        obtain ⟨x0, x1⟩ := x
        obtain ⟨y0, y1⟩ := y
        have hrdA := HRA.out.below hbr HRA.out.1
        have hrdB := HRB.out.below hbr HRB.out.1
        have ha2 := hrdA.2 0 (by simp)
        have hb2 := hrdB.2 0 (by simp)
        simp only [Nat.zero_mul, Nat.add_zero] at ha2 hb2
        have cx0 := cell_grown (a := ⟨ba, oa, none⟩) hrdA.1 ha2.1
        have cx1 := cell_grown (a := ⟨ba, oa + 1, none⟩) hrdA.1 ha2.2
        have cy0 := cell_grown (a := ⟨bb, ob, none⟩) hrdB.1 hb2.1
        have cy1 := cell_grown (a := ⟨bb, ob + 1, none⟩) hrdB.1 hb2.2
        simp only [List.getElem!_toArray, List.getElem!_cons_zero] at cx0 cx1 cy0 cy1
        clear ha2 hb2 hrdA hrdB
        have hcg := fun n os => byKey_any (y0, y1) (x0, x1) (grow (wo.drewN n) os)
        have hcn := cmpI_neg y0 x0
        simp only at hcg
        generalize cmpI y0 x0 = r at hcg hcn
        have HCN : Hid _ := hcn
        have HCG : Aside _ := hcg
        clear hcn hcg
        by_cases hr : r < 0
        · go_wp2_with fail
          go_quiet_grown (first | (go_at_call 30; refine Calls.grown_of (HCG.out _ _)))
          have HOQ : Hid (OwnI (grow (wo.drewN nq) osq) w.heap.size u5 os) := HO.out.below (below_grown _ _ nq osq (Nat.le_refl _))
          have hbq : Below w.heap.size w (grow (wo.drewN nq) osq) := hbr.trans ((below_grown _ _ nq osq (Nat.le_refl _)).mono hbr.size)
          have dy0 := cy0 nq osq
          have dy1 := cy1 nq osq
          clear cx0 cx1 cy0 cy1 HCG
          generalize grow (wo.drewN nq) osq = wq at HOQ hbq dy0 dy1 ⊢
          go_wp2_with fail
          go_region_held3 (fun w' => w'.cell? ⟨bb, ob, none⟩ = some (.int .i64 y0) ∧ w'.cell? ⟨bb, ob + 1, none⟩ = some (.int .i64 y1)) (first | go_keep | (exact ⟨k0, k1⟩))
            ((refine step_append_item (by rfl) (.tmp 28) (.tmp 32) (by rfl) w.heap.size u5 os (y0, y1) ⟨wq.heap.size, 0, none⟩ 1 (by rfl) (OwnI.drewN (OwnI.alloc HOQ.out _) 1) (by rfl) (by simp) (by simp [Addr.add]) (by omega) (by simp; have := hbq.size; omega) ?_; intro v2 w2 h2 hg2; have k0 := keep_cell HOQ.out hg2 (p := ⟨bb, ob, none⟩) HRB.out.1 hbq.size dy0; have k1 := keep_cell HOQ.out hg2 (p := ⟨bb, ob + 1, none⟩) HRB.out.1 hbq.size dy1; have hb2 := below_append hbq HOQ.out hg2; clear hg2))
          go_wp2
          · go_roundg (A + B - (os.length + 1))
            case measure => simp only [List.length_cons] at hg; omega
            case rel =>
              refine ⟨(x0, x1) :: az, bz, os ++ [(y0, y1)], ?_, ?_, ?_, ?_, h2, ?_, hb2⟩
              · simp only [List.length_cons] at hg ⊢; omega
              · simp only [List.length_cons, List.length_append, List.length_nil] at hg ⊢; omega
              · exact Sl.of_rd' HRA.out HNA.out hca
              · exact Sl.empty w _ _ _ bz (by have := HNB.out; omega) (by have := HNB.out; omega)
              · show Hid _
                have := HM.out
                rw [mrg_right _ _ (HCN.out.1 hr)] at this
                show _ = _
                rw [← this]; simp
          · go_roundg (A + B - (os.length + 1))
            case measure => simp only [List.length_cons] at hg; omega
            case rel =>
              refine ⟨(x0, x1) :: az, bz, os ++ [(y0, y1)], ?_, ?_, ?_, ?_, h2, ?_, hb2⟩
              · simp only [List.length_cons] at hg ⊢; omega
              · simp only [List.length_cons, List.length_append, List.length_nil] at hg ⊢; omega
              · exact Sl.of_rd' HRA.out HNA.out hca
              · exact Sl.tail HRB.out HNB.out hcb
              · show Hid _
                have := HM.out
                rw [mrg_right _ _ (HCN.out.1 hr)] at this
                show _ = _
                rw [← this]; simp
        · go_wp2_with fail
          go_quiet_grown (first | (go_at_call 30; refine Calls.grown_of (HCG.out _ _)))
          have HOQ : Hid (OwnI (grow (wo.drewN nq) osq) w.heap.size u5 os) := HO.out.below (below_grown _ _ nq osq (Nat.le_refl _))
          have hbq : Below w.heap.size w (grow (wo.drewN nq) osq) := hbr.trans ((below_grown _ _ nq osq (Nat.le_refl _)).mono hbr.size)
          have dx0 := cx0 nq osq
          have dx1 := cx1 nq osq
          clear cx0 cx1 cy0 cy1 HCG
          generalize grow (wo.drewN nq) osq = wq at HOQ hbq dx0 dx1 ⊢
          go_wp2_with fail
          go_region_held3 (fun w' => w'.cell? ⟨ba, oa, none⟩ = some (.int .i64 x0) ∧ w'.cell? ⟨ba, oa + 1, none⟩ = some (.int .i64 x1)) (first | go_keep | (exact ⟨k0, k1⟩))
            ((refine step_append_item (by rfl) (.tmp 36) (.tmp 40) (by rfl) w.heap.size u5 os (x0, x1) ⟨wq.heap.size, 0, none⟩ 1 (by rfl) (OwnI.drewN (OwnI.alloc HOQ.out _) 1) (by rfl) (by simp) (by simp [Addr.add]) (by omega) (by simp; have := hbq.size; omega) ?_; intro v2 w2 h2 hg2; have k0 := keep_cell HOQ.out hg2 (p := ⟨ba, oa, none⟩) HRA.out.1 hbq.size dx0; have k1 := keep_cell HOQ.out hg2 (p := ⟨ba, oa + 1, none⟩) HRA.out.1 hbq.size dx1; have hb2 := below_append hbq HOQ.out hg2; clear hg2))
          go_wp2
          · go_roundg (A + B - (os.length + 1))
            case measure => simp only [List.length_cons] at hg; omega
            case rel =>
              refine ⟨az, (y0, y1) :: bz, os ++ [(x0, x1)], ?_, ?_, ?_, ?_, h2, ?_, hb2⟩
              · simp only [List.length_cons] at hg ⊢; omega
              · simp only [List.length_cons, List.length_append, List.length_nil] at hg ⊢; omega
              · exact Sl.empty w _ _ _ az (by have := HNA.out; omega) (by have := HNA.out; omega)
              · exact Sl.of_rd' HRB.out HNB.out hcb
              · show Hid _
                have := HM.out
                rw [mrg_left _ _ (show ¬ y0 < x0 from fun h => by have := HCN.out.2 h; omega)] at this
                show _ = _
                rw [← this]; simp
          · go_roundg (A + B - (os.length + 1))
            case measure => simp only [List.length_cons] at hg; omega
            case rel =>
              refine ⟨az, (y0, y1) :: bz, os ++ [(x0, x1)], ?_, ?_, ?_, ?_, h2, ?_, hb2⟩
              · simp only [List.length_cons] at hg ⊢; omega
              · simp only [List.length_cons, List.length_append, List.length_nil] at hg ⊢; omega
              · exact Sl.tail HRA.out HNA.out hca
              · exact Sl.of_rd' HRB.out HNB.out hcb
              · show Hid _
                have := HM.out
                rw [mrg_left _ _ (show ¬ y0 < x0 from fun h => by have := HCN.out.2 h; omega)] at this
                show _ = _
                rw [← this]; simp
end Go.Proofs.YtakkjgcehmpijaaDoor
