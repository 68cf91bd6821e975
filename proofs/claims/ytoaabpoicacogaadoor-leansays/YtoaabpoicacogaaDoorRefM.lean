/-
  The document's leaning heaps: melding.
-/
import Derived.Test.YtoaabpoicacogaaDoorRefT
import Derived.Test.YtoaabpoicacogaaDoorLEnc
namespace Go.Proofs.YtoaabpoicacogaaDoor
open Go.RowKit Go.Proofs

theorem cutN_all (t : LT) : cutN (LT.enc 0 t) 0 t.size = LT.enc 0 t := by
  unfold cutN
  rw [List.drop_zero, Nat.sub_zero, List.take_of_length_le (by rw [LT.enc_length]; exact Nat.le_refl _)]
  exact LT.enc_mv t 0 0 _ (by simp)
set_option maxHeartbeats 4000000 in
theorem part_none (p : Option Addr) (cap : Nat) (w : World) : Calls Tryd.prog 30 #[.slice p 0 cap, .int .i64 0, .int .i64 0] w fun e w' => e = .returned (.slice none 0 0) ∧ Below w.heap.size w w' := by
  go_enter Tryd.func30, Tryd.ntmps30
  go_wp2
  go_loop [7, 8] (fun o i => o = .slice none 0 0 ∧ i = .int .i64 0) (fun _ _ => 0)
  case atStart => exact ⟨rfl, rfl⟩
  case round =>
    obtain ⟨rfl, rfl⟩ := hrel
    go_wp2
    go_ret
    exact ⟨rfl, Below.refl _ _⟩
theorem part_all (p : Option Addr) (n cap : Nat) (t : LT) (w : World) (hs : SlE EN w (.slice p n cap) (LT.enc 0 t)) (ht : t.size = n) (hn : n ≤ 100) :
    Calls Tryd.prog 30 #[.slice p n cap, .int .i64 0, .int .i64 n] w fun e w' => ∃ u, e = .returned u ∧ OwnE EN w' w.heap.size u (LT.enc 0 t) ∧ Below w.heap.size w w' := by
  rcases Nat.eq_zero_or_pos n with rfl | h0
  · have e0 := LT.size_zero ht
    subst e0
    exact (part_none p cap w).mono fun e w' ⟨a, b⟩ => ⟨_, a, OwnE.nil EN _ _, b⟩
  · obtain ⟨blk, off, rfl, _, hl, hr⟩ := hs.some h0
    have c := part_some blk off n cap 0 n (LT.enc 0 t) w (Nat.zero_le _) (Nat.le_refl _) hn hl hr (show ∀ x ∈ _, _ from enc_small (by omega))
    rw [show cutN (LT.enc 0 t) 0 n = LT.enc 0 t by rw [← ht]; exact cutN_all t] at c
    exact c
/-- What is asked of the document's Lean here. -/
def LeanC : Prop := ∀ (v : Value) (t : LT) (w : World), SlE EN w v (LT.enc 0 t) → LT.Leans t → InR t → t.size ≤ 60 → Calls Tryd.prog 8 #[v] w fun e w' => e = .returned (.tuple #[.int .i64 0, .int .i64 (t.spine : Nat)]) ∧ Below w.heap.size w w'

set_option maxHeartbeats 4000000 in
theorem meld_left (pa pb : Option Addr) (ca cb nb : Nat) (b : LT) (w : World) (C : Hid (Calls Tryd.prog 30 #[.slice pb nb cb, .int .i64 0, .int .i64 nb] w fun e w' => ∃ u, e = .returned u ∧ OwnE EN w' w.heap.size u (LT.enc 0 b) ∧ Below w.heap.size w w')) :
    Calls Tryd.prog 12 #[.slice pa 0 ca, .slice pb nb cb] w fun e w' => ∃ u, e = .returned u ∧ OwnE EN w' w.heap.size u (LT.enc 0 b) ∧ Below w.heap.size w w' := by
  go_enter Tryd.func12, Tryd.ntmps12
  go_wp2_with fail
  refine C.out.mono ?_
  rintro e w1 ⟨u, rfl, hA, hb1⟩
  have HA : Hid (OwnE EN w1 w.heap.size u (LT.enc 0 b)) := hA
  clear hA
  go_wp2
  go_ret
  exact ⟨_, rfl, HA.out, hb1⟩
set_option maxHeartbeats 4000000 in
theorem meld_right (pa pb : Option Addr) (na ca cb : Nat) (ha : 0 < na) (a : LT) (w : World) (C : Hid (Calls Tryd.prog 30 #[.slice pa na ca, .int .i64 0, .int .i64 na] w fun e w' => ∃ u, e = .returned u ∧ OwnE EN w' w.heap.size u (LT.enc 0 a) ∧ Below w.heap.size w w')) :
    Calls Tryd.prog 12 #[.slice pa na ca, .slice pb 0 cb] w fun e w' => ∃ u, e = .returned u ∧ OwnE EN w' w.heap.size u (LT.enc 0 a) ∧ Below w.heap.size w w' := by
  have hq : ((na : Int) == 0) = false := beq_eq_false_iff_ne.2 (by omega)
  go_enter Tryd.func12, Tryd.ntmps12
  go_wp2_with fail
  refine C.out.mono ?_
  rintro e w1 ⟨u, rfl, hA, hb1⟩
  have HA : Hid (OwnE EN w1 w.heap.size u (LT.enc 0 a)) := hA
  clear hA
  go_wp2
  go_ret
  exact ⟨_, rfl, HA.out, hb1⟩

theorem exc_gb (w1 : World) (b o1 o2 : Nat) (u v : Value) : w1.grownBy (((w1.setCell ⟨b, o1, none⟩ u).setCell ⟨b, o2, none⟩ v).drew) (some b) := by
  have one : ∀ (w : World) (p : Addr) (x : Value), p.block = b → w.grownBy (w.setCell p x) (some b) := fun w p x e =>
    ⟨rfl, rfl, rfl, by rw [size_cell]; exact Nat.le_refl _, fun k _ hr => heap_setCell_other w p k x (fun q => hr (by rw [← e, q]))⟩
  have h1 := one w1 ⟨b, o1, none⟩ u rfl
  have h2 := one (w1.setCell ⟨b, o1, none⟩ u) ⟨b, o2, none⟩ v rfl
  exact ⟨h2.os.trans h1.os, h2.tape.trans h1.tape, h2.output.trans h1.output, Nat.le_trans h1.size h2.size, fun k hk hr => (h2.block k (Nat.lt_of_lt_of_le hk h1.size) hr).trans (h1.block k hk hr)⟩
theorem exc_c0 {w1 : World} {b : Nat} {u v x : Value} (h : w1.cell? ⟨b, 0, none⟩ = some x) : (((w1.setCell ⟨b, 0, none⟩ u).setCell ⟨b, 1, none⟩ v).drew).cell? ⟨b, 0, none⟩ = some u :=
  (World.cell?_setCell_other _ _ _ _ (by simp)).trans (World.cell?_setCell_same _ _ _ h)
theorem exc_c1 {w1 : World} {b : Nat} {u v x : Value} (h : w1.cell? ⟨b, 1, none⟩ = some x) : (((w1.setCell ⟨b, 0, none⟩ u).setCell ⟨b, 1, none⟩ v).drew).cell? ⟨b, 1, none⟩ = some v :=
  World.cell?_setCell_same _ _ _ ((World.cell?_setCell_other _ _ _ _ (by simp)).trans h)

set_option maxHeartbeats 16000000 in
set_option maxRecDepth 4000 in
theorem meld_second (ba oa na ca bb ob nb cb : Nat) (k i k' i' : Int) (l r l' r' : LT) (w : World) (hn : na + nb ≤ 60) (hc : k' < k) (HNA : Hid (l.size + r.size + 1 = na)) (HNB : Hid (l'.size + r'.size + 1 = nb)) (_hca : na ≤ ca) (_hcb : nb ≤ cb)
    (HRA : Hid (RdE EN w ba oa (LT.enc 0 (.node k i l r)))) (HRB : Hid (RdE EN w bb ob (LT.enc 0 (.node k' i' l' r')))) (HLA : Hid (LT.Leans (.node k i l r))) (HLB : Hid (LT.Leans (.node k' i' l' r'))) (HIA : Hid (InR (.node k i l r))) (HIB : Hid (InR (.node k' i' l' r'))) (LC : Hid LeanC)
    (IH : Hid (∀ (v : Value) (w1 : World), SlE EN w1 v (LT.enc 0 r') → SlE EN w1 (.slice (some ⟨ba, oa, none⟩) na ca) (LT.enc 0 (.node k i l r)) → Calls Tryd.prog 12 #[.slice (some ⟨ba, oa, none⟩) na ca, v] w1 fun e w' => ∃ u, e = .returned u ∧ OwnE EN w' w1.heap.size u (LT.enc 0 (LT.meld (.node k i l r) r')) ∧ Below w1.heap.size w1 w')) :
    Calls Tryd.prog 12 #[.slice (some ⟨ba, oa, none⟩) na ca, .slice (some ⟨bb, ob, none⟩) nb cb] w fun e w' => ∃ u, e = .returned u ∧ OwnE EN w' w.heap.size u (LT.enc 0 (LT.mk k' i' l' (LT.meld (.node k i l r) r'))) ∧ Below w.heap.size w w' := by
  have hna : 0 < na := by have := HNA.out; omega
  have hnb : 0 < nb := by have := HNB.out; omega
  have hqa : ((na : Int) == 0) = false := beq_eq_false_iff_ne.2 (by omega)
  have hqb : ((nb : Int) == 0) = false := beq_eq_false_iff_ne.2 (by omega)
  have hza : (0 : Int) < (na : Int) := by omega
  have hzb : (0 : Int) < (nb : Int) := by omega
  have hcd : decide (k' < k) = true := decide_eq_true hc
  have xa : (LT.enc 0 (.node k i l r))[0]? = some (k, i, LT.place 1 l, LT.place (1 + l.size) r) := by simp [LT.enc]
  have xb : (LT.enc 0 (.node k' i' l' r'))[0]? = some (k', i', LT.place 1 l', LT.place (1 + l'.size) r') := by simp [LT.enc]
  have XA : Hid _ := xa
  have XB : Hid _ := xb
  have hlA := HRA.out.1
  have hlB := HRB.out.1
  clear xa xb
  go_enter Tryd.func12, Tryd.ntmps12
  go_wp2_with fail
  have hb0 : Below w.heap.size w (w.alloc (.cells #[.int .i64 0, .int .i64 0] 24)) := (Below.refl _ _).alloc (Nat.le_refl _) _
  have k0 : (w.alloc (.cells #[.int .i64 0, .int .i64 0] 24)).cell? ⟨w.heap.size, 0, none⟩ = some (.int .i64 0) := by simp
  have k1 : (w.alloc (.cells #[.int .i64 0, .int .i64 0] 24)).cell? ⟨w.heap.size, 1, none⟩ = some (.int .i64 0) := by simp
  have f0 : (w.alloc (.cells #[.int .i64 0, .int .i64 0] 24)).frozen? ⟨w.heap.size, 0, none⟩ = false := by simp
  have f1 : (w.alloc (.cells #[.int .i64 0, .int .i64 0] 24)).frozen? ⟨w.heap.size, 1, none⟩ = false := by simp
  have hlx : w.heap.size < (w.alloc (.cells #[.int .i64 0, .int .i64 0] 24)).heap.size := by simp
  generalize w.alloc (.cells #[.int .i64 0, .int .i64 0] 24) = w0 at hb0 k0 k1 f0 f1 hlx ⊢
  have RA0 := HRA.out.below hb0 hlA
  have RB0 := HRB.out.below hb0 hlB
  obtain ⟨a0, a1, _, _⟩ := RA0.node XA.out
  obtain ⟨c0, c1, _, _⟩ := RB0.node XB.out
  simp only [Nat.zero_mul, Nat.add_zero] at a0 a1 c0 c1
  have RA0' : Hid (RdE EN w0 ba oa (LT.enc 0 (.node k i l r))) := RA0
  have RB0' : Hid (RdE EN w0 bb ob (LT.enc 0 (.node k' i' l' r'))) := RB0
  clear RA0 RB0
  go_quiet (fail)
  have hb1 : Below w.heap.size w (w0.drewN nq) := ⟨hb0.os, hb0.tape, hb0.output, hb0.size, hb0.block⟩
  have a0' : (w0.drewN nq).cell? ⟨ba, oa, none⟩ = some (.int .i64 k) := a0
  have a1' : (w0.drewN nq).cell? ⟨ba, oa + 1, none⟩ = some (.int .i64 i) := a1
  have c0' : (w0.drewN nq).cell? ⟨bb, ob, none⟩ = some (.int .i64 k') := c0
  have c1' : (w0.drewN nq).cell? ⟨bb, ob + 1, none⟩ = some (.int .i64 i') := c1
  have k0' : (w0.drewN nq).cell? ⟨w.heap.size, 0, none⟩ = some (.int .i64 0) := k0
  have k1' : (w0.drewN nq).cell? ⟨w.heap.size, 1, none⟩ = some (.int .i64 0) := k1
  have f0' : (w0.drewN nq).frozen? ⟨w.heap.size, 0, none⟩ = false := f0
  have f1' : (w0.drewN nq).frozen? ⟨w.heap.size, 1, none⟩ = false := f1
  have RA1 : Hid (RdE EN (w0.drewN nq) ba oa (LT.enc 0 (.node k i l r))) := RA0'.out
  have RB1 : Hid (RdE EN (w0.drewN nq) bb ob (LT.enc 0 (.node k' i' l' r'))) := RB0'.out
  have hlx1 : w.heap.size < (w0.drewN nq).heap.size := hlx
  clear a0 a1 c0 c1 k0 k1 f0 f1 RA0' RB0' hlx hb0
  generalize w0.drewN nq = w1 at hb1 a0' a1' c0' c1' k0' k1' f0' f1' RA1 RB1 hlx1 ⊢
  go_wp2_with fail
  go_region
  have hgs : w1.grownBy (((w1.setCell ⟨w.heap.size, 0, none⟩ (.int .i64 k')).setCell ⟨w.heap.size, 1, none⟩ (.int .i64 i')).drew) (some w.heap.size) := exc_gb _ _ _ _ _ _
  have hb2 : Below w.heap.size w (((w1.setCell ⟨w.heap.size, 0, none⟩ (.int .i64 k')).setCell ⟨w.heap.size, 1, none⟩ (.int .i64 i')).drew) := hb1.grown hgs hb1.size fun q e => by cases e; exact Nat.le_refl _
  have s0 : (((w1.setCell ⟨w.heap.size, 0, none⟩ (.int .i64 k')).setCell ⟨w.heap.size, 1, none⟩ (.int .i64 i')).drew).cell? ⟨w.heap.size, 0, none⟩ = some (.int .i64 k') := exc_c0 k0'
  have s1 : (((w1.setCell ⟨w.heap.size, 0, none⟩ (.int .i64 k')).setCell ⟨w.heap.size, 1, none⟩ (.int .i64 i')).drew).cell? ⟨w.heap.size, 1, none⟩ = some (.int .i64 i') := exc_c1 k1'
  have RA2 : Hid (RdE EN (((w1.setCell ⟨w.heap.size, 0, none⟩ (.int .i64 k')).setCell ⟨w.heap.size, 1, none⟩ (.int .i64 i')).drew) ba oa (LT.enc 0 (.node k i l r))) := RA1.out.kept hgs (by simp; omega)
  have RB2 : Hid (RdE EN (((w1.setCell ⟨w.heap.size, 0, none⟩ (.int .i64 k')).setCell ⟨w.heap.size, 1, none⟩ (.int .i64 i')).drew) bb ob (LT.enc 0 (.node k' i' l' r'))) := RB1.out.kept hgs (by simp; omega)
  have hlx2 : w.heap.size < (((w1.setCell ⟨w.heap.size, 0, none⟩ (.int .i64 k')).setCell ⟨w.heap.size, 1, none⟩ (.int .i64 i')).drew).heap.size := Nat.lt_of_lt_of_le hlx1 hgs.size
  clear a0' a1' c0' c1' k0' k1' f0' f1' RA1 RB1 hlx1 hb1 hgs
  generalize ((w1.setCell ⟨w.heap.size, 0, none⟩ (.int .i64 k')).setCell ⟨w.heap.size, 1, none⟩ (.int .i64 i')).drew = w2 at hb2 s0 s1 RA2 RB2 hlx2 ⊢
  have cl := lefts_any bb ob nb cb k' i' l' r' w2 (by omega) HNB RB2
  have CL : Hid _ := cl
  clear cl
  go_wp2_with fail
  refine Calls.mono CL.out ?_
  rintro e w3 ⟨ul, rfl, hol, hb3'⟩
  have hb3 := hb2.trans (hb3'.mono hb2.size)
  have s03 := (hb3'.cell (p := ⟨w.heap.size, 0, none⟩) hlx2).trans s0
  have s13 := (hb3'.cell (p := ⟨w.heap.size, 1, none⟩) hlx2).trans s1
  have hlx3 := Nat.lt_of_lt_of_le hlx2 hb3'.size
  have SL3 : Hid (SlE EN w3 ul (LT.enc 0 l')) := hol.sl
  have RA3 : Hid (RdE EN w3 ba oa (LT.enc 0 (.node k i l r))) := RA2.out.below hb3' RA2.out.1
  have RB3 : Hid (RdE EN w3 bb ob (LT.enc 0 (.node k' i' l' r'))) := RB2.out.below hb3' RB2.out.1
  clear hol hb3' s0 s1 hlx2 RA2 RB2 CL hb2
  have cr := rights_any bb ob nb cb k' i' l' r' w3 (by omega) HNB RB3
  have CR : Hid _ := cr
  clear cr
  go_wp2_with fail
  refine Calls.mono CR.out ?_
  rintro e w4 ⟨ur, rfl, hor, hb4'⟩
  have hb4 := hb3.trans (hb4'.mono hb3.size)
  have s04 := (hb4'.cell (p := ⟨w.heap.size, 0, none⟩) hlx3).trans s03
  have s14 := (hb4'.cell (p := ⟨w.heap.size, 1, none⟩) hlx3).trans s13
  have hlx4 := Nat.lt_of_lt_of_le hlx3 hb4'.size
  have SL4 : Hid (SlE EN w4 ul (LT.enc 0 l')) := SL3.out.below hb4'
  have SR4 : Hid (SlE EN w4 ur (LT.enc 0 r')) := hor.sl
  have R4 : Hid (RdE EN w4 ba oa (LT.enc 0 (.node k i l r))) := RA3.out.below hb4' RA3.out.1
  clear hor hb4' s03 s13 hlx3 RA3 RB3 CR hb3 SL3
  have S4 : Hid (SlE EN w4 (.slice (some ⟨ba, oa, none⟩) na ca) (LT.enc 0 (.node k i l r))) := SlE.of_rd R4.out (by rw [LT.enc_length]; exact HNA.out) _hca
  go_wp2_with fail
  refine (IH.out ur w4 SR4.out S4.out).mono ?_
  rintro e w5 ⟨um, rfl, hom, hb5'⟩
  have hb5 := hb4.trans (hb5'.mono hb4.size)
  have s05 := (hb5'.cell (p := ⟨w.heap.size, 0, none⟩) hlx4).trans s04
  have s15 := (hb5'.cell (p := ⟨w.heap.size, 1, none⟩) hlx4).trans s14
  have hlx5 := Nat.lt_of_lt_of_le hlx4 hb5'.size
  have SL5 : Hid (SlE EN w5 ul (LT.enc 0 l')) := SL4.out.below hb5'
  have SM5 : Hid (SlE EN w5 um (LT.enc 0 (LT.meld (.node k i l r) r'))) := hom.sl
  have hsz : l'.size + (LT.meld (.node k i l r) r').size ≤ 60 := by rw [LT.meld_size]; have h1 := HNA.out; have h2 := HNB.out; simp only [LT.size]; omega
  have c6 := LC.out ul l' w5 SL5.out HLB.out.2.2.2.1 HIB.out.left (by omega)
  clear hom hb5' s04 s14 hlx4 SL4 SR4 R4 S4 hb4
  obtain ⟨x, hx⟩ : ∃ x, l'.spine = x := ⟨_, rfl⟩
  obtain ⟨y, hy⟩ : ∃ y, (LT.meld (.node k i l r) r').spine = y := ⟨_, rfl⟩
  rw [hx] at c6
  have HX : Hid (l'.spine = x) := hx
  have HY : Hid ((LT.meld (.node k i l r) r').spine = y) := hy
  clear hx hy
  go_wp2_with fail
  refine c6.mono ?_
  rintro e w6 ⟨rfl, hb6'⟩
  have hb6 := hb5.trans (hb6'.mono hb5.size)
  have s06 := (hb6'.cell (p := ⟨w.heap.size, 0, none⟩) hlx5).trans s05
  have s16 := (hb6'.cell (p := ⟨w.heap.size, 1, none⟩) hlx5).trans s15
  have hlx6 := Nat.lt_of_lt_of_le hlx5 hb6'.size
  have SL6 : Hid (SlE EN w6 ul (LT.enc 0 l')) := SL5.out.below hb6'
  have SM6 : Hid (SlE EN w6 um (LT.enc 0 (LT.meld (.node k i l r) r'))) := SM5.out.below hb6'
  have c7 := LC.out um (LT.meld (.node k i l r) r') w6 SM6.out (LT.meld_leans _ _ HLA.out HLB.out.2.2.2.2) (HIA.out.meld HIB.out.right) (by omega)
  rw [HY.out] at c7
  clear hb6' s05 s15 hlx5 SL5 SM5 hb5 c6
  go_wp2_with fail
  refine c7.mono ?_
  rintro e w7 ⟨rfl, hb7'⟩
  have hb7 := hb6.trans (hb7'.mono hb6.size)
  have s07 := (hb7'.cell (p := ⟨w.heap.size, 0, none⟩) hlx6).trans s06
  have s17 := (hb7'.cell (p := ⟨w.heap.size, 1, none⟩) hlx6).trans s16
  have SL7 : Hid (SlE EN w7 ul (LT.enc 0 l')) := SL6.out.below hb7'
  have SM7 : Hid (SlE EN w7 um (LT.enc 0 (LT.meld (.node k i l r) r'))) := SM6.out.below hb7'
  clear hb7' s06 s16 hlx6 SL6 SM6 hb6 c7
  by_cases hxy : x < y
  · have hz : (x : Int) < (y : Int) := by omega
    have c8 := tree_any um ul k' i' (LT.meld (.node k i l r) r') l' w7 SM7.out SL7.out (by omega)
    have HM : Hid (LT.mk k' i' l' (LT.meld (.node k i l r) r') = .node k' i' (LT.meld (.node k i l r) r') l') := by show _ = _; unfold LT.mk; rw [HX.out, HY.out, if_pos hxy]
    have C8 : Hid _ := c8
    clear c8
    go_wp2_with fail
    refine Calls.mono C8.out ?_
    rintro e w8 ⟨u, rfl, ho, hb8'⟩
    have hb8 := hb7.trans (hb8'.mono hb7.size)
    have HO : Hid (OwnE EN w8 w.heap.size u (LT.enc 0 (LT.mk k' i' l' (LT.meld (.node k i l r) r')))) := by show OwnE _ _ _ _ _; rw [HM.out]; exact ho.weak hb7.size
    clear ho hb8'
    go_wp2
    go_ret
    exact ⟨_, rfl, HO.out, hb8⟩
  · have hz : ¬ (x : Int) < (y : Int) := by omega
    have c8 := tree_any ul um k' i' l' (LT.meld (.node k i l r) r') w7 SL7.out SM7.out (by omega)
    have HM : Hid (LT.mk k' i' l' (LT.meld (.node k i l r) r') = .node k' i' l' (LT.meld (.node k i l r) r')) := by show _ = _; unfold LT.mk; rw [HX.out, HY.out, if_neg hxy]
    have C8 : Hid _ := c8
    clear c8
    go_wp2_with fail
    refine Calls.mono C8.out ?_
    rintro e w8 ⟨u, rfl, ho, hb8'⟩
    have hb8 := hb7.trans (hb8'.mono hb7.size)
    have HO : Hid (OwnE EN w8 w.heap.size u (LT.enc 0 (LT.mk k' i' l' (LT.meld (.node k i l r) r')))) := by show OwnE _ _ _ _ _; rw [HM.out]; exact ho.weak hb7.size
    clear ho hb8'
    go_wp2
    go_ret
    exact ⟨_, rfl, HO.out, hb8⟩

set_option maxHeartbeats 16000000 in
set_option maxRecDepth 4000 in
theorem meld_first (ba oa na ca bb ob nb cb : Nat) (k i k' i' : Int) (l r l' r' : LT) (w : World) (hn : na + nb ≤ 60) (hc : ¬ k' < k) (HNA : Hid (l.size + r.size + 1 = na)) (HNB : Hid (l'.size + r'.size + 1 = nb)) (_hca : na ≤ ca) (_hcb : nb ≤ cb)
    (HRA : Hid (RdE EN w ba oa (LT.enc 0 (.node k i l r)))) (HRB : Hid (RdE EN w bb ob (LT.enc 0 (.node k' i' l' r')))) (HLA : Hid (LT.Leans (.node k i l r))) (HLB : Hid (LT.Leans (.node k' i' l' r'))) (HIA : Hid (InR (.node k i l r))) (HIB : Hid (InR (.node k' i' l' r'))) (LC : Hid LeanC)
    (IH : Hid (∀ (v : Value) (w1 : World), SlE EN w1 v (LT.enc 0 r) → SlE EN w1 (.slice (some ⟨bb, ob, none⟩) nb cb) (LT.enc 0 (.node k' i' l' r')) → Calls Tryd.prog 12 #[v, .slice (some ⟨bb, ob, none⟩) nb cb] w1 fun e w' => ∃ u, e = .returned u ∧ OwnE EN w' w1.heap.size u (LT.enc 0 (LT.meld r (.node k' i' l' r'))) ∧ Below w1.heap.size w1 w')) :
    Calls Tryd.prog 12 #[.slice (some ⟨ba, oa, none⟩) na ca, .slice (some ⟨bb, ob, none⟩) nb cb] w fun e w' => ∃ u, e = .returned u ∧ OwnE EN w' w.heap.size u (LT.enc 0 (LT.mk k i l (LT.meld r (.node k' i' l' r')))) ∧ Below w.heap.size w w' := by
  have hna : 0 < na := by have := HNA.out; omega
  have hnb : 0 < nb := by have := HNB.out; omega
  have hqa : ((na : Int) == 0) = false := beq_eq_false_iff_ne.2 (by omega)
  have hqb : ((nb : Int) == 0) = false := beq_eq_false_iff_ne.2 (by omega)
  have hza : (0 : Int) < (na : Int) := by omega
  have hzb : (0 : Int) < (nb : Int) := by omega
  have hcd : decide (k' < k) = false := decide_eq_false hc
  have xa : (LT.enc 0 (.node k i l r))[0]? = some (k, i, LT.place 1 l, LT.place (1 + l.size) r) := by simp [LT.enc]
  have xb : (LT.enc 0 (.node k' i' l' r'))[0]? = some (k', i', LT.place 1 l', LT.place (1 + l'.size) r') := by simp [LT.enc]
  have XA : Hid _ := xa
  have XB : Hid _ := xb
  have hlA := HRA.out.1
  have hlB := HRB.out.1
  clear xa xb
  go_enter Tryd.func12, Tryd.ntmps12
  go_wp2_with fail
  have hb0 : Below w.heap.size w (w.alloc (.cells #[.int .i64 0, .int .i64 0] 24)) := (Below.refl _ _).alloc (Nat.le_refl _) _
  have k0 : (w.alloc (.cells #[.int .i64 0, .int .i64 0] 24)).cell? ⟨w.heap.size, 0, none⟩ = some (.int .i64 0) := by simp
  have k1 : (w.alloc (.cells #[.int .i64 0, .int .i64 0] 24)).cell? ⟨w.heap.size, 1, none⟩ = some (.int .i64 0) := by simp
  have f0 : (w.alloc (.cells #[.int .i64 0, .int .i64 0] 24)).frozen? ⟨w.heap.size, 0, none⟩ = false := by simp
  have f1 : (w.alloc (.cells #[.int .i64 0, .int .i64 0] 24)).frozen? ⟨w.heap.size, 1, none⟩ = false := by simp
  have hlx : w.heap.size < (w.alloc (.cells #[.int .i64 0, .int .i64 0] 24)).heap.size := by simp
  generalize w.alloc (.cells #[.int .i64 0, .int .i64 0] 24) = w0 at hb0 k0 k1 f0 f1 hlx ⊢
  have RA0 := HRA.out.below hb0 hlA
  have RB0 := HRB.out.below hb0 hlB
  obtain ⟨a0, a1, _, _⟩ := RA0.node XA.out
  obtain ⟨c0, c1, _, _⟩ := RB0.node XB.out
  simp only [Nat.zero_mul, Nat.add_zero] at a0 a1 c0 c1
  have RA0' : Hid (RdE EN w0 ba oa (LT.enc 0 (.node k i l r))) := RA0
  have RB0' : Hid (RdE EN w0 bb ob (LT.enc 0 (.node k' i' l' r'))) := RB0
  clear RA0 RB0
  go_quiet (fail)
  have hb1 : Below w.heap.size w (w0.drewN nq) := ⟨hb0.os, hb0.tape, hb0.output, hb0.size, hb0.block⟩
  have a0' : (w0.drewN nq).cell? ⟨ba, oa, none⟩ = some (.int .i64 k) := a0
  have a1' : (w0.drewN nq).cell? ⟨ba, oa + 1, none⟩ = some (.int .i64 i) := a1
  have c0' : (w0.drewN nq).cell? ⟨bb, ob, none⟩ = some (.int .i64 k') := c0
  have c1' : (w0.drewN nq).cell? ⟨bb, ob + 1, none⟩ = some (.int .i64 i') := c1
  have k0' : (w0.drewN nq).cell? ⟨w.heap.size, 0, none⟩ = some (.int .i64 0) := k0
  have k1' : (w0.drewN nq).cell? ⟨w.heap.size, 1, none⟩ = some (.int .i64 0) := k1
  have f0' : (w0.drewN nq).frozen? ⟨w.heap.size, 0, none⟩ = false := f0
  have f1' : (w0.drewN nq).frozen? ⟨w.heap.size, 1, none⟩ = false := f1
  have RA1 : Hid (RdE EN (w0.drewN nq) ba oa (LT.enc 0 (.node k i l r))) := RA0'.out
  have RB1 : Hid (RdE EN (w0.drewN nq) bb ob (LT.enc 0 (.node k' i' l' r'))) := RB0'.out
  have hlx1 : w.heap.size < (w0.drewN nq).heap.size := hlx
  clear a0 a1 c0 c1 k0 k1 f0 f1 RA0' RB0' hlx hb0
  generalize w0.drewN nq = w1 at hb1 a0' a1' c0' c1' k0' k1' f0' f1' RA1 RB1 hlx1 ⊢
  go_wp2_with fail
  go_region
  have hgs : w1.grownBy (((w1.setCell ⟨w.heap.size, 0, none⟩ (.int .i64 k)).setCell ⟨w.heap.size, 1, none⟩ (.int .i64 i)).drew) (some w.heap.size) := exc_gb _ _ _ _ _ _
  have hb2 : Below w.heap.size w (((w1.setCell ⟨w.heap.size, 0, none⟩ (.int .i64 k)).setCell ⟨w.heap.size, 1, none⟩ (.int .i64 i)).drew) := hb1.grown hgs hb1.size fun q e => by cases e; exact Nat.le_refl _
  have s0 : (((w1.setCell ⟨w.heap.size, 0, none⟩ (.int .i64 k)).setCell ⟨w.heap.size, 1, none⟩ (.int .i64 i)).drew).cell? ⟨w.heap.size, 0, none⟩ = some (.int .i64 k) := exc_c0 k0'
  have s1 : (((w1.setCell ⟨w.heap.size, 0, none⟩ (.int .i64 k)).setCell ⟨w.heap.size, 1, none⟩ (.int .i64 i)).drew).cell? ⟨w.heap.size, 1, none⟩ = some (.int .i64 i) := exc_c1 k1'
  have RA2 : Hid (RdE EN (((w1.setCell ⟨w.heap.size, 0, none⟩ (.int .i64 k)).setCell ⟨w.heap.size, 1, none⟩ (.int .i64 i)).drew) ba oa (LT.enc 0 (.node k i l r))) := RA1.out.kept hgs (by simp; omega)
  have RB2 : Hid (RdE EN (((w1.setCell ⟨w.heap.size, 0, none⟩ (.int .i64 k)).setCell ⟨w.heap.size, 1, none⟩ (.int .i64 i)).drew) bb ob (LT.enc 0 (.node k' i' l' r'))) := RB1.out.kept hgs (by simp; omega)
  have hlx2 : w.heap.size < (((w1.setCell ⟨w.heap.size, 0, none⟩ (.int .i64 k)).setCell ⟨w.heap.size, 1, none⟩ (.int .i64 i)).drew).heap.size := Nat.lt_of_lt_of_le hlx1 hgs.size
  clear a0' a1' c0' c1' k0' k1' f0' f1' RA1 RB1 hlx1 hb1 hgs
  generalize ((w1.setCell ⟨w.heap.size, 0, none⟩ (.int .i64 k)).setCell ⟨w.heap.size, 1, none⟩ (.int .i64 i)).drew = w2 at hb2 s0 s1 RA2 RB2 hlx2 ⊢
  have cl := lefts_any ba oa na ca k i l r w2 (by omega) HNA RA2
  have CL : Hid _ := cl
  clear cl
  go_wp2_with fail
  refine Calls.mono CL.out ?_
  rintro e w3 ⟨ul, rfl, hol, hb3'⟩
  have hb3 := hb2.trans (hb3'.mono hb2.size)
  have s03 := (hb3'.cell (p := ⟨w.heap.size, 0, none⟩) hlx2).trans s0
  have s13 := (hb3'.cell (p := ⟨w.heap.size, 1, none⟩) hlx2).trans s1
  have hlx3 := Nat.lt_of_lt_of_le hlx2 hb3'.size
  have SL3 : Hid (SlE EN w3 ul (LT.enc 0 l)) := hol.sl
  have RA3 : Hid (RdE EN w3 ba oa (LT.enc 0 (.node k i l r))) := RA2.out.below hb3' RA2.out.1
  have RB3 : Hid (RdE EN w3 bb ob (LT.enc 0 (.node k' i' l' r'))) := RB2.out.below hb3' RB2.out.1
  clear hol hb3' s0 s1 hlx2 RA2 RB2 CL hb2
  have cr := rights_any ba oa na ca k i l r w3 (by omega) HNA RA3
  have CR : Hid _ := cr
  clear cr
  go_wp2_with fail
  refine Calls.mono CR.out ?_
  rintro e w4 ⟨ur, rfl, hor, hb4'⟩
  have hb4 := hb3.trans (hb4'.mono hb3.size)
  have s04 := (hb4'.cell (p := ⟨w.heap.size, 0, none⟩) hlx3).trans s03
  have s14 := (hb4'.cell (p := ⟨w.heap.size, 1, none⟩) hlx3).trans s13
  have hlx4 := Nat.lt_of_lt_of_le hlx3 hb4'.size
  have SL4 : Hid (SlE EN w4 ul (LT.enc 0 l)) := SL3.out.below hb4'
  have SR4 : Hid (SlE EN w4 ur (LT.enc 0 r)) := hor.sl
  have R4 : Hid (RdE EN w4 bb ob (LT.enc 0 (.node k' i' l' r'))) := RB3.out.below hb4' RB3.out.1
  clear hor hb4' s03 s13 hlx3 RA3 RB3 CR hb3 SL3
  have S4 : Hid (SlE EN w4 (.slice (some ⟨bb, ob, none⟩) nb cb) (LT.enc 0 (.node k' i' l' r'))) := SlE.of_rd R4.out (by rw [LT.enc_length]; exact HNB.out) _hcb
  go_wp2_with fail
  refine (IH.out ur w4 SR4.out S4.out).mono ?_
  rintro e w5 ⟨um, rfl, hom, hb5'⟩
  have hb5 := hb4.trans (hb5'.mono hb4.size)
  have s05 := (hb5'.cell (p := ⟨w.heap.size, 0, none⟩) hlx4).trans s04
  have s15 := (hb5'.cell (p := ⟨w.heap.size, 1, none⟩) hlx4).trans s14
  have hlx5 := Nat.lt_of_lt_of_le hlx4 hb5'.size
  have SL5 : Hid (SlE EN w5 ul (LT.enc 0 l)) := SL4.out.below hb5'
  have SM5 : Hid (SlE EN w5 um (LT.enc 0 (LT.meld r (.node k' i' l' r')))) := hom.sl
  have hsz : l.size + (LT.meld r (.node k' i' l' r')).size ≤ 60 := by rw [LT.meld_size]; have h1 := HNA.out; have h2 := HNB.out; simp only [LT.size]; omega
  have c6 := LC.out ul l w5 SL5.out HLA.out.2.2.2.1 HIA.out.left (by omega)
  clear hom hb5' s04 s14 hlx4 SL4 SR4 R4 S4 hb4
  obtain ⟨x, hx⟩ : ∃ x, l.spine = x := ⟨_, rfl⟩
  obtain ⟨y, hy⟩ : ∃ y, (LT.meld r (.node k' i' l' r')).spine = y := ⟨_, rfl⟩
  rw [hx] at c6
  have HX : Hid (l.spine = x) := hx
  have HY : Hid ((LT.meld r (.node k' i' l' r')).spine = y) := hy
  clear hx hy
  go_wp2_with fail
  refine c6.mono ?_
  rintro e w6 ⟨rfl, hb6'⟩
  have hb6 := hb5.trans (hb6'.mono hb5.size)
  have s06 := (hb6'.cell (p := ⟨w.heap.size, 0, none⟩) hlx5).trans s05
  have s16 := (hb6'.cell (p := ⟨w.heap.size, 1, none⟩) hlx5).trans s15
  have hlx6 := Nat.lt_of_lt_of_le hlx5 hb6'.size
  have SL6 : Hid (SlE EN w6 ul (LT.enc 0 l)) := SL5.out.below hb6'
  have SM6 : Hid (SlE EN w6 um (LT.enc 0 (LT.meld r (.node k' i' l' r')))) := SM5.out.below hb6'
  have c7 := LC.out um (LT.meld r (.node k' i' l' r')) w6 SM6.out (LT.meld_leans _ _ HLA.out.2.2.2.2 HLB.out) (HIA.out.right.meld HIB.out) (by omega)
  rw [HY.out] at c7
  clear hb6' s05 s15 hlx5 SL5 SM5 hb5 c6
  go_wp2_with fail
  refine c7.mono ?_
  rintro e w7 ⟨rfl, hb7'⟩
  have hb7 := hb6.trans (hb7'.mono hb6.size)
  have s07 := (hb7'.cell (p := ⟨w.heap.size, 0, none⟩) hlx6).trans s06
  have s17 := (hb7'.cell (p := ⟨w.heap.size, 1, none⟩) hlx6).trans s16
  have SL7 : Hid (SlE EN w7 ul (LT.enc 0 l)) := SL6.out.below hb7'
  have SM7 : Hid (SlE EN w7 um (LT.enc 0 (LT.meld r (.node k' i' l' r')))) := SM6.out.below hb7'
  clear hb7' s06 s16 hlx6 SL6 SM6 hb6 c7
  by_cases hxy : x < y
  · have hz : (x : Int) < (y : Int) := by omega
    have c8 := tree_any um ul k i (LT.meld r (.node k' i' l' r')) l w7 SM7.out SL7.out (by omega)
    have HM : Hid (LT.mk k i l (LT.meld r (.node k' i' l' r')) = .node k i (LT.meld r (.node k' i' l' r')) l) := by show _ = _; unfold LT.mk; rw [HX.out, HY.out, if_pos hxy]
    have C8 : Hid _ := c8
    clear c8
    go_wp2_with fail
    refine Calls.mono C8.out ?_
    rintro e w8 ⟨u, rfl, ho, hb8'⟩
    have hb8 := hb7.trans (hb8'.mono hb7.size)
    have HO : Hid (OwnE EN w8 w.heap.size u (LT.enc 0 (LT.mk k i l (LT.meld r (.node k' i' l' r'))))) := by show OwnE _ _ _ _ _; rw [HM.out]; exact ho.weak hb7.size
    clear ho hb8'
    go_wp2
    go_ret
    exact ⟨_, rfl, HO.out, hb8⟩
  · have hz : ¬ (x : Int) < (y : Int) := by omega
    have c8 := tree_any ul um k i l (LT.meld r (.node k' i' l' r')) w7 SL7.out SM7.out (by omega)
    have HM : Hid (LT.mk k i l (LT.meld r (.node k' i' l' r')) = .node k i l (LT.meld r (.node k' i' l' r'))) := by show _ = _; unfold LT.mk; rw [HX.out, HY.out, if_neg hxy]
    have C8 : Hid _ := c8
    clear c8
    go_wp2_with fail
    refine Calls.mono C8.out ?_
    rintro e w8 ⟨u, rfl, ho, hb8'⟩
    have hb8 := hb7.trans (hb8'.mono hb7.size)
    have HO : Hid (OwnE EN w8 w.heap.size u (LT.enc 0 (LT.mk k i l (LT.meld r (.node k' i' l' r'))))) := by show OwnE _ _ _ _ _; rw [HM.out]; exact ho.weak hb7.size
    clear ho hb8'
    go_wp2
    go_ret
    exact ⟨_, rfl, HO.out, hb8⟩

theorem meld_any (LC : LeanC) : ∀ (m : Nat) (a b : LT) (u v : Value) (w : World), a.size + b.size ≤ m → a.size + b.size ≤ 60 → LT.Leans a → LT.Leans b → InR a → InR b → SlE EN w u (LT.enc 0 a) → SlE EN w v (LT.enc 0 b) →
    Calls Tryd.prog 12 #[u, v] w fun e w' => ∃ r, e = .returned r ∧ OwnE EN w' w.heap.size r (LT.enc 0 (LT.meld a b)) ∧ Below w.heap.size w w' := by
  intro m
  induction m with
  | zero =>
    intro a b u v w hm h60 _ _ _ _ hu hv
    have ea := LT.size_zero (t := a) (by omega)
    have eb := LT.size_zero (t := b) (by omega)
    subst ea; subst eb
    obtain ⟨pa, ca, rfl, _, _⟩ := id hu
    obtain ⟨pb, cb, rfl, _, _⟩ := id hv
    rw [LT.meld_nil_left]
    exact meld_left pa pb ca cb 0 .nil w (part_all pb 0 cb .nil w hv rfl (by omega))
  | succ m ih =>
    intro a b u v w hm h60 la lb ia ib hu hv
    obtain ⟨pa, ca, rfl, hca, _⟩ := id hu
    obtain ⟨pb, cb, rfl, hcb, _⟩ := id hv
    rw [LT.enc_length] at hu hca ⊢
    rw [LT.enc_length] at hv hcb ⊢
    cases a using LT.parts with
    | nil =>
      rw [LT.meld_nil_left]
      exact meld_left pa pb ca cb b.size b w (part_all pb b.size cb b w hv rfl (by omega))
    | node k i l r =>
      cases b using LT.parts with
      | nil =>
        rw [LT.meld_nil_right]
        exact meld_right pa pb _ ca cb (by simp [LT.size]) _ w (part_all pa _ ca _ w hu rfl (by omega))
      | node k' i' l' r' =>
        have n1 : (LT.node k i l r).size = l.size + r.size + 1 := rfl
        have n2 : (LT.node k' i' l' r').size = l'.size + r'.size + 1 := rfl
        obtain ⟨ba, oa, rfl, _, _, ra⟩ := hu.some (by omega)
        obtain ⟨bb, ob, rfl, _, _, rb⟩ := hv.some (by omega)
        by_cases hc : k' < k
        · rw [LT.meld_gt hc]
          exact meld_second ba oa _ ca bb ob _ cb k i k' i' l r l' r' w h60 hc rfl rfl hca hcb ra rb la lb ia ib LC
            (show ∀ (v : Value) (w1 : World), _ → _ → _ from fun v w1 h1 h2 => ih (.node k i l r) r' _ v w1 (by omega) (by omega) la lb.2.2.2.2 ia ib.right h2 h1)
        · rw [LT.meld_le hc]
          exact meld_first ba oa _ ca bb ob _ cb k i k' i' l r l' r' w h60 hc rfl rfl hca hcb ra rb la lb ia ib LC
            (show ∀ (v : Value) (w1 : World), _ → _ → _ from fun v w1 h1 h2 => ih r (.node k' i' l' r') v _ w1 (by omega) (by omega) la.2.2.2.2 lb ia.right ib h1 h2)
#print axioms meld_any
end Go.Proofs.YtoaabpoicacogaaDoor
