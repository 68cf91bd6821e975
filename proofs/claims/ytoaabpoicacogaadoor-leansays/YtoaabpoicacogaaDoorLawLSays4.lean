/-
  The law LeanSays, walked: some ways more.
-/
import Derived.Test.YtoaabpoicacogaaDoorLawLSays1
namespace Go.Proofs.YtoaabpoicacogaaDoor
open Go.RowKit Go.Sort Go.Proofs

set_option maxHeartbeats 32000000 in
set_option maxRecDepth 4000 in
theorem leanSays_12 (p' : Option Addr) (n cap n' cap' m m2 nM m3 nR blk off : Nat) (x0 x1 y0 y1 : Int) (DM R : List Nd) (w : World) (_hbig : n ≤ 9223372036854775807) (_hbig' : n' ≤ 9223372036854775807) (hw : IntKind.i64.wrap ((n : Int) + (n' : Int)) = (n : Int) + (n' : Int)) (hz : ¬ (60 : Int) < (n : Int) + (n' : Int)) (hn0 : ((n : Int) == 0) = false) (hnz : (0 : Int) < (n : Int)) (HL : Hid (∀ w1, Below (w.alloc (.cells #[.int .i64 x0, .int .i64 x1] 24)).heap.size (w.alloc (.cells #[.int .i64 x0, .int .i64 x1] 24)) w1 → w1.cell? ⟨blk, off, none⟩ = some (.int .i64 y0) ∧ w1.cell? ⟨blk, off + 1, none⟩ = some (.int .i64 y1)))
    (CE0 : Hid (∀ w1, Below (w.alloc (.cells #[.int .i64 x0, .int .i64 x1] 24)).heap.size (w.alloc (.cells #[.int .i64 x0, .int .i64 x1] 24)) w1 → Calls Tryd.prog 9 #[.nilIface, .int .i64 0] w1 fun e w' => e = .returned (.bool true) ∧ Below w1.heap.size w1 w'))
    (CN0 : Hid (∀ w1, Below (w.alloc (.cells #[.int .i64 x0, .int .i64 x1] 24)).heap.size (w.alloc (.cells #[.int .i64 x0, .int .i64 x1] 24)) w1 → Calls Tryd.prog 14 #[.slice none 0 0, .slice none 0 0] w1 fun e w' => e = .returned (.bool true) ∧ Below w1.heap.size w1 w'))
    (CRA : Hid (∀ w1, Below (w.alloc (.cells #[.int .i64 x0, .int .i64 x1] 24)).heap.size (w.alloc (.cells #[.int .i64 x0, .int .i64 x1] 24)) w1 → Calls Tryd.prog 8 #[.slice (some ⟨blk, off, none⟩) n cap] w1 fun e w' => e = .returned (.tuple #[.int .i64 0, .int .i64 m]) ∧ Below w1.heap.size w1 w'))
    (CK : Hid (∀ w1, Below (w.alloc (.cells #[.int .i64 x0, .int .i64 x1] 24)).heap.size (w.alloc (.cells #[.int .i64 x0, .int .i64 x1] 24)) w1 → Calls Tryd.prog 10 #[.slice (some ⟨blk, off, none⟩) n cap] w1 fun e w' => e = .returned (.nilIface) ∧ Below w1.heap.size w1 w'))
    (CSP : Hid (∀ w1, Below (w.alloc (.cells #[.int .i64 x0, .int .i64 x1] 24)).heap.size (w.alloc (.cells #[.int .i64 x0, .int .i64 x1] 24)) w1 → Calls Tryd.prog 11 #[.slice (some ⟨blk, off, none⟩) n cap] w1 fun e w' => e = .returned (.tuple #[.int .i64 m, .nilIface]) ∧ Below w1.heap.size w1 w'))
    (CRB : Hid (∀ w1, Below (w.alloc (.cells #[.int .i64 x0, .int .i64 x1] 24)).heap.size (w.alloc (.cells #[.int .i64 x0, .int .i64 x1] 24)) w1 → Calls Tryd.prog 8 #[.slice p' n' cap'] w1 fun e w' => e = .returned (.tuple #[.int .i64 0, .int .i64 m2]) ∧ Below w1.heap.size w1 w'))
    (CRM : Hid (∀ w1, Below (w.alloc (.cells #[.int .i64 x0, .int .i64 x1] 24)).heap.size (w.alloc (.cells #[.int .i64 x0, .int .i64 x1] 24)) w1 → Calls Tryd.prog 12 #[.slice (some ⟨blk, off, none⟩) n cap, .slice p' n' cap'] w1 fun e w' => ∃ u, e = .returned u ∧ SlE EN w' u DM ∧ Below w1.heap.size w1 w'))
    (CM : Hid (∀ w1, Below (w.alloc (.cells #[.int .i64 x0, .int .i64 x1] 24)).heap.size (w.alloc (.cells #[.int .i64 x0, .int .i64 x1] 24)) w1 → Calls Tryd.prog 13 #[.slice (some ⟨blk, off, none⟩) n cap, .slice p' n' cap'] w1 fun e w' => ∃ p c, e = .returned (.tuple #[.slice p nM c, .nilIface]) ∧ SlE EN w' (.slice p nM c) DM ∧ Below w1.heap.size w1 w'))
    (CNM : Hid (∀ w1 p c u, SlE EN w1 (.slice p nM c) DM → SlE EN w1 u DM → Calls Tryd.prog 14 #[.slice p nM c, u] w1 fun e w' => e = .returned (.bool true) ∧ Below w1.heap.size w1 w'))
    (CRX : Hid (∀ w1 g, SlE EN w1 (.slice (some ⟨g, 0, none⟩) 1 1) (aloneN x0 x1) → Calls Tryd.prog 8 #[.slice (some ⟨g, 0, none⟩) 1 1] w1 fun e w' => e = .returned (.tuple #[.int .i64 1, .int .i64 m3]) ∧ Below w1.heap.size w1 w'))
    (CE1 : Hid (∀ w1, Below (w.alloc (.cells #[.int .i64 x0, .int .i64 x1] 24)).heap.size (w.alloc (.cells #[.int .i64 x0, .int .i64 x1] 24)) w1 → Calls Tryd.prog 9 #[.iface 56 (.int .i64 1), .int .i64 1] w1 fun e w' => e = .returned (.bool true) ∧ Below w1.heap.size w1 w'))
    (CP : Hid (∀ w1, Below (w.alloc (.cells #[.int .i64 x0, .int .i64 x1] 24)).heap.size (w.alloc (.cells #[.int .i64 x0, .int .i64 x1] 24)) w1 → Calls Tryd.prog 15 #[.slice (some ⟨blk, off, none⟩) n cap, .agg #[.int .i64 x0, .int .i64 x1]] w1 fun e w' => e = .returned (.tuple #[.slice none 0 0, .iface 56 (.int .i64 1)]) ∧ Below w1.heap.size w1 w'))
    (CRO : Hid (∀ w1, Below (w.alloc (.cells #[.int .i64 x0, .int .i64 x1] 24)).heap.size (w.alloc (.cells #[.int .i64 x0, .int .i64 x1] 24)) w1 → Calls Tryd.prog 16 #[.slice (some ⟨blk, off, none⟩) n cap] w1 fun e w' => ∃ u, e = .returned u ∧ OwnE EN w' w1.heap.size u R ∧ Below w1.heap.size w1 w'))
    (CO : Hid (∀ w1, Below (w.alloc (.cells #[.int .i64 x0, .int .i64 x1] 24)).heap.size (w.alloc (.cells #[.int .i64 x0, .int .i64 x1] 24)) w1 → Calls Tryd.prog 17 #[.slice (some ⟨blk, off, none⟩) n cap] w1 fun e w' => ∃ p c, e = .returned (.tuple #[.agg #[.int .i64 y0, .int .i64 y1], .slice p nR c, .nilIface]) ∧ SlE EN w' (.slice p nR c) R ∧ Below w1.heap.size w1 w'))
    (CNR : Hid (∀ w1 p c u, SlE EN w1 (.slice p nR c) R → SlE EN w1 u R → Calls Tryd.prog 14 #[.slice p nR c, u] w1 fun e w' => e = .returned (.bool true) ∧ Below w1.heap.size w1 w')) :
    Calls Tryd.prog 3 #[.slice (some ⟨blk, off, none⟩) n cap, .slice p' n' cap', .agg #[.int .i64 x0, .int .i64 x1]] w fun e w' => e = .returned (.bool true) ∧ Below w.heap.size w w' := by
  have ke : ∀ w, Sem.run Tryd.prog (Op.equalIn 10000 24 (.agg #[.int .i64 y0, .int .i64 y1]) (.agg #[.int .i64 y0, .int .i64 y1])) w = .ok true w := fun w => by have := equalIn_item y0 y1 y0 y1 w; simpa using this
  have kq : ∀ w, Sem.run Tryd.prog (binOp .eql 24 (.agg #[.int .i64 y0, .int .i64 y1]) (.agg #[.int .i64 y0, .int .i64 y1])) w = .ok (.bool true) w := fun w => by have := eql_item y0 y1 y0 y1 w; simpa using this
  have kg := guard_item
  go_enter Tryd.func3, Tryd.ntmps3
  have hb1 : Below (w.alloc (.cells #[.int .i64 x0, .int .i64 x1] 24)).heap.size (w.alloc (.cells #[.int .i64 x0, .int .i64 x1] 24)) (w.alloc (.cells #[.int .i64 x0, .int .i64 x1] 24)) := Below.refl _ _
  go_wp2_with fail
  refine (CRA.out (w.alloc (.cells #[.int .i64 x0, .int .i64 x1] 24)) hb1).mono ?_
  rintro e w2 ⟨rfl, hb'⟩
  have hb2 := hb1.trans (hb'.mono hb1.size)
  clear hb' hb1
  go_wp2_with fail
  refine (CK.out w2 hb2).mono ?_
  rintro e w3 ⟨rfl, hb'⟩
  have hb3 := hb2.trans (hb'.mono hb2.size)
  clear hb' hb2
  go_wp2_with fail
  refine (CE0.out w3 hb3).mono ?_
  rintro e w4 ⟨rfl, hb'⟩
  have hb4 := hb3.trans (hb'.mono hb3.size)
  clear hb' hb3
  go_wp2_with fail
  refine (CSP.out w4 hb4).mono ?_
  rintro e w5 ⟨rfl, hb'⟩
  have hb5 := hb4.trans (hb'.mono hb4.size)
  clear hb' hb4
  go_wp2_with fail
  refine (CE0.out w5 hb5).mono ?_
  rintro e w6 ⟨rfl, hb'⟩
  have hb6 := hb5.trans (hb'.mono hb5.size)
  clear hb' hb5
  go_wp2_with fail
  refine (CRB.out w6 hb6).mono ?_
  rintro e w7 ⟨rfl, hb'⟩
  have hb7 := hb6.trans (hb'.mono hb6.size)
  clear hb' hb6
  go_wp2_with fail
  refine (CRM.out w7 hb7).mono ?_
  rintro e w8 ⟨um, rfl, hsl, hb'⟩
  have hb8 := hb7.trans (hb'.mono hb7.size)
  have Hum8 : Hid (SlE EN w8 (um) (DM)) := hsl
  clear hsl
  clear hb' hb7
  go_wp2_with fail
  refine (CM.out w8 hb8).mono ?_
  rintro e w9 ⟨pm, cm, rfl, hsl, hb'⟩
  have hb9 := hb8.trans (hb'.mono hb8.size)
  have Hum9 : Hid (SlE EN w9 (um) (DM)) := Hum8.out.below hb'
  clear Hum8
  have Hvm9 : Hid (SlE EN w9 (.slice pm nM cm) (DM)) := hsl
  clear hsl
  clear hb' hb8
  go_wp2_with fail
  refine (CE0.out w9 hb9).mono ?_
  rintro e w10 ⟨rfl, hb'⟩
  have hb10 := hb9.trans (hb'.mono hb9.size)
  have Hum10 : Hid (SlE EN w10 (um) (DM)) := Hum9.out.below hb'
  clear Hum9
  have Hvm10 : Hid (SlE EN w10 (.slice pm nM cm) (DM)) := Hvm9.out.below hb'
  clear Hvm9
  clear hb' hb9
  go_wp2_with fail
  refine (CNM.out w10 pm cm um Hvm10.out Hum10.out).mono ?_
  rintro e w11 ⟨rfl, hb'⟩
  have hb11 := hb10.trans (hb'.mono hb10.size)
  have Hum11 : Hid (SlE EN w11 (um) (DM)) := Hum10.out.below hb'
  clear Hum10
  have Hvm11 : Hid (SlE EN w11 (.slice pm nM cm) (DM)) := Hvm10.out.below hb'
  clear Hvm10
  clear hb' hb10
  clear Hum11
  clear Hvm11
  obtain ⟨b0, b1, hlt, _⟩ := lbox hb11
  have hbal : Below (w.alloc (.cells #[.int .i64 x0, .int .i64 x1] 24)).heap.size (w.alloc (.cells #[.int .i64 x0, .int .i64 x1] 24)) (w11.alloc (.cells #[.int .i64 x0, .int .i64 x1, .int .i64 (-1), .int .i64 (-1)] 38)) := hb11.alloc hb11.size _
  have Hal : Hid (SlE EN (w11.alloc (.cells #[.int .i64 x0, .int .i64 x1, .int .i64 (-1), .int .i64 (-1)] 38)) (.slice (some ⟨w11.heap.size, 0, none⟩) 1 1) (aloneN x0 x1)) := alone_sl w11 x0 x1 _ rfl
  go_wp2_with fail
  refine (CRX.out _ _ Hal.out).mono ?_
  rintro e w12 ⟨rfl, hb'⟩
  have hb12 := hbal.trans (hb'.mono hbal.size)
  have Hal12 : Hid (SlE EN w12 (.slice (some ⟨w11.heap.size, 0, none⟩) 1 1) (aloneN x0 x1)) := Hal.out.below hb'
  clear hb' hbal Hal
  clear b0 b1 hlt
  generalize w11.heap.size = ga at Hal12 ⊢
  clear hb11
  obtain ⟨b0, b1, hlt, _⟩ := lbox hb12
  go_wp2_with fail
  refine (CP.out w12 hb12).mono ?_
  rintro e w13 ⟨rfl, hb'⟩
  have hb13 := hb12.trans (hb'.mono hb12.size)
  have Hal13 : Hid (SlE EN w13 (.slice (some ⟨ga, 0, none⟩) 1 1) (aloneN x0 x1)) := Hal12.out.below hb'
  clear Hal12
  clear hb' hb12
  clear b0 b1 hlt
  clear Hal13
  go_wp2_with fail
  refine (CE1.out w13 hb13).mono ?_
  rintro e w14 ⟨rfl, hb'⟩
  have hb14 := hb13.trans (hb'.mono hb13.size)
  clear hb' hb13
  go_wp2_with fail
  refine (CN0.out w14 hb14).mono ?_
  rintro e w15 ⟨rfl, hb'⟩
  have hb15 := hb14.trans (hb'.mono hb14.size)
  clear hb' hb14
  have hba : Below (w.alloc (.cells #[.int .i64 x0, .int .i64 x1] 24)).heap.size (w.alloc (.cells #[.int .i64 x0, .int .i64 x1] 24)) (w15.alloc (.cells #[.int .i64 0, .int .i64 0] 24)) := hb15.alloc hb15.size _
  have hA0 : (w15.alloc (.cells #[.int .i64 0, .int .i64 0] 24)).cell? ⟨w15.heap.size, 0, none⟩ = some (.int .i64 0) := by simp
  have hA1 : (w15.alloc (.cells #[.int .i64 0, .int .i64 0] 24)).cell? ⟨w15.heap.size, 1, none⟩ = some (.int .i64 0) := by simp
  have hAl : w15.heap.size < (w15.alloc (.cells #[.int .i64 0, .int .i64 0] 24)).heap.size := by simp
  have hAf0 : (w15.alloc (.cells #[.int .i64 0, .int .i64 0] 24)).frozen? ⟨w15.heap.size, 0, none⟩ = false := by simp
  have hAf1 : (w15.alloc (.cells #[.int .i64 0, .int .i64 0] 24)).frozen? ⟨w15.heap.size, 1, none⟩ = false := by simp
  go_wp2_with fail
  refine (CRO.out _ hba).mono ?_
  rintro e wr ⟨u4, rfl, hsl, hb'⟩
  have hbr := hba.trans (hb'.mono hba.size)
  have Hu4 : Hid (OwnE EN wr (w15.alloc (.cells #[.int .i64 0, .int .i64 0] 24)).heap.size u4 R) := hsl
  have f0 := (hb'.cell (p := ⟨w15.heap.size, 0, none⟩) hAl).trans hA0
  have f1 := (hb'.cell (p := ⟨w15.heap.size, 1, none⟩) hAl).trans hA1
  have fz0 := (World.frozen?_of_block (a := ⟨w15.heap.size, 0, none⟩) (hb'.block w15.heap.size hAl)).trans hAf0
  have fz1 := (World.frozen?_of_block (a := ⟨w15.heap.size, 1, none⟩) (hb'.block w15.heap.size hAl)).trans hAf1
  have fl : w15.heap.size < wr.heap.size := Nat.lt_of_lt_of_le hAl hb'.size
  have HF : Hid (w15.heap.size < (w15.alloc (.cells #[.int .i64 0, .int .i64 0] 24)).heap.size) := hAl
  have hbF : (w.alloc (.cells #[.int .i64 x0, .int .i64 x1] 24)).heap.size ≤ w15.heap.size := hb15.size
  obtain ⟨l0, l1⟩ := HL.out wr hbr
  clear hb' hA0 hA1 hAl hba hAf0 hAf1 hsl
  have hgs : wr.grownBy ((wr.setCell ⟨w15.heap.size, 0, none⟩ (.int .i64 y0)).setCell ⟨w15.heap.size, 1, none⟩ (.int .i64 y1)).drew (some w15.heap.size) := gb_drewN (gb_set (World.grownBy.refl _ _) _ _ _ _) 1
  have hbs : Below (w.alloc (.cells #[.int .i64 x0, .int .i64 x1] 24)).heap.size (w.alloc (.cells #[.int .i64 x0, .int .i64 x1] 24)) ((wr.setCell ⟨w15.heap.size, 0, none⟩ (.int .i64 y0)).setCell ⟨w15.heap.size, 1, none⟩ (.int .i64 y1)).drew := below_gb hbr hgs hbF hbr.size
  have Hu5 : Hid (SlE EN ((wr.setCell ⟨w15.heap.size, 0, none⟩ (.int .i64 y0)).setCell ⟨w15.heap.size, 1, none⟩ (.int .i64 y1)).drew u4 R) := own_apart Hu4.out hgs HF.out
  have s0 : ((wr.setCell ⟨w15.heap.size, 0, none⟩ (.int .i64 y0)).setCell ⟨w15.heap.size, 1, none⟩ (.int .i64 y1)).drew.cell? ⟨w15.heap.size, 0, none⟩ = some (.int .i64 y0) := (World.cell?_setCell_other _ _ _ _ (by simp)).trans (World.cell?_setCell_same _ _ _ f0)
  have s1 : ((wr.setCell ⟨w15.heap.size, 0, none⟩ (.int .i64 y0)).setCell ⟨w15.heap.size, 1, none⟩ (.int .i64 y1)).drew.cell? ⟨w15.heap.size, 1, none⟩ = some (.int .i64 y1) := World.cell?_setCell_same _ _ _ ((World.cell?_setCell_other _ _ _ _ (by simp)).trans f1)
  have sl : w15.heap.size < ((wr.setCell ⟨w15.heap.size, 0, none⟩ (.int .i64 y0)).setCell ⟨w15.heap.size, 1, none⟩ (.int .i64 y1)).drew.heap.size := by show w15.heap.size < ((wr.setCell ⟨w15.heap.size, 0, none⟩ (.int .i64 y0)).setCell ⟨w15.heap.size, 1, none⟩ (.int .i64 y1)).heap.size; rw [size_setCell, size_setCell]; exact fl
  clear hgs Hu4 HF
  go_wp2_with fail
  go_region
  clear f0 f1 fz0 fz1 fl l0 l1 hbr
  go_wp2_with fail
  generalize ((wr.setCell ⟨w15.heap.size, 0, none⟩ (.int .i64 y0)).setCell ⟨w15.heap.size, 1, none⟩ (.int .i64 y1)).drew = ws at hbs Hu5 s0 s1 sl ⊢
  refine (CO.out _ hbs).mono ?_
  rintro e wp ⟨p6, c6, rfl, hsl, hb'⟩
  have hbp := hbs.trans (hb'.mono hbs.size)
  have f0 := (hb'.cell (p := ⟨w15.heap.size, 0, none⟩) sl).trans s0
  have f1 := (hb'.cell (p := ⟨w15.heap.size, 1, none⟩) sl).trans s1
  have fl : w15.heap.size < wp.heap.size := Nat.lt_of_lt_of_le sl hb'.size
  have Hg6 : Hid (SlE EN wp (.slice p6 nR c6) R) := hsl
  have Hu6 : Hid (SlE EN wp u4 R) := Hu5.out.below hb'
  clear hb' s0 s1 sl hbs Hu5 hsl
  have hby' : Below wp.heap.size wp (wp.alloc (.cells #[.int .i64 y0, .int .i64 y1] 24)) := (Below.refl _ _).alloc (Nat.le_refl _) _
  have hby : Below (w.alloc (.cells #[.int .i64 x0, .int .i64 x1] 24)).heap.size (w.alloc (.cells #[.int .i64 x0, .int .i64 x1] 24)) (wp.alloc (.cells #[.int .i64 y0, .int .i64 y1] 24)) := hbp.alloc hbp.size _
  have e0 := (hby'.cell (p := ⟨w15.heap.size, 0, none⟩) fl).trans f0
  have e1 := (hby'.cell (p := ⟨w15.heap.size, 1, none⟩) fl).trans f1
  have q0 : (wp.alloc (.cells #[.int .i64 y0, .int .i64 y1] 24)).cell? ⟨wp.heap.size, 0, none⟩ = some (.int .i64 y0) := by simp
  have q1 : (wp.alloc (.cells #[.int .i64 y0, .int .i64 y1] 24)).cell? ⟨wp.heap.size, 1, none⟩ = some (.int .i64 y1) := by simp
  have ql : wp.heap.size < (wp.alloc (.cells #[.int .i64 y0, .int .i64 y1] 24)).heap.size := by simp
  have Hg7 : Hid (SlE EN (wp.alloc (.cells #[.int .i64 y0, .int .i64 y1] 24)) (.slice p6 nR c6) R) := Hg6.out.below hby'
  have Hu7 : Hid (SlE EN (wp.alloc (.cells #[.int .i64 y0, .int .i64 y1] 24)) u4 R) := Hu6.out.below hby'
  clear Hg6 Hu6
  clear f0 f1 hby'
  go_wp2_with fail
  refine (CE0.out _ hby).mono ?_
  rintro e we ⟨rfl, hb'⟩
  have hbe := hby.trans (hb'.mono hby.size)
  have z0 := (hb'.cell (p := ⟨w15.heap.size, 0, none⟩) (Nat.lt_trans fl ql)).trans e0
  have z1 := (hb'.cell (p := ⟨w15.heap.size, 1, none⟩) (Nat.lt_trans fl ql)).trans e1
  have v0 := (hb'.cell (p := ⟨wp.heap.size, 0, none⟩) ql).trans q0
  have v1 := (hb'.cell (p := ⟨wp.heap.size, 1, none⟩) ql).trans q1
  have Hg8 : Hid (SlE EN we (.slice p6 nR c6) R) := Hg7.out.below hb'
  have Hu8 : Hid (SlE EN we u4 R) := Hu7.out.below hb'
  clear Hg7 Hu7
  clear hb' e0 e1 q0 q1 hby fl ql
  go_wp2_with fail
  refine (CNR.out we p6 c6 u4 Hg8.out Hu8.out).mono ?_
  rintro e wf ⟨rfl, hb'⟩
  have hbf := hbe.trans (hb'.mono hbe.size)
  clear hb'
  go_wp2
  go_ret
  exact ⟨rfl, (lbox hbf).2.2.2⟩

set_option maxHeartbeats 32000000 in
set_option maxRecDepth 4000 in
theorem leanSays_13 (p' : Option Addr) (cap cap' m m2 nM m3 nR blk off : Nat) (x0 x1 y0 y1 : Int) (DM R : List Nd) (w : World) (HL : Hid (∀ w1, Below (w.alloc (.cells #[.int .i64 x0, .int .i64 x1] 24)).heap.size (w.alloc (.cells #[.int .i64 x0, .int .i64 x1] 24)) w1 → w1.cell? ⟨blk, off, none⟩ = some (.int .i64 y0) ∧ w1.cell? ⟨blk, off + 1, none⟩ = some (.int .i64 y1)))
    (CE0 : Hid (∀ w1, Below (w.alloc (.cells #[.int .i64 x0, .int .i64 x1] 24)).heap.size (w.alloc (.cells #[.int .i64 x0, .int .i64 x1] 24)) w1 → Calls Tryd.prog 9 #[.nilIface, .int .i64 0] w1 fun e w' => e = .returned (.bool true) ∧ Below w1.heap.size w1 w'))
    (CN0 : Hid (∀ w1, Below (w.alloc (.cells #[.int .i64 x0, .int .i64 x1] 24)).heap.size (w.alloc (.cells #[.int .i64 x0, .int .i64 x1] 24)) w1 → Calls Tryd.prog 14 #[.slice none 0 0, .slice none 0 0] w1 fun e w' => e = .returned (.bool true) ∧ Below w1.heap.size w1 w'))
    (CRA : Hid (∀ w1, Below (w.alloc (.cells #[.int .i64 x0, .int .i64 x1] 24)).heap.size (w.alloc (.cells #[.int .i64 x0, .int .i64 x1] 24)) w1 → Calls Tryd.prog 8 #[.slice (some ⟨blk, off, none⟩) 60 cap] w1 fun e w' => e = .returned (.tuple #[.int .i64 0, .int .i64 m]) ∧ Below w1.heap.size w1 w'))
    (CK : Hid (∀ w1, Below (w.alloc (.cells #[.int .i64 x0, .int .i64 x1] 24)).heap.size (w.alloc (.cells #[.int .i64 x0, .int .i64 x1] 24)) w1 → Calls Tryd.prog 10 #[.slice (some ⟨blk, off, none⟩) 60 cap] w1 fun e w' => e = .returned (.nilIface) ∧ Below w1.heap.size w1 w'))
    (CSP : Hid (∀ w1, Below (w.alloc (.cells #[.int .i64 x0, .int .i64 x1] 24)).heap.size (w.alloc (.cells #[.int .i64 x0, .int .i64 x1] 24)) w1 → Calls Tryd.prog 11 #[.slice (some ⟨blk, off, none⟩) 60 cap] w1 fun e w' => e = .returned (.tuple #[.int .i64 m, .nilIface]) ∧ Below w1.heap.size w1 w'))
    (CRB : Hid (∀ w1, Below (w.alloc (.cells #[.int .i64 x0, .int .i64 x1] 24)).heap.size (w.alloc (.cells #[.int .i64 x0, .int .i64 x1] 24)) w1 → Calls Tryd.prog 8 #[.slice p' 0 cap'] w1 fun e w' => e = .returned (.tuple #[.int .i64 0, .int .i64 m2]) ∧ Below w1.heap.size w1 w'))
    (CRM : Hid (∀ w1, Below (w.alloc (.cells #[.int .i64 x0, .int .i64 x1] 24)).heap.size (w.alloc (.cells #[.int .i64 x0, .int .i64 x1] 24)) w1 → Calls Tryd.prog 12 #[.slice (some ⟨blk, off, none⟩) 60 cap, .slice p' 0 cap'] w1 fun e w' => ∃ u, e = .returned u ∧ SlE EN w' u DM ∧ Below w1.heap.size w1 w'))
    (CM : Hid (∀ w1, Below (w.alloc (.cells #[.int .i64 x0, .int .i64 x1] 24)).heap.size (w.alloc (.cells #[.int .i64 x0, .int .i64 x1] 24)) w1 → Calls Tryd.prog 13 #[.slice (some ⟨blk, off, none⟩) 60 cap, .slice p' 0 cap'] w1 fun e w' => ∃ p c, e = .returned (.tuple #[.slice p nM c, .nilIface]) ∧ SlE EN w' (.slice p nM c) DM ∧ Below w1.heap.size w1 w'))
    (CNM : Hid (∀ w1 p c u, SlE EN w1 (.slice p nM c) DM → SlE EN w1 u DM → Calls Tryd.prog 14 #[.slice p nM c, u] w1 fun e w' => e = .returned (.bool true) ∧ Below w1.heap.size w1 w'))
    (CRX : Hid (∀ w1 g, SlE EN w1 (.slice (some ⟨g, 0, none⟩) 1 1) (aloneN x0 x1) → Calls Tryd.prog 8 #[.slice (some ⟨g, 0, none⟩) 1 1] w1 fun e w' => e = .returned (.tuple #[.int .i64 0, .int .i64 m3]) ∧ Below w1.heap.size w1 w'))
    (CE4 : Hid (∀ w1, Below (w.alloc (.cells #[.int .i64 x0, .int .i64 x1] 24)).heap.size (w.alloc (.cells #[.int .i64 x0, .int .i64 x1] 24)) w1 → Calls Tryd.prog 9 #[.iface 56 (.int .i64 4), .int .i64 4] w1 fun e w' => e = .returned (.bool true) ∧ Below w1.heap.size w1 w'))
    (CP : Hid (∀ w1, Below (w.alloc (.cells #[.int .i64 x0, .int .i64 x1] 24)).heap.size (w.alloc (.cells #[.int .i64 x0, .int .i64 x1] 24)) w1 → Calls Tryd.prog 15 #[.slice (some ⟨blk, off, none⟩) 60 cap, .agg #[.int .i64 x0, .int .i64 x1]] w1 fun e w' => e = .returned (.tuple #[.slice none 0 0, .iface 56 (.int .i64 4)]) ∧ Below w1.heap.size w1 w'))
    (CRO : Hid (∀ w1, Below (w.alloc (.cells #[.int .i64 x0, .int .i64 x1] 24)).heap.size (w.alloc (.cells #[.int .i64 x0, .int .i64 x1] 24)) w1 → Calls Tryd.prog 16 #[.slice (some ⟨blk, off, none⟩) 60 cap] w1 fun e w' => ∃ u, e = .returned u ∧ OwnE EN w' w1.heap.size u R ∧ Below w1.heap.size w1 w'))
    (CO : Hid (∀ w1, Below (w.alloc (.cells #[.int .i64 x0, .int .i64 x1] 24)).heap.size (w.alloc (.cells #[.int .i64 x0, .int .i64 x1] 24)) w1 → Calls Tryd.prog 17 #[.slice (some ⟨blk, off, none⟩) 60 cap] w1 fun e w' => ∃ p c, e = .returned (.tuple #[.agg #[.int .i64 y0, .int .i64 y1], .slice p nR c, .nilIface]) ∧ SlE EN w' (.slice p nR c) R ∧ Below w1.heap.size w1 w'))
    (CNR : Hid (∀ w1 p c u, SlE EN w1 (.slice p nR c) R → SlE EN w1 u R → Calls Tryd.prog 14 #[.slice p nR c, u] w1 fun e w' => e = .returned (.bool true) ∧ Below w1.heap.size w1 w')) :
    Calls Tryd.prog 3 #[.slice (some ⟨blk, off, none⟩) 60 cap, .slice p' 0 cap', .agg #[.int .i64 x0, .int .i64 x1]] w fun e w' => e = .returned (.bool true) ∧ Below w.heap.size w w' := by
  have ke : ∀ w, Sem.run Tryd.prog (Op.equalIn 10000 24 (.agg #[.int .i64 y0, .int .i64 y1]) (.agg #[.int .i64 y0, .int .i64 y1])) w = .ok true w := fun w => by have := equalIn_item y0 y1 y0 y1 w; simpa using this
  have kq : ∀ w, Sem.run Tryd.prog (binOp .eql 24 (.agg #[.int .i64 y0, .int .i64 y1]) (.agg #[.int .i64 y0, .int .i64 y1])) w = .ok (.bool true) w := fun w => by have := eql_item y0 y1 y0 y1 w; simpa using this
  have kg := guard_item
  go_enter Tryd.func3, Tryd.ntmps3
  have hb1 : Below (w.alloc (.cells #[.int .i64 x0, .int .i64 x1] 24)).heap.size (w.alloc (.cells #[.int .i64 x0, .int .i64 x1] 24)) (w.alloc (.cells #[.int .i64 x0, .int .i64 x1] 24)) := Below.refl _ _
  go_wp2_with fail
  refine (CRA.out (w.alloc (.cells #[.int .i64 x0, .int .i64 x1] 24)) hb1).mono ?_
  rintro e w2 ⟨rfl, hb'⟩
  have hb2 := hb1.trans (hb'.mono hb1.size)
  clear hb' hb1
  go_wp2_with fail
  refine (CK.out w2 hb2).mono ?_
  rintro e w3 ⟨rfl, hb'⟩
  have hb3 := hb2.trans (hb'.mono hb2.size)
  clear hb' hb2
  go_wp2_with fail
  refine (CE0.out w3 hb3).mono ?_
  rintro e w4 ⟨rfl, hb'⟩
  have hb4 := hb3.trans (hb'.mono hb3.size)
  clear hb' hb3
  go_wp2_with fail
  refine (CSP.out w4 hb4).mono ?_
  rintro e w5 ⟨rfl, hb'⟩
  have hb5 := hb4.trans (hb'.mono hb4.size)
  clear hb' hb4
  go_wp2_with fail
  refine (CE0.out w5 hb5).mono ?_
  rintro e w6 ⟨rfl, hb'⟩
  have hb6 := hb5.trans (hb'.mono hb5.size)
  clear hb' hb5
  go_wp2_with fail
  refine (CRB.out w6 hb6).mono ?_
  rintro e w7 ⟨rfl, hb'⟩
  have hb7 := hb6.trans (hb'.mono hb6.size)
  clear hb' hb6
  go_wp2_with fail
  refine (CRM.out w7 hb7).mono ?_
  rintro e w8 ⟨um, rfl, hsl, hb'⟩
  have hb8 := hb7.trans (hb'.mono hb7.size)
  have Hum8 : Hid (SlE EN w8 (um) (DM)) := hsl
  clear hsl
  clear hb' hb7
  go_wp2_with fail
  refine (CM.out w8 hb8).mono ?_
  rintro e w9 ⟨pm, cm, rfl, hsl, hb'⟩
  have hb9 := hb8.trans (hb'.mono hb8.size)
  have Hum9 : Hid (SlE EN w9 (um) (DM)) := Hum8.out.below hb'
  clear Hum8
  have Hvm9 : Hid (SlE EN w9 (.slice pm nM cm) (DM)) := hsl
  clear hsl
  clear hb' hb8
  go_wp2_with fail
  refine (CE0.out w9 hb9).mono ?_
  rintro e w10 ⟨rfl, hb'⟩
  have hb10 := hb9.trans (hb'.mono hb9.size)
  have Hum10 : Hid (SlE EN w10 (um) (DM)) := Hum9.out.below hb'
  clear Hum9
  have Hvm10 : Hid (SlE EN w10 (.slice pm nM cm) (DM)) := Hvm9.out.below hb'
  clear Hvm9
  clear hb' hb9
  go_wp2_with fail
  refine (CNM.out w10 pm cm um Hvm10.out Hum10.out).mono ?_
  rintro e w11 ⟨rfl, hb'⟩
  have hb11 := hb10.trans (hb'.mono hb10.size)
  have Hum11 : Hid (SlE EN w11 (um) (DM)) := Hum10.out.below hb'
  clear Hum10
  have Hvm11 : Hid (SlE EN w11 (.slice pm nM cm) (DM)) := Hvm10.out.below hb'
  clear Hvm10
  clear hb' hb10
  clear Hum11
  clear Hvm11
  obtain ⟨b0, b1, hlt, _⟩ := lbox hb11
  have hbal : Below (w.alloc (.cells #[.int .i64 x0, .int .i64 x1] 24)).heap.size (w.alloc (.cells #[.int .i64 x0, .int .i64 x1] 24)) (w11.alloc (.cells #[.int .i64 x0, .int .i64 x1, .int .i64 (-1), .int .i64 (-1)] 38)) := hb11.alloc hb11.size _
  have Hal : Hid (SlE EN (w11.alloc (.cells #[.int .i64 x0, .int .i64 x1, .int .i64 (-1), .int .i64 (-1)] 38)) (.slice (some ⟨w11.heap.size, 0, none⟩) 1 1) (aloneN x0 x1)) := alone_sl w11 x0 x1 _ rfl
  go_wp2_with fail
  refine (CRX.out _ _ Hal.out).mono ?_
  rintro e w12 ⟨rfl, hb'⟩
  have hb12 := hbal.trans (hb'.mono hbal.size)
  have Hal12 : Hid (SlE EN w12 (.slice (some ⟨w11.heap.size, 0, none⟩) 1 1) (aloneN x0 x1)) := Hal.out.below hb'
  clear hb' hbal Hal
  clear b0 b1 hlt
  generalize w11.heap.size = ga at Hal12 ⊢
  clear hb11
  obtain ⟨b0, b1, hlt, _⟩ := lbox hb12
  go_wp2_with fail
  refine (CP.out w12 hb12).mono ?_
  rintro e w13 ⟨rfl, hb'⟩
  have hb13 := hb12.trans (hb'.mono hb12.size)
  have Hal13 : Hid (SlE EN w13 (.slice (some ⟨ga, 0, none⟩) 1 1) (aloneN x0 x1)) := Hal12.out.below hb'
  clear Hal12
  clear hb' hb12
  clear b0 b1 hlt
  clear Hal13
  go_wp2_with fail
  refine (CE4.out w13 hb13).mono ?_
  rintro e w14 ⟨rfl, hb'⟩
  have hb14 := hb13.trans (hb'.mono hb13.size)
  clear hb' hb13
  go_wp2_with fail
  refine (CN0.out w14 hb14).mono ?_
  rintro e w15 ⟨rfl, hb'⟩
  have hb15 := hb14.trans (hb'.mono hb14.size)
  clear hb' hb14
  have hba : Below (w.alloc (.cells #[.int .i64 x0, .int .i64 x1] 24)).heap.size (w.alloc (.cells #[.int .i64 x0, .int .i64 x1] 24)) (w15.alloc (.cells #[.int .i64 0, .int .i64 0] 24)) := hb15.alloc hb15.size _
  have hA0 : (w15.alloc (.cells #[.int .i64 0, .int .i64 0] 24)).cell? ⟨w15.heap.size, 0, none⟩ = some (.int .i64 0) := by simp
  have hA1 : (w15.alloc (.cells #[.int .i64 0, .int .i64 0] 24)).cell? ⟨w15.heap.size, 1, none⟩ = some (.int .i64 0) := by simp
  have hAl : w15.heap.size < (w15.alloc (.cells #[.int .i64 0, .int .i64 0] 24)).heap.size := by simp
  have hAf0 : (w15.alloc (.cells #[.int .i64 0, .int .i64 0] 24)).frozen? ⟨w15.heap.size, 0, none⟩ = false := by simp
  have hAf1 : (w15.alloc (.cells #[.int .i64 0, .int .i64 0] 24)).frozen? ⟨w15.heap.size, 1, none⟩ = false := by simp
  go_wp2_with fail
  refine (CRO.out _ hba).mono ?_
  rintro e wr ⟨u4, rfl, hsl, hb'⟩
  have hbr := hba.trans (hb'.mono hba.size)
  have Hu4 : Hid (OwnE EN wr (w15.alloc (.cells #[.int .i64 0, .int .i64 0] 24)).heap.size u4 R) := hsl
  have f0 := (hb'.cell (p := ⟨w15.heap.size, 0, none⟩) hAl).trans hA0
  have f1 := (hb'.cell (p := ⟨w15.heap.size, 1, none⟩) hAl).trans hA1
  have fz0 := (World.frozen?_of_block (a := ⟨w15.heap.size, 0, none⟩) (hb'.block w15.heap.size hAl)).trans hAf0
  have fz1 := (World.frozen?_of_block (a := ⟨w15.heap.size, 1, none⟩) (hb'.block w15.heap.size hAl)).trans hAf1
  have fl : w15.heap.size < wr.heap.size := Nat.lt_of_lt_of_le hAl hb'.size
  have HF : Hid (w15.heap.size < (w15.alloc (.cells #[.int .i64 0, .int .i64 0] 24)).heap.size) := hAl
  have hbF : (w.alloc (.cells #[.int .i64 x0, .int .i64 x1] 24)).heap.size ≤ w15.heap.size := hb15.size
  obtain ⟨l0, l1⟩ := HL.out wr hbr
  clear hb' hA0 hA1 hAl hba hAf0 hAf1 hsl
  have hgs : wr.grownBy ((wr.setCell ⟨w15.heap.size, 0, none⟩ (.int .i64 y0)).setCell ⟨w15.heap.size, 1, none⟩ (.int .i64 y1)).drew (some w15.heap.size) := gb_drewN (gb_set (World.grownBy.refl _ _) _ _ _ _) 1
  have hbs : Below (w.alloc (.cells #[.int .i64 x0, .int .i64 x1] 24)).heap.size (w.alloc (.cells #[.int .i64 x0, .int .i64 x1] 24)) ((wr.setCell ⟨w15.heap.size, 0, none⟩ (.int .i64 y0)).setCell ⟨w15.heap.size, 1, none⟩ (.int .i64 y1)).drew := below_gb hbr hgs hbF hbr.size
  have Hu5 : Hid (SlE EN ((wr.setCell ⟨w15.heap.size, 0, none⟩ (.int .i64 y0)).setCell ⟨w15.heap.size, 1, none⟩ (.int .i64 y1)).drew u4 R) := own_apart Hu4.out hgs HF.out
  have s0 : ((wr.setCell ⟨w15.heap.size, 0, none⟩ (.int .i64 y0)).setCell ⟨w15.heap.size, 1, none⟩ (.int .i64 y1)).drew.cell? ⟨w15.heap.size, 0, none⟩ = some (.int .i64 y0) := (World.cell?_setCell_other _ _ _ _ (by simp)).trans (World.cell?_setCell_same _ _ _ f0)
  have s1 : ((wr.setCell ⟨w15.heap.size, 0, none⟩ (.int .i64 y0)).setCell ⟨w15.heap.size, 1, none⟩ (.int .i64 y1)).drew.cell? ⟨w15.heap.size, 1, none⟩ = some (.int .i64 y1) := World.cell?_setCell_same _ _ _ ((World.cell?_setCell_other _ _ _ _ (by simp)).trans f1)
  have sl : w15.heap.size < ((wr.setCell ⟨w15.heap.size, 0, none⟩ (.int .i64 y0)).setCell ⟨w15.heap.size, 1, none⟩ (.int .i64 y1)).drew.heap.size := by show w15.heap.size < ((wr.setCell ⟨w15.heap.size, 0, none⟩ (.int .i64 y0)).setCell ⟨w15.heap.size, 1, none⟩ (.int .i64 y1)).heap.size; rw [size_setCell, size_setCell]; exact fl
  clear hgs Hu4 HF
  go_wp2_with fail
  go_region
  clear f0 f1 fz0 fz1 fl l0 l1 hbr
  go_wp2_with fail
  generalize ((wr.setCell ⟨w15.heap.size, 0, none⟩ (.int .i64 y0)).setCell ⟨w15.heap.size, 1, none⟩ (.int .i64 y1)).drew = ws at hbs Hu5 s0 s1 sl ⊢
  refine (CO.out _ hbs).mono ?_
  rintro e wp ⟨p6, c6, rfl, hsl, hb'⟩
  have hbp := hbs.trans (hb'.mono hbs.size)
  have f0 := (hb'.cell (p := ⟨w15.heap.size, 0, none⟩) sl).trans s0
  have f1 := (hb'.cell (p := ⟨w15.heap.size, 1, none⟩) sl).trans s1
  have fl : w15.heap.size < wp.heap.size := Nat.lt_of_lt_of_le sl hb'.size
  have Hg6 : Hid (SlE EN wp (.slice p6 nR c6) R) := hsl
  have Hu6 : Hid (SlE EN wp u4 R) := Hu5.out.below hb'
  clear hb' s0 s1 sl hbs Hu5 hsl
  have hby' : Below wp.heap.size wp (wp.alloc (.cells #[.int .i64 y0, .int .i64 y1] 24)) := (Below.refl _ _).alloc (Nat.le_refl _) _
  have hby : Below (w.alloc (.cells #[.int .i64 x0, .int .i64 x1] 24)).heap.size (w.alloc (.cells #[.int .i64 x0, .int .i64 x1] 24)) (wp.alloc (.cells #[.int .i64 y0, .int .i64 y1] 24)) := hbp.alloc hbp.size _
  have e0 := (hby'.cell (p := ⟨w15.heap.size, 0, none⟩) fl).trans f0
  have e1 := (hby'.cell (p := ⟨w15.heap.size, 1, none⟩) fl).trans f1
  have q0 : (wp.alloc (.cells #[.int .i64 y0, .int .i64 y1] 24)).cell? ⟨wp.heap.size, 0, none⟩ = some (.int .i64 y0) := by simp
  have q1 : (wp.alloc (.cells #[.int .i64 y0, .int .i64 y1] 24)).cell? ⟨wp.heap.size, 1, none⟩ = some (.int .i64 y1) := by simp
  have ql : wp.heap.size < (wp.alloc (.cells #[.int .i64 y0, .int .i64 y1] 24)).heap.size := by simp
  have Hg7 : Hid (SlE EN (wp.alloc (.cells #[.int .i64 y0, .int .i64 y1] 24)) (.slice p6 nR c6) R) := Hg6.out.below hby'
  have Hu7 : Hid (SlE EN (wp.alloc (.cells #[.int .i64 y0, .int .i64 y1] 24)) u4 R) := Hu6.out.below hby'
  clear Hg6 Hu6
  clear f0 f1 hby'
  go_wp2_with fail
  refine (CE0.out _ hby).mono ?_
  rintro e we ⟨rfl, hb'⟩
  have hbe := hby.trans (hb'.mono hby.size)
  have z0 := (hb'.cell (p := ⟨w15.heap.size, 0, none⟩) (Nat.lt_trans fl ql)).trans e0
  have z1 := (hb'.cell (p := ⟨w15.heap.size, 1, none⟩) (Nat.lt_trans fl ql)).trans e1
  have v0 := (hb'.cell (p := ⟨wp.heap.size, 0, none⟩) ql).trans q0
  have v1 := (hb'.cell (p := ⟨wp.heap.size, 1, none⟩) ql).trans q1
  have Hg8 : Hid (SlE EN we (.slice p6 nR c6) R) := Hg7.out.below hb'
  have Hu8 : Hid (SlE EN we u4 R) := Hu7.out.below hb'
  clear Hg7 Hu7
  clear hb' e0 e1 q0 q1 hby fl ql
  go_wp2_with fail
  refine (CNR.out we p6 c6 u4 Hg8.out Hu8.out).mono ?_
  rintro e wf ⟨rfl, hb'⟩
  have hbf := hbe.trans (hb'.mono hbe.size)
  clear hb'
  go_wp2
  go_ret
  exact ⟨rfl, (lbox hbf).2.2.2⟩

set_option maxHeartbeats 32000000 in
set_option maxRecDepth 4000 in
theorem leanSays_14 (p' : Option Addr) (n cap n' cap' m m2 nM m3 nP nR blk off : Nat) (x0 x1 y0 y1 : Int) (DM DP R : List Nd) (w : World) (_hbig : n ≤ 9223372036854775807) (_hbig' : n' ≤ 9223372036854775807) (hw : IntKind.i64.wrap ((n : Int) + (n' : Int)) = (n : Int) + (n' : Int)) (hz : ¬ (60 : Int) < (n : Int) + (n' : Int)) (hn60 : ((n : Int) == 60) = false) (hn0 : ((n : Int) == 0) = false) (hnz : (0 : Int) < (n : Int)) (HL : Hid (∀ w1, Below (w.alloc (.cells #[.int .i64 x0, .int .i64 x1] 24)).heap.size (w.alloc (.cells #[.int .i64 x0, .int .i64 x1] 24)) w1 → w1.cell? ⟨blk, off, none⟩ = some (.int .i64 y0) ∧ w1.cell? ⟨blk, off + 1, none⟩ = some (.int .i64 y1)))
    (CE0 : Hid (∀ w1, Below (w.alloc (.cells #[.int .i64 x0, .int .i64 x1] 24)).heap.size (w.alloc (.cells #[.int .i64 x0, .int .i64 x1] 24)) w1 → Calls Tryd.prog 9 #[.nilIface, .int .i64 0] w1 fun e w' => e = .returned (.bool true) ∧ Below w1.heap.size w1 w'))
    (CRA : Hid (∀ w1, Below (w.alloc (.cells #[.int .i64 x0, .int .i64 x1] 24)).heap.size (w.alloc (.cells #[.int .i64 x0, .int .i64 x1] 24)) w1 → Calls Tryd.prog 8 #[.slice (some ⟨blk, off, none⟩) n cap] w1 fun e w' => e = .returned (.tuple #[.int .i64 0, .int .i64 m]) ∧ Below w1.heap.size w1 w'))
    (CK : Hid (∀ w1, Below (w.alloc (.cells #[.int .i64 x0, .int .i64 x1] 24)).heap.size (w.alloc (.cells #[.int .i64 x0, .int .i64 x1] 24)) w1 → Calls Tryd.prog 10 #[.slice (some ⟨blk, off, none⟩) n cap] w1 fun e w' => e = .returned (.nilIface) ∧ Below w1.heap.size w1 w'))
    (CSP : Hid (∀ w1, Below (w.alloc (.cells #[.int .i64 x0, .int .i64 x1] 24)).heap.size (w.alloc (.cells #[.int .i64 x0, .int .i64 x1] 24)) w1 → Calls Tryd.prog 11 #[.slice (some ⟨blk, off, none⟩) n cap] w1 fun e w' => e = .returned (.tuple #[.int .i64 m, .nilIface]) ∧ Below w1.heap.size w1 w'))
    (CRB : Hid (∀ w1, Below (w.alloc (.cells #[.int .i64 x0, .int .i64 x1] 24)).heap.size (w.alloc (.cells #[.int .i64 x0, .int .i64 x1] 24)) w1 → Calls Tryd.prog 8 #[.slice p' n' cap'] w1 fun e w' => e = .returned (.tuple #[.int .i64 0, .int .i64 m2]) ∧ Below w1.heap.size w1 w'))
    (CRM : Hid (∀ w1, Below (w.alloc (.cells #[.int .i64 x0, .int .i64 x1] 24)).heap.size (w.alloc (.cells #[.int .i64 x0, .int .i64 x1] 24)) w1 → Calls Tryd.prog 12 #[.slice (some ⟨blk, off, none⟩) n cap, .slice p' n' cap'] w1 fun e w' => ∃ u, e = .returned u ∧ SlE EN w' u DM ∧ Below w1.heap.size w1 w'))
    (CM : Hid (∀ w1, Below (w.alloc (.cells #[.int .i64 x0, .int .i64 x1] 24)).heap.size (w.alloc (.cells #[.int .i64 x0, .int .i64 x1] 24)) w1 → Calls Tryd.prog 13 #[.slice (some ⟨blk, off, none⟩) n cap, .slice p' n' cap'] w1 fun e w' => ∃ p c, e = .returned (.tuple #[.slice p nM c, .nilIface]) ∧ SlE EN w' (.slice p nM c) DM ∧ Below w1.heap.size w1 w'))
    (CNM : Hid (∀ w1 p c u, SlE EN w1 (.slice p nM c) DM → SlE EN w1 u DM → Calls Tryd.prog 14 #[.slice p nM c, u] w1 fun e w' => e = .returned (.bool true) ∧ Below w1.heap.size w1 w'))
    (CRX : Hid (∀ w1 g, SlE EN w1 (.slice (some ⟨g, 0, none⟩) 1 1) (aloneN x0 x1) → Calls Tryd.prog 8 #[.slice (some ⟨g, 0, none⟩) 1 1] w1 fun e w' => e = .returned (.tuple #[.int .i64 0, .int .i64 m3]) ∧ Below w1.heap.size w1 w'))
    (CRP : Hid (∀ w1 g, Below (w.alloc (.cells #[.int .i64 x0, .int .i64 x1] 24)).heap.size (w.alloc (.cells #[.int .i64 x0, .int .i64 x1] 24)) w1 → SlE EN w1 (.slice (some ⟨g, 0, none⟩) 1 1) (aloneN x0 x1) → Calls Tryd.prog 12 #[.slice (some ⟨blk, off, none⟩) n cap, .slice (some ⟨g, 0, none⟩) 1 1] w1 fun e w' => ∃ u, e = .returned u ∧ SlE EN w' u DP ∧ Below w1.heap.size w1 w'))
    (CP : Hid (∀ w1, Below (w.alloc (.cells #[.int .i64 x0, .int .i64 x1] 24)).heap.size (w.alloc (.cells #[.int .i64 x0, .int .i64 x1] 24)) w1 → Calls Tryd.prog 15 #[.slice (some ⟨blk, off, none⟩) n cap, .agg #[.int .i64 x0, .int .i64 x1]] w1 fun e w' => ∃ p c, e = .returned (.tuple #[.slice p nP c, .nilIface]) ∧ SlE EN w' (.slice p nP c) DP ∧ Below w1.heap.size w1 w'))
    (CNP : Hid (∀ w1 p c u, SlE EN w1 (.slice p nP c) DP → SlE EN w1 u DP → Calls Tryd.prog 14 #[.slice p nP c, u] w1 fun e w' => e = .returned (.bool true) ∧ Below w1.heap.size w1 w'))
    (CRO : Hid (∀ w1, Below (w.alloc (.cells #[.int .i64 x0, .int .i64 x1] 24)).heap.size (w.alloc (.cells #[.int .i64 x0, .int .i64 x1] 24)) w1 → Calls Tryd.prog 16 #[.slice (some ⟨blk, off, none⟩) n cap] w1 fun e w' => ∃ u, e = .returned u ∧ OwnE EN w' w1.heap.size u R ∧ Below w1.heap.size w1 w'))
    (CO : Hid (∀ w1, Below (w.alloc (.cells #[.int .i64 x0, .int .i64 x1] 24)).heap.size (w.alloc (.cells #[.int .i64 x0, .int .i64 x1] 24)) w1 → Calls Tryd.prog 17 #[.slice (some ⟨blk, off, none⟩) n cap] w1 fun e w' => ∃ p c, e = .returned (.tuple #[.agg #[.int .i64 y0, .int .i64 y1], .slice p nR c, .nilIface]) ∧ SlE EN w' (.slice p nR c) R ∧ Below w1.heap.size w1 w'))
    (CNR : Hid (∀ w1 p c u, SlE EN w1 (.slice p nR c) R → SlE EN w1 u R → Calls Tryd.prog 14 #[.slice p nR c, u] w1 fun e w' => e = .returned (.bool true) ∧ Below w1.heap.size w1 w')) :
    Calls Tryd.prog 3 #[.slice (some ⟨blk, off, none⟩) n cap, .slice p' n' cap', .agg #[.int .i64 x0, .int .i64 x1]] w fun e w' => e = .returned (.bool true) ∧ Below w.heap.size w w' := by
  have ke : ∀ w, Sem.run Tryd.prog (Op.equalIn 10000 24 (.agg #[.int .i64 y0, .int .i64 y1]) (.agg #[.int .i64 y0, .int .i64 y1])) w = .ok true w := fun w => by have := equalIn_item y0 y1 y0 y1 w; simpa using this
  have kq : ∀ w, Sem.run Tryd.prog (binOp .eql 24 (.agg #[.int .i64 y0, .int .i64 y1]) (.agg #[.int .i64 y0, .int .i64 y1])) w = .ok (.bool true) w := fun w => by have := eql_item y0 y1 y0 y1 w; simpa using this
  have kg := guard_item
  go_enter Tryd.func3, Tryd.ntmps3
  have hb1 : Below (w.alloc (.cells #[.int .i64 x0, .int .i64 x1] 24)).heap.size (w.alloc (.cells #[.int .i64 x0, .int .i64 x1] 24)) (w.alloc (.cells #[.int .i64 x0, .int .i64 x1] 24)) := Below.refl _ _
  go_wp2_with fail
  refine (CRA.out (w.alloc (.cells #[.int .i64 x0, .int .i64 x1] 24)) hb1).mono ?_
  rintro e w2 ⟨rfl, hb'⟩
  have hb2 := hb1.trans (hb'.mono hb1.size)
  clear hb' hb1
  go_wp2_with fail
  refine (CK.out w2 hb2).mono ?_
  rintro e w3 ⟨rfl, hb'⟩
  have hb3 := hb2.trans (hb'.mono hb2.size)
  clear hb' hb2
  go_wp2_with fail
  refine (CE0.out w3 hb3).mono ?_
  rintro e w4 ⟨rfl, hb'⟩
  have hb4 := hb3.trans (hb'.mono hb3.size)
  clear hb' hb3
  go_wp2_with fail
  refine (CSP.out w4 hb4).mono ?_
  rintro e w5 ⟨rfl, hb'⟩
  have hb5 := hb4.trans (hb'.mono hb4.size)
  clear hb' hb4
  go_wp2_with fail
  refine (CE0.out w5 hb5).mono ?_
  rintro e w6 ⟨rfl, hb'⟩
  have hb6 := hb5.trans (hb'.mono hb5.size)
  clear hb' hb5
  go_wp2_with fail
  refine (CRB.out w6 hb6).mono ?_
  rintro e w7 ⟨rfl, hb'⟩
  have hb7 := hb6.trans (hb'.mono hb6.size)
  clear hb' hb6
  go_wp2_with fail
  refine (CRM.out w7 hb7).mono ?_
  rintro e w8 ⟨um, rfl, hsl, hb'⟩
  have hb8 := hb7.trans (hb'.mono hb7.size)
  have Hum8 : Hid (SlE EN w8 (um) (DM)) := hsl
  clear hsl
  clear hb' hb7
  go_wp2_with fail
  refine (CM.out w8 hb8).mono ?_
  rintro e w9 ⟨pm, cm, rfl, hsl, hb'⟩
  have hb9 := hb8.trans (hb'.mono hb8.size)
  have Hum9 : Hid (SlE EN w9 (um) (DM)) := Hum8.out.below hb'
  clear Hum8
  have Hvm9 : Hid (SlE EN w9 (.slice pm nM cm) (DM)) := hsl
  clear hsl
  clear hb' hb8
  go_wp2_with fail
  refine (CE0.out w9 hb9).mono ?_
  rintro e w10 ⟨rfl, hb'⟩
  have hb10 := hb9.trans (hb'.mono hb9.size)
  have Hum10 : Hid (SlE EN w10 (um) (DM)) := Hum9.out.below hb'
  clear Hum9
  have Hvm10 : Hid (SlE EN w10 (.slice pm nM cm) (DM)) := Hvm9.out.below hb'
  clear Hvm9
  clear hb' hb9
  go_wp2_with fail
  refine (CNM.out w10 pm cm um Hvm10.out Hum10.out).mono ?_
  rintro e w11 ⟨rfl, hb'⟩
  have hb11 := hb10.trans (hb'.mono hb10.size)
  have Hum11 : Hid (SlE EN w11 (um) (DM)) := Hum10.out.below hb'
  clear Hum10
  have Hvm11 : Hid (SlE EN w11 (.slice pm nM cm) (DM)) := Hvm10.out.below hb'
  clear Hvm10
  clear hb' hb10
  clear Hum11
  clear Hvm11
  obtain ⟨b0, b1, hlt, _⟩ := lbox hb11
  have hbal : Below (w.alloc (.cells #[.int .i64 x0, .int .i64 x1] 24)).heap.size (w.alloc (.cells #[.int .i64 x0, .int .i64 x1] 24)) (w11.alloc (.cells #[.int .i64 x0, .int .i64 x1, .int .i64 (-1), .int .i64 (-1)] 38)) := hb11.alloc hb11.size _
  have Hal : Hid (SlE EN (w11.alloc (.cells #[.int .i64 x0, .int .i64 x1, .int .i64 (-1), .int .i64 (-1)] 38)) (.slice (some ⟨w11.heap.size, 0, none⟩) 1 1) (aloneN x0 x1)) := alone_sl w11 x0 x1 _ rfl
  go_wp2_with fail
  refine (CRX.out _ _ Hal.out).mono ?_
  rintro e w12 ⟨rfl, hb'⟩
  have hb12 := hbal.trans (hb'.mono hbal.size)
  have Hal12 : Hid (SlE EN w12 (.slice (some ⟨w11.heap.size, 0, none⟩) 1 1) (aloneN x0 x1)) := Hal.out.below hb'
  clear hb' hbal Hal
  clear b0 b1 hlt
  generalize w11.heap.size = ga at Hal12 ⊢
  clear hb11
  go_wp2_with fail
  refine (CRP.out w12 ga hb12 Hal12.out).mono ?_
  rintro e w13 ⟨up, rfl, hsl, hb'⟩
  have hb13 := hb12.trans (hb'.mono hb12.size)
  have Hal13 : Hid (SlE EN w13 (.slice (some ⟨ga, 0, none⟩) 1 1) (aloneN x0 x1)) := Hal12.out.below hb'
  clear Hal12
  have Hup13 : Hid (SlE EN w13 (up) (DP)) := hsl
  clear hsl
  clear hb' hb12
  clear Hal13
  obtain ⟨b0, b1, hlt, _⟩ := lbox hb13
  go_wp2_with fail
  refine (CP.out w13 hb13).mono ?_
  rintro e w14 ⟨pp, cp, rfl, hsl, hb'⟩
  have hb14 := hb13.trans (hb'.mono hb13.size)
  have Hup14 : Hid (SlE EN w14 (up) (DP)) := Hup13.out.below hb'
  clear Hup13
  have Hvp14 : Hid (SlE EN w14 (.slice pp nP cp) (DP)) := hsl
  clear hsl
  clear hb' hb13
  clear b0 b1 hlt
  go_wp2_with fail
  refine (CE0.out w14 hb14).mono ?_
  rintro e w15 ⟨rfl, hb'⟩
  have hb15 := hb14.trans (hb'.mono hb14.size)
  have Hup15 : Hid (SlE EN w15 (up) (DP)) := Hup14.out.below hb'
  clear Hup14
  have Hvp15 : Hid (SlE EN w15 (.slice pp nP cp) (DP)) := Hvp14.out.below hb'
  clear Hvp14
  clear hb' hb14
  go_wp2_with fail
  refine (CNP.out w15 pp cp up Hvp15.out Hup15.out).mono ?_
  rintro e w16 ⟨rfl, hb'⟩
  have hb16 := hb15.trans (hb'.mono hb15.size)
  have Hup16 : Hid (SlE EN w16 (up) (DP)) := Hup15.out.below hb'
  clear Hup15
  have Hvp16 : Hid (SlE EN w16 (.slice pp nP cp) (DP)) := Hvp15.out.below hb'
  clear Hvp15
  clear hb' hb15
  clear Hup16
  clear Hvp16
  have hba : Below (w.alloc (.cells #[.int .i64 x0, .int .i64 x1] 24)).heap.size (w.alloc (.cells #[.int .i64 x0, .int .i64 x1] 24)) (w16.alloc (.cells #[.int .i64 0, .int .i64 0] 24)) := hb16.alloc hb16.size _
  have hA0 : (w16.alloc (.cells #[.int .i64 0, .int .i64 0] 24)).cell? ⟨w16.heap.size, 0, none⟩ = some (.int .i64 0) := by simp
  have hA1 : (w16.alloc (.cells #[.int .i64 0, .int .i64 0] 24)).cell? ⟨w16.heap.size, 1, none⟩ = some (.int .i64 0) := by simp
  have hAl : w16.heap.size < (w16.alloc (.cells #[.int .i64 0, .int .i64 0] 24)).heap.size := by simp
  have hAf0 : (w16.alloc (.cells #[.int .i64 0, .int .i64 0] 24)).frozen? ⟨w16.heap.size, 0, none⟩ = false := by simp
  have hAf1 : (w16.alloc (.cells #[.int .i64 0, .int .i64 0] 24)).frozen? ⟨w16.heap.size, 1, none⟩ = false := by simp
  go_wp2_with fail
  refine (CRO.out _ hba).mono ?_
  rintro e wr ⟨u4, rfl, hsl, hb'⟩
  have hbr := hba.trans (hb'.mono hba.size)
  have Hu4 : Hid (OwnE EN wr (w16.alloc (.cells #[.int .i64 0, .int .i64 0] 24)).heap.size u4 R) := hsl
  have f0 := (hb'.cell (p := ⟨w16.heap.size, 0, none⟩) hAl).trans hA0
  have f1 := (hb'.cell (p := ⟨w16.heap.size, 1, none⟩) hAl).trans hA1
  have fz0 := (World.frozen?_of_block (a := ⟨w16.heap.size, 0, none⟩) (hb'.block w16.heap.size hAl)).trans hAf0
  have fz1 := (World.frozen?_of_block (a := ⟨w16.heap.size, 1, none⟩) (hb'.block w16.heap.size hAl)).trans hAf1
  have fl : w16.heap.size < wr.heap.size := Nat.lt_of_lt_of_le hAl hb'.size
  have HF : Hid (w16.heap.size < (w16.alloc (.cells #[.int .i64 0, .int .i64 0] 24)).heap.size) := hAl
  have hbF : (w.alloc (.cells #[.int .i64 x0, .int .i64 x1] 24)).heap.size ≤ w16.heap.size := hb16.size
  obtain ⟨l0, l1⟩ := HL.out wr hbr
  clear hb' hA0 hA1 hAl hba hAf0 hAf1 hsl
  have hgs : wr.grownBy ((wr.setCell ⟨w16.heap.size, 0, none⟩ (.int .i64 y0)).setCell ⟨w16.heap.size, 1, none⟩ (.int .i64 y1)).drew (some w16.heap.size) := gb_drewN (gb_set (World.grownBy.refl _ _) _ _ _ _) 1
  have hbs : Below (w.alloc (.cells #[.int .i64 x0, .int .i64 x1] 24)).heap.size (w.alloc (.cells #[.int .i64 x0, .int .i64 x1] 24)) ((wr.setCell ⟨w16.heap.size, 0, none⟩ (.int .i64 y0)).setCell ⟨w16.heap.size, 1, none⟩ (.int .i64 y1)).drew := below_gb hbr hgs hbF hbr.size
  have Hu5 : Hid (SlE EN ((wr.setCell ⟨w16.heap.size, 0, none⟩ (.int .i64 y0)).setCell ⟨w16.heap.size, 1, none⟩ (.int .i64 y1)).drew u4 R) := own_apart Hu4.out hgs HF.out
  have s0 : ((wr.setCell ⟨w16.heap.size, 0, none⟩ (.int .i64 y0)).setCell ⟨w16.heap.size, 1, none⟩ (.int .i64 y1)).drew.cell? ⟨w16.heap.size, 0, none⟩ = some (.int .i64 y0) := (World.cell?_setCell_other _ _ _ _ (by simp)).trans (World.cell?_setCell_same _ _ _ f0)
  have s1 : ((wr.setCell ⟨w16.heap.size, 0, none⟩ (.int .i64 y0)).setCell ⟨w16.heap.size, 1, none⟩ (.int .i64 y1)).drew.cell? ⟨w16.heap.size, 1, none⟩ = some (.int .i64 y1) := World.cell?_setCell_same _ _ _ ((World.cell?_setCell_other _ _ _ _ (by simp)).trans f1)
  have sl : w16.heap.size < ((wr.setCell ⟨w16.heap.size, 0, none⟩ (.int .i64 y0)).setCell ⟨w16.heap.size, 1, none⟩ (.int .i64 y1)).drew.heap.size := by show w16.heap.size < ((wr.setCell ⟨w16.heap.size, 0, none⟩ (.int .i64 y0)).setCell ⟨w16.heap.size, 1, none⟩ (.int .i64 y1)).heap.size; rw [size_setCell, size_setCell]; exact fl
  clear hgs Hu4 HF
  go_wp2_with fail
  go_region
  clear f0 f1 fz0 fz1 fl l0 l1 hbr
  go_wp2_with fail
  generalize ((wr.setCell ⟨w16.heap.size, 0, none⟩ (.int .i64 y0)).setCell ⟨w16.heap.size, 1, none⟩ (.int .i64 y1)).drew = ws at hbs Hu5 s0 s1 sl ⊢
  refine (CO.out _ hbs).mono ?_
  rintro e wp ⟨p6, c6, rfl, hsl, hb'⟩
  have hbp := hbs.trans (hb'.mono hbs.size)
  have f0 := (hb'.cell (p := ⟨w16.heap.size, 0, none⟩) sl).trans s0
  have f1 := (hb'.cell (p := ⟨w16.heap.size, 1, none⟩) sl).trans s1
  have fl : w16.heap.size < wp.heap.size := Nat.lt_of_lt_of_le sl hb'.size
  have Hg6 : Hid (SlE EN wp (.slice p6 nR c6) R) := hsl
  have Hu6 : Hid (SlE EN wp u4 R) := Hu5.out.below hb'
  clear hb' s0 s1 sl hbs Hu5 hsl
  have hby' : Below wp.heap.size wp (wp.alloc (.cells #[.int .i64 y0, .int .i64 y1] 24)) := (Below.refl _ _).alloc (Nat.le_refl _) _
  have hby : Below (w.alloc (.cells #[.int .i64 x0, .int .i64 x1] 24)).heap.size (w.alloc (.cells #[.int .i64 x0, .int .i64 x1] 24)) (wp.alloc (.cells #[.int .i64 y0, .int .i64 y1] 24)) := hbp.alloc hbp.size _
  have e0 := (hby'.cell (p := ⟨w16.heap.size, 0, none⟩) fl).trans f0
  have e1 := (hby'.cell (p := ⟨w16.heap.size, 1, none⟩) fl).trans f1
  have q0 : (wp.alloc (.cells #[.int .i64 y0, .int .i64 y1] 24)).cell? ⟨wp.heap.size, 0, none⟩ = some (.int .i64 y0) := by simp
  have q1 : (wp.alloc (.cells #[.int .i64 y0, .int .i64 y1] 24)).cell? ⟨wp.heap.size, 1, none⟩ = some (.int .i64 y1) := by simp
  have ql : wp.heap.size < (wp.alloc (.cells #[.int .i64 y0, .int .i64 y1] 24)).heap.size := by simp
  have Hg7 : Hid (SlE EN (wp.alloc (.cells #[.int .i64 y0, .int .i64 y1] 24)) (.slice p6 nR c6) R) := Hg6.out.below hby'
  have Hu7 : Hid (SlE EN (wp.alloc (.cells #[.int .i64 y0, .int .i64 y1] 24)) u4 R) := Hu6.out.below hby'
  clear Hg6 Hu6
  clear f0 f1 hby'
  go_wp2_with fail
  refine (CE0.out _ hby).mono ?_
  rintro e we ⟨rfl, hb'⟩
  have hbe := hby.trans (hb'.mono hby.size)
  have z0 := (hb'.cell (p := ⟨w16.heap.size, 0, none⟩) (Nat.lt_trans fl ql)).trans e0
  have z1 := (hb'.cell (p := ⟨w16.heap.size, 1, none⟩) (Nat.lt_trans fl ql)).trans e1
  have v0 := (hb'.cell (p := ⟨wp.heap.size, 0, none⟩) ql).trans q0
  have v1 := (hb'.cell (p := ⟨wp.heap.size, 1, none⟩) ql).trans q1
  have Hg8 : Hid (SlE EN we (.slice p6 nR c6) R) := Hg7.out.below hb'
  have Hu8 : Hid (SlE EN we u4 R) := Hu7.out.below hb'
  clear Hg7 Hu7
  clear hb' e0 e1 q0 q1 hby fl ql
  go_wp2_with fail
  refine (CNR.out we p6 c6 u4 Hg8.out Hu8.out).mono ?_
  rintro e wf ⟨rfl, hb'⟩
  have hbf := hbe.trans (hb'.mono hbe.size)
  clear hb'
  go_wp2
  go_ret
  exact ⟨rfl, (lbox hbf).2.2.2⟩

end Go.Proofs.YtoaabpoicacogaaDoor
