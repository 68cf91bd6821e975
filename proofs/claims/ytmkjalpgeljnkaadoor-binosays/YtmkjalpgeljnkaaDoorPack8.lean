/-
  Texts that the proof leans on, packed: LawBSays4, RefB8, SameT, LawBSays, OpenT, OpenI.
-/
import Derived.Test.YtmkjalpgeljnkaaDoorPack6
import Derived.Test.YtmkjalpgeljnkaaDoorPack3
import Derived.Test.YtmkjalpgeljnkaaDoorPack1
import Derived.Test.YtmkjalpgeljnkaaDoorPack7
import Derived.Test.YtmkjalpgeljnkaaDoorRows
import Derived.Deep.SlicePairs
import Derived.OpenShut
import Derived.ChangeOld

/-
  The law BinoSays, walked: some ways more.
-/
namespace Go.Proofs.YtmkjalpgeljnkaaDoor
open Go.RowKit Go.Sort Go.Proofs

set_option maxHeartbeats 32000000 in
set_option maxRecDepth 4000 in
theorem binoSays_12 (p p' : Option Addr) (n cap n' cap' sA sB : Nat) (x0 x1 y0 y1 : Int) (DM R : List (Int × List (Int × Int))) (w : World) (hw : IntKind.i64.wrap ((sA : Int) + (sB : Int)) = (sA : Int) + (sB : Int)) (hz : ¬ (60 : Int) < (sA : Int) + (sB : Int)) (hn0 : ((n : Int) == 0) = false)
    (CE0 : Hid (∀ w1, Below (w.alloc (.cells #[.int .i64 x0, .int .i64 x1] 24)).heap.size (w.alloc (.cells #[.int .i64 x0, .int .i64 x1] 24)) w1 → Calls Tryd.prog 8 #[.nilIface, .int .i64 0] w1 fun e w' => e = .returned (.bool true) ∧ Below w1.heap.size w1 w'))
    (CT0 : Hid (∀ w1, Below (w.alloc (.cells #[.int .i64 x0, .int .i64 x1] 24)).heap.size (w.alloc (.cells #[.int .i64 x0, .int .i64 x1] 24)) w1 → Calls Tryd.prog 13 #[.slice none 0 0, .slice none 0 0] w1 fun e w' => e = .returned (.bool true) ∧ Below w1.heap.size w1 w'))
    (CRA : Hid (∀ w1, Below (w.alloc (.cells #[.int .i64 x0, .int .i64 x1] 24)).heap.size (w.alloc (.cells #[.int .i64 x0, .int .i64 x1] 24)) w1 → Calls Tryd.prog 7 #[.slice p n cap] w1 fun e w' => e = .returned (.int .i64 0) ∧ Below w1.heap.size w1 w'))
    (CK : Hid (∀ w1, Below (w.alloc (.cells #[.int .i64 x0, .int .i64 x1] 24)).heap.size (w.alloc (.cells #[.int .i64 x0, .int .i64 x1] 24)) w1 → Calls Tryd.prog 9 #[.slice p n cap] w1 fun e w' => e = .returned (.nilIface) ∧ Below w1.heap.size w1 w'))
    (CRB : Hid (∀ w1, Below (w.alloc (.cells #[.int .i64 x0, .int .i64 x1] 24)).heap.size (w.alloc (.cells #[.int .i64 x0, .int .i64 x1] 24)) w1 → Calls Tryd.prog 7 #[.slice p' n' cap'] w1 fun e w' => e = .returned (.int .i64 0) ∧ Below w1.heap.size w1 w'))
    (CSA : Hid (∀ w1, Below (w.alloc (.cells #[.int .i64 x0, .int .i64 x1] 24)).heap.size (w.alloc (.cells #[.int .i64 x0, .int .i64 x1] 24)) w1 → Calls Tryd.prog 10 #[.slice p n cap] w1 fun e w' => e = .returned (.int .i64 (sA : Int)) ∧ Below w1.heap.size w1 w'))
    (CSB : Hid (∀ w1, Below (w.alloc (.cells #[.int .i64 x0, .int .i64 x1] 24)).heap.size (w.alloc (.cells #[.int .i64 x0, .int .i64 x1] 24)) w1 → Calls Tryd.prog 10 #[.slice p' n' cap'] w1 fun e w' => e = .returned (.int .i64 (sB : Int)) ∧ Below w1.heap.size w1 w'))
    (CRM : Hid (∀ w1, Below (w.alloc (.cells #[.int .i64 x0, .int .i64 x1] 24)).heap.size (w.alloc (.cells #[.int .i64 x0, .int .i64 x1] 24)) w1 → Calls Tryd.prog 11 #[.slice p n cap, .slice p' n' cap'] w1 fun e w' => ∃ u, e = .returned u ∧ HpAt w' u DM ∧ Below w1.heap.size w1 w'))
    (CM : Hid (∀ w1, Below (w.alloc (.cells #[.int .i64 x0, .int .i64 x1] 24)).heap.size (w.alloc (.cells #[.int .i64 x0, .int .i64 x1] 24)) w1 → Calls Tryd.prog 12 #[.slice p n cap, .slice p' n' cap'] w1 fun e w' => ∃ u, e = .returned (.tuple #[u, .nilIface]) ∧ HpAt w' u DM ∧ Below w1.heap.size w1 w'))
    (CTM : Hid (∀ w1 u v, HpAt w1 u DM → HpAt w1 v DM → Calls Tryd.prog 13 #[u, v] w1 fun e w' => e = .returned (.bool true) ∧ Below w1.heap.size w1 w'))
    (CRX : Hid (∀ w1 g, Sl w1 (.slice (some ⟨g, 0, none⟩) 1 1) #[(x0, x1)] → Calls Tryd.prog 14 #[.slice (some ⟨g, 0, none⟩) 1 1] w1 fun e w' => e = .returned (.int .i64 1) ∧ Below w1.heap.size w1 w'))
    (CE1 : Hid (∀ w1, Below (w.alloc (.cells #[.int .i64 x0, .int .i64 x1] 24)).heap.size (w.alloc (.cells #[.int .i64 x0, .int .i64 x1] 24)) w1 → Calls Tryd.prog 8 #[.iface 56 (.int .i64 1), .int .i64 1] w1 fun e w' => e = .returned (.bool true) ∧ Below w1.heap.size w1 w'))
    (CP : Hid (∀ w1, Below (w.alloc (.cells #[.int .i64 x0, .int .i64 x1] 24)).heap.size (w.alloc (.cells #[.int .i64 x0, .int .i64 x1] 24)) w1 → Calls Tryd.prog 15 #[.slice p n cap, .agg #[.int .i64 x0, .int .i64 x1]] w1 fun e w' => e = .returned (.tuple #[.slice none 0 0, .iface 56 (.int .i64 1)]) ∧ Below w1.heap.size w1 w'))
    (CRO : Hid (∀ w1, Below (w.alloc (.cells #[.int .i64 x0, .int .i64 x1] 24)).heap.size (w.alloc (.cells #[.int .i64 x0, .int .i64 x1] 24)) w1 → Calls Tryd.prog 16 #[.slice p n cap] w1 fun e w' => ∃ u, e = .returned (.tuple #[.agg #[.int .i64 y0, .int .i64 y1], u]) ∧ (∀ w2 f, (w.alloc (.cells #[.int .i64 x0, .int .i64 x1] 24)).heap.size ≤ f → f < w1.heap.size → w'.grownBy w2 (some f) → HpAt w2 u R) ∧ Below w1.heap.size w1 w'))
    (CO : Hid (∀ w1, Below (w.alloc (.cells #[.int .i64 x0, .int .i64 x1] 24)).heap.size (w.alloc (.cells #[.int .i64 x0, .int .i64 x1] 24)) w1 → Calls Tryd.prog 17 #[.slice p n cap] w1 fun e w' => ∃ u, e = .returned (.tuple #[.agg #[.int .i64 y0, .int .i64 y1], u, .nilIface]) ∧ HpAt w' u R ∧ Below w1.heap.size w1 w'))
    (CTR : Hid (∀ w1 u v, HpAt w1 u R → HpAt w1 v R → Calls Tryd.prog 13 #[u, v] w1 fun e w' => e = .returned (.bool true) ∧ Below w1.heap.size w1 w')) :
    Calls Tryd.prog 3 #[.slice p n cap, .slice p' n' cap', .agg #[.int .i64 x0, .int .i64 x1]] w fun e w' => e = .returned (.bool true) ∧ Below w.heap.size w w' := by
  have ke : ∀ w, Sem.run Tryd.prog (Op.equalIn 10000 24 (.agg #[.int .i64 y0, .int .i64 y1]) (.agg #[.int .i64 y0, .int .i64 y1])) w = .ok true w := fun w => by have := equalIn_item y0 y1 y0 y1 w; simpa using this
  have kq : ∀ w, Sem.run Tryd.prog (binOp .eql 24 (.agg #[.int .i64 y0, .int .i64 y1]) (.agg #[.int .i64 y0, .int .i64 y1])) w = .ok (.bool true) w := fun w => by have := eql_item y0 y1 y0 y1 w; simpa using this
  have kg := guard_item
  go_enter Tryd.func3, Tryd.ntmps3
  have hb1 : Below (w.alloc (.cells #[.int .i64 x0, .int .i64 x1] 24)).heap.size (w.alloc (.cells #[.int .i64 x0, .int .i64 x1] 24)) (w.alloc (.cells #[.int .i64 x0, .int .i64 x1] 24)) := Below.refl _ _
  go_wp2_with fail
  refine (CRA.out (w.alloc (.cells #[.int .i64 x0, .int .i64 x1] 24)) hb1).mono ?_
  rintro e w2 ⟨rfl, hb'⟩
  have hb2 := hb1.trans (hb'.mono hb1.size)
  clear hb' hb1
  go_wp2_with fail
  refine (CK.out w2 hb2).mono ?_
  rintro e w3 ⟨rfl, hb'⟩
  have hb3 := hb2.trans (hb'.mono hb2.size)
  clear hb' hb2
  go_wp2_with fail
  refine (CE0.out w3 hb3).mono ?_
  rintro e w4 ⟨rfl, hb'⟩
  have hb4 := hb3.trans (hb'.mono hb3.size)
  clear hb' hb3
  go_wp2_with fail
  refine (CRB.out w4 hb4).mono ?_
  rintro e w5 ⟨rfl, hb'⟩
  have hb5 := hb4.trans (hb'.mono hb4.size)
  clear hb' hb4
  go_wp2_with fail
  refine (CSA.out w5 hb5).mono ?_
  rintro e w6 ⟨rfl, hb'⟩
  have hb6 := hb5.trans (hb'.mono hb5.size)
  clear hb' hb5
  go_wp2_with fail
  refine (CSB.out w6 hb6).mono ?_
  rintro e w7 ⟨rfl, hb'⟩
  have hb7 := hb6.trans (hb'.mono hb6.size)
  clear hb' hb6
  go_wp2_with fail
  refine (CRM.out w7 hb7).mono ?_
  rintro e w8 ⟨um, rfl, hsl, hb'⟩
  have hb8 := hb7.trans (hb'.mono hb7.size)
  have Hum8 : Hid (HpAt w8 (um) (DM)) := hsl
  clear hsl
  clear hb' hb7
  go_wp2_with fail
  refine (CM.out w8 hb8).mono ?_
  rintro e w9 ⟨vm, rfl, hsl, hb'⟩
  have hb9 := hb8.trans (hb'.mono hb8.size)
  have Hum9 : Hid (HpAt w9 (um) (DM)) := Hum8.out.below hb'
  clear Hum8
  have Hvm9 : Hid (HpAt w9 (vm) (DM)) := hsl
  clear hsl
  clear hb' hb8
  go_wp2_with fail
  refine (CE0.out w9 hb9).mono ?_
  rintro e w10 ⟨rfl, hb'⟩
  have hb10 := hb9.trans (hb'.mono hb9.size)
  have Hum10 : Hid (HpAt w10 (um) (DM)) := Hum9.out.below hb'
  clear Hum9
  have Hvm10 : Hid (HpAt w10 (vm) (DM)) := Hvm9.out.below hb'
  clear Hvm9
  clear hb' hb9
  go_wp2_with fail
  refine (CTM.out w10 vm um Hvm10.out Hum10.out).mono ?_
  rintro e w11 ⟨rfl, hb'⟩
  have hb11 := hb10.trans (hb'.mono hb10.size)
  have Hum11 : Hid (HpAt w11 (um) (DM)) := Hum10.out.below hb'
  clear Hum10
  have Hvm11 : Hid (HpAt w11 (vm) (DM)) := Hvm10.out.below hb'
  clear Hvm10
  clear hb' hb10
  clear Hum11
  clear Hvm11
  obtain ⟨b0, b1, hlt, _⟩ := lbox hb11
  have hbal : Below (w.alloc (.cells #[.int .i64 x0, .int .i64 x1] 24)).heap.size (w.alloc (.cells #[.int .i64 x0, .int .i64 x1] 24)) (w11.alloc (.cells #[.int .i64 x0, .int .i64 x1] 24)) := hb11.alloc hb11.size _
  have Hal : Hid (Sl (w11.alloc (.cells #[.int .i64 x0, .int .i64 x1] 24)) (.slice (some ⟨w11.heap.size, 0, none⟩) 1 1) #[(x0, x1)]) := one_sl w11 x0 x1
  go_wp2_with fail
  refine (CRX.out _ _ Hal.out).mono ?_
  rintro e w12 ⟨rfl, hb'⟩
  have hb12 := hbal.trans (hb'.mono hbal.size)
  clear hb' hbal Hal
  clear b0 b1 hlt
  clear hb11
  obtain ⟨b0, b1, hlt, _⟩ := lbox hb12
  go_wp2_with fail
  refine (CP.out w12 hb12).mono ?_
  rintro e w13 ⟨rfl, hb'⟩
  have hb13 := hb12.trans (hb'.mono hb12.size)
  clear hb' hb12
  clear b0 b1 hlt
  go_wp2_with fail
  refine (CE1.out w13 hb13).mono ?_
  rintro e w14 ⟨rfl, hb'⟩
  have hb14 := hb13.trans (hb'.mono hb13.size)
  clear hb' hb13
  go_wp2_with fail
  refine (CT0.out w14 hb14).mono ?_
  rintro e w15 ⟨rfl, hb'⟩
  have hb15 := hb14.trans (hb'.mono hb14.size)
  clear hb' hb14
  have hba : Below (w.alloc (.cells #[.int .i64 x0, .int .i64 x1] 24)).heap.size (w.alloc (.cells #[.int .i64 x0, .int .i64 x1] 24)) (w15.alloc (.cells #[.int .i64 0, .int .i64 0] 24)) := hb15.alloc hb15.size _
  have hA0 : (w15.alloc (.cells #[.int .i64 0, .int .i64 0] 24)).cell? ⟨w15.heap.size, 0, none⟩ = some (.int .i64 0) := by simp
  have hA1 : (w15.alloc (.cells #[.int .i64 0, .int .i64 0] 24)).cell? ⟨w15.heap.size, 1, none⟩ = some (.int .i64 0) := by simp
  have hAl : w15.heap.size < (w15.alloc (.cells #[.int .i64 0, .int .i64 0] 24)).heap.size := by simp
  have hAf0 : (w15.alloc (.cells #[.int .i64 0, .int .i64 0] 24)).frozen? ⟨w15.heap.size, 0, none⟩ = false := by simp
  have hAf1 : (w15.alloc (.cells #[.int .i64 0, .int .i64 0] 24)).frozen? ⟨w15.heap.size, 1, none⟩ = false := by simp
  have hbF : (w.alloc (.cells #[.int .i64 x0, .int .i64 x1] 24)).heap.size ≤ w15.heap.size := hb15.size
  go_wp2_with fail
  refine (CRO.out _ hba).mono ?_
  rintro e wr ⟨u4, rfl, hsl, hb'⟩
  have hbr := hba.trans (hb'.mono hba.size)
  have hgs : wr.grownBy ((wr.setCell ⟨w15.heap.size, 0, none⟩ (.int .i64 y0)).setCell ⟨w15.heap.size, 1, none⟩ (.int .i64 y1)) (some w15.heap.size) := gb_set (World.grownBy.refl _ _) _ _ _ _
  have Hu5 : Hid (HpAt ((wr.setCell ⟨w15.heap.size, 0, none⟩ (.int .i64 y0)).setCell ⟨w15.heap.size, 1, none⟩ (.int .i64 y1)) u4 R) := hsl _ _ hbF hAl hgs
  have f0 := (hb'.cell (p := ⟨w15.heap.size, 0, none⟩) hAl).trans hA0
  have f1 := (hb'.cell (p := ⟨w15.heap.size, 1, none⟩) hAl).trans hA1
  have fz0 := (World.frozen?_of_block (a := ⟨w15.heap.size, 0, none⟩) (hb'.block w15.heap.size hAl)).trans hAf0
  have fz1 := (World.frozen?_of_block (a := ⟨w15.heap.size, 1, none⟩) (hb'.block w15.heap.size hAl)).trans hAf1
  have fl : w15.heap.size < wr.heap.size := Nat.lt_of_lt_of_le hAl hb'.size
  clear hb' hA0 hA1 hAl hba hAf0 hAf1 hsl
  have hbs : Below (w.alloc (.cells #[.int .i64 x0, .int .i64 x1] 24)).heap.size (w.alloc (.cells #[.int .i64 x0, .int .i64 x1] 24)) ((wr.setCell ⟨w15.heap.size, 0, none⟩ (.int .i64 y0)).setCell ⟨w15.heap.size, 1, none⟩ (.int .i64 y1)) := below_gb hbr hgs hbF hbr.size
  have s0 : ((wr.setCell ⟨w15.heap.size, 0, none⟩ (.int .i64 y0)).setCell ⟨w15.heap.size, 1, none⟩ (.int .i64 y1)).cell? ⟨w15.heap.size, 0, none⟩ = some (.int .i64 y0) := (World.cell?_setCell_other _ _ _ _ (by simp)).trans (World.cell?_setCell_same _ _ _ f0)
  have s1 : ((wr.setCell ⟨w15.heap.size, 0, none⟩ (.int .i64 y0)).setCell ⟨w15.heap.size, 1, none⟩ (.int .i64 y1)).cell? ⟨w15.heap.size, 1, none⟩ = some (.int .i64 y1) := World.cell?_setCell_same _ _ _ ((World.cell?_setCell_other _ _ _ _ (by simp)).trans f1)
  have sl : w15.heap.size < ((wr.setCell ⟨w15.heap.size, 0, none⟩ (.int .i64 y0)).setCell ⟨w15.heap.size, 1, none⟩ (.int .i64 y1)).heap.size := by rw [size_setCell, size_setCell]; exact fl
  clear hgs hbr
  go_wp2_with fail
  clear f0 f1 fz0 fz1 fl
  generalize ((wr.setCell ⟨w15.heap.size, 0, none⟩ (.int .i64 y0)).setCell ⟨w15.heap.size, 1, none⟩ (.int .i64 y1)) = ws at hbs Hu5 s0 s1 sl ⊢
  refine (CO.out _ hbs).mono ?_
  rintro e wp ⟨u6, rfl, hsl, hb'⟩
  have hbp := hbs.trans (hb'.mono hbs.size)
  have f0 := (hb'.cell (p := ⟨w15.heap.size, 0, none⟩) sl).trans s0
  have f1 := (hb'.cell (p := ⟨w15.heap.size, 1, none⟩) sl).trans s1
  have fl : w15.heap.size < wp.heap.size := Nat.lt_of_lt_of_le sl hb'.size
  have Hg6 : Hid (HpAt wp u6 R) := hsl
  have Hu6 : Hid (HpAt wp u4 R) := Hu5.out.below hb'
  clear hb' s0 s1 sl hbs Hu5 hsl
  have hby' : Below wp.heap.size wp (wp.alloc (.cells #[.int .i64 y0, .int .i64 y1] 24)) := (Below.refl _ _).alloc (Nat.le_refl _) _
  have hby : Below (w.alloc (.cells #[.int .i64 x0, .int .i64 x1] 24)).heap.size (w.alloc (.cells #[.int .i64 x0, .int .i64 x1] 24)) (wp.alloc (.cells #[.int .i64 y0, .int .i64 y1] 24)) := hbp.alloc hbp.size _
  have e0 := (hby'.cell (p := ⟨w15.heap.size, 0, none⟩) fl).trans f0
  have e1 := (hby'.cell (p := ⟨w15.heap.size, 1, none⟩) fl).trans f1
  have q0 : (wp.alloc (.cells #[.int .i64 y0, .int .i64 y1] 24)).cell? ⟨wp.heap.size, 0, none⟩ = some (.int .i64 y0) := by simp
  have q1 : (wp.alloc (.cells #[.int .i64 y0, .int .i64 y1] 24)).cell? ⟨wp.heap.size, 1, none⟩ = some (.int .i64 y1) := by simp
  have ql : wp.heap.size < (wp.alloc (.cells #[.int .i64 y0, .int .i64 y1] 24)).heap.size := by simp
  have Hg7 : Hid (HpAt (wp.alloc (.cells #[.int .i64 y0, .int .i64 y1] 24)) u6 R) := Hg6.out.below hby'
  have Hu7 : Hid (HpAt (wp.alloc (.cells #[.int .i64 y0, .int .i64 y1] 24)) u4 R) := Hu6.out.below hby'
  clear Hg6 Hu6
  clear f0 f1 hby'
  go_wp2_with fail
  refine (CE0.out _ hby).mono ?_
  rintro e we ⟨rfl, hb'⟩
  have hbe := hby.trans (hb'.mono hby.size)
  have z0 := (hb'.cell (p := ⟨w15.heap.size, 0, none⟩) (Nat.lt_trans fl ql)).trans e0
  have z1 := (hb'.cell (p := ⟨w15.heap.size, 1, none⟩) (Nat.lt_trans fl ql)).trans e1
  have v0 := (hb'.cell (p := ⟨wp.heap.size, 0, none⟩) ql).trans q0
  have v1 := (hb'.cell (p := ⟨wp.heap.size, 1, none⟩) ql).trans q1
  have Hg8 : Hid (HpAt we u6 R) := Hg7.out.below hb'
  have Hu8 : Hid (HpAt we u4 R) := Hu7.out.below hb'
  clear Hg7 Hu7
  clear hb' e0 e1 q0 q1 hby fl ql
  go_wp2_with fail
  refine (CTR.out we u6 u4 Hg8.out Hu8.out).mono ?_
  rintro e wf ⟨rfl, hb'⟩
  have hbf := hbe.trans (hb'.mono hbe.size)
  clear hb'
  go_wp2
  go_ret
  exact ⟨rfl, (lbox hbf).2.2.2⟩

set_option maxHeartbeats 32000000 in
set_option maxRecDepth 4000 in
theorem binoSays_13 (p p' : Option Addr) (n cap n' cap' sB : Nat) (x0 x1 y0 y1 : Int) (DM R : List (Int × List (Int × Int))) (w : World) (hw : IntKind.i64.wrap ((60 : Int) + (sB : Int)) = (60 : Int) + (sB : Int)) (hz : ¬ (60 : Int) < (60 : Int) + (sB : Int)) (hn0 : ((n : Int) == 0) = false)
    (CE0 : Hid (∀ w1, Below (w.alloc (.cells #[.int .i64 x0, .int .i64 x1] 24)).heap.size (w.alloc (.cells #[.int .i64 x0, .int .i64 x1] 24)) w1 → Calls Tryd.prog 8 #[.nilIface, .int .i64 0] w1 fun e w' => e = .returned (.bool true) ∧ Below w1.heap.size w1 w'))
    (CT0 : Hid (∀ w1, Below (w.alloc (.cells #[.int .i64 x0, .int .i64 x1] 24)).heap.size (w.alloc (.cells #[.int .i64 x0, .int .i64 x1] 24)) w1 → Calls Tryd.prog 13 #[.slice none 0 0, .slice none 0 0] w1 fun e w' => e = .returned (.bool true) ∧ Below w1.heap.size w1 w'))
    (CRA : Hid (∀ w1, Below (w.alloc (.cells #[.int .i64 x0, .int .i64 x1] 24)).heap.size (w.alloc (.cells #[.int .i64 x0, .int .i64 x1] 24)) w1 → Calls Tryd.prog 7 #[.slice p n cap] w1 fun e w' => e = .returned (.int .i64 0) ∧ Below w1.heap.size w1 w'))
    (CK : Hid (∀ w1, Below (w.alloc (.cells #[.int .i64 x0, .int .i64 x1] 24)).heap.size (w.alloc (.cells #[.int .i64 x0, .int .i64 x1] 24)) w1 → Calls Tryd.prog 9 #[.slice p n cap] w1 fun e w' => e = .returned (.nilIface) ∧ Below w1.heap.size w1 w'))
    (CRB : Hid (∀ w1, Below (w.alloc (.cells #[.int .i64 x0, .int .i64 x1] 24)).heap.size (w.alloc (.cells #[.int .i64 x0, .int .i64 x1] 24)) w1 → Calls Tryd.prog 7 #[.slice p' n' cap'] w1 fun e w' => e = .returned (.int .i64 0) ∧ Below w1.heap.size w1 w'))
    (CSA : Hid (∀ w1, Below (w.alloc (.cells #[.int .i64 x0, .int .i64 x1] 24)).heap.size (w.alloc (.cells #[.int .i64 x0, .int .i64 x1] 24)) w1 → Calls Tryd.prog 10 #[.slice p n cap] w1 fun e w' => e = .returned (.int .i64 (60 : Int)) ∧ Below w1.heap.size w1 w'))
    (CSB : Hid (∀ w1, Below (w.alloc (.cells #[.int .i64 x0, .int .i64 x1] 24)).heap.size (w.alloc (.cells #[.int .i64 x0, .int .i64 x1] 24)) w1 → Calls Tryd.prog 10 #[.slice p' n' cap'] w1 fun e w' => e = .returned (.int .i64 (sB : Int)) ∧ Below w1.heap.size w1 w'))
    (CRM : Hid (∀ w1, Below (w.alloc (.cells #[.int .i64 x0, .int .i64 x1] 24)).heap.size (w.alloc (.cells #[.int .i64 x0, .int .i64 x1] 24)) w1 → Calls Tryd.prog 11 #[.slice p n cap, .slice p' n' cap'] w1 fun e w' => ∃ u, e = .returned u ∧ HpAt w' u DM ∧ Below w1.heap.size w1 w'))
    (CM : Hid (∀ w1, Below (w.alloc (.cells #[.int .i64 x0, .int .i64 x1] 24)).heap.size (w.alloc (.cells #[.int .i64 x0, .int .i64 x1] 24)) w1 → Calls Tryd.prog 12 #[.slice p n cap, .slice p' n' cap'] w1 fun e w' => ∃ u, e = .returned (.tuple #[u, .nilIface]) ∧ HpAt w' u DM ∧ Below w1.heap.size w1 w'))
    (CTM : Hid (∀ w1 u v, HpAt w1 u DM → HpAt w1 v DM → Calls Tryd.prog 13 #[u, v] w1 fun e w' => e = .returned (.bool true) ∧ Below w1.heap.size w1 w'))
    (CRX : Hid (∀ w1 g, Sl w1 (.slice (some ⟨g, 0, none⟩) 1 1) #[(x0, x1)] → Calls Tryd.prog 14 #[.slice (some ⟨g, 0, none⟩) 1 1] w1 fun e w' => e = .returned (.int .i64 0) ∧ Below w1.heap.size w1 w'))
    (CE4 : Hid (∀ w1, Below (w.alloc (.cells #[.int .i64 x0, .int .i64 x1] 24)).heap.size (w.alloc (.cells #[.int .i64 x0, .int .i64 x1] 24)) w1 → Calls Tryd.prog 8 #[.iface 56 (.int .i64 4), .int .i64 4] w1 fun e w' => e = .returned (.bool true) ∧ Below w1.heap.size w1 w'))
    (CP : Hid (∀ w1, Below (w.alloc (.cells #[.int .i64 x0, .int .i64 x1] 24)).heap.size (w.alloc (.cells #[.int .i64 x0, .int .i64 x1] 24)) w1 → Calls Tryd.prog 15 #[.slice p n cap, .agg #[.int .i64 x0, .int .i64 x1]] w1 fun e w' => e = .returned (.tuple #[.slice none 0 0, .iface 56 (.int .i64 4)]) ∧ Below w1.heap.size w1 w'))
    (CRO : Hid (∀ w1, Below (w.alloc (.cells #[.int .i64 x0, .int .i64 x1] 24)).heap.size (w.alloc (.cells #[.int .i64 x0, .int .i64 x1] 24)) w1 → Calls Tryd.prog 16 #[.slice p n cap] w1 fun e w' => ∃ u, e = .returned (.tuple #[.agg #[.int .i64 y0, .int .i64 y1], u]) ∧ (∀ w2 f, (w.alloc (.cells #[.int .i64 x0, .int .i64 x1] 24)).heap.size ≤ f → f < w1.heap.size → w'.grownBy w2 (some f) → HpAt w2 u R) ∧ Below w1.heap.size w1 w'))
    (CO : Hid (∀ w1, Below (w.alloc (.cells #[.int .i64 x0, .int .i64 x1] 24)).heap.size (w.alloc (.cells #[.int .i64 x0, .int .i64 x1] 24)) w1 → Calls Tryd.prog 17 #[.slice p n cap] w1 fun e w' => ∃ u, e = .returned (.tuple #[.agg #[.int .i64 y0, .int .i64 y1], u, .nilIface]) ∧ HpAt w' u R ∧ Below w1.heap.size w1 w'))
    (CTR : Hid (∀ w1 u v, HpAt w1 u R → HpAt w1 v R → Calls Tryd.prog 13 #[u, v] w1 fun e w' => e = .returned (.bool true) ∧ Below w1.heap.size w1 w')) :
    Calls Tryd.prog 3 #[.slice p n cap, .slice p' n' cap', .agg #[.int .i64 x0, .int .i64 x1]] w fun e w' => e = .returned (.bool true) ∧ Below w.heap.size w w' := by
  have ke : ∀ w, Sem.run Tryd.prog (Op.equalIn 10000 24 (.agg #[.int .i64 y0, .int .i64 y1]) (.agg #[.int .i64 y0, .int .i64 y1])) w = .ok true w := fun w => by have := equalIn_item y0 y1 y0 y1 w; simpa using this
  have kq : ∀ w, Sem.run Tryd.prog (binOp .eql 24 (.agg #[.int .i64 y0, .int .i64 y1]) (.agg #[.int .i64 y0, .int .i64 y1])) w = .ok (.bool true) w := fun w => by have := eql_item y0 y1 y0 y1 w; simpa using this
  have kg := guard_item
  go_enter Tryd.func3, Tryd.ntmps3
  have hb1 : Below (w.alloc (.cells #[.int .i64 x0, .int .i64 x1] 24)).heap.size (w.alloc (.cells #[.int .i64 x0, .int .i64 x1] 24)) (w.alloc (.cells #[.int .i64 x0, .int .i64 x1] 24)) := Below.refl _ _
  go_wp2_with fail
  refine (CRA.out (w.alloc (.cells #[.int .i64 x0, .int .i64 x1] 24)) hb1).mono ?_
  rintro e w2 ⟨rfl, hb'⟩
  have hb2 := hb1.trans (hb'.mono hb1.size)
  clear hb' hb1
  go_wp2_with fail
  refine (CK.out w2 hb2).mono ?_
  rintro e w3 ⟨rfl, hb'⟩
  have hb3 := hb2.trans (hb'.mono hb2.size)
  clear hb' hb2
  go_wp2_with fail
  refine (CE0.out w3 hb3).mono ?_
  rintro e w4 ⟨rfl, hb'⟩
  have hb4 := hb3.trans (hb'.mono hb3.size)
  clear hb' hb3
  go_wp2_with fail
  refine (CRB.out w4 hb4).mono ?_
  rintro e w5 ⟨rfl, hb'⟩
  have hb5 := hb4.trans (hb'.mono hb4.size)
  clear hb' hb4
  go_wp2_with fail
  refine (CSA.out w5 hb5).mono ?_
  rintro e w6 ⟨rfl, hb'⟩
  have hb6 := hb5.trans (hb'.mono hb5.size)
  clear hb' hb5
  go_wp2_with fail
  refine (CSB.out w6 hb6).mono ?_
  rintro e w7 ⟨rfl, hb'⟩
  have hb7 := hb6.trans (hb'.mono hb6.size)
  clear hb' hb6
  go_wp2_with fail
  refine (CRM.out w7 hb7).mono ?_
  rintro e w8 ⟨um, rfl, hsl, hb'⟩
  have hb8 := hb7.trans (hb'.mono hb7.size)
  have Hum8 : Hid (HpAt w8 (um) (DM)) := hsl
  clear hsl
  clear hb' hb7
  go_wp2_with fail
  refine (CM.out w8 hb8).mono ?_
  rintro e w9 ⟨vm, rfl, hsl, hb'⟩
  have hb9 := hb8.trans (hb'.mono hb8.size)
  have Hum9 : Hid (HpAt w9 (um) (DM)) := Hum8.out.below hb'
  clear Hum8
  have Hvm9 : Hid (HpAt w9 (vm) (DM)) := hsl
  clear hsl
  clear hb' hb8
  go_wp2_with fail
  refine (CE0.out w9 hb9).mono ?_
  rintro e w10 ⟨rfl, hb'⟩
  have hb10 := hb9.trans (hb'.mono hb9.size)
  have Hum10 : Hid (HpAt w10 (um) (DM)) := Hum9.out.below hb'
  clear Hum9
  have Hvm10 : Hid (HpAt w10 (vm) (DM)) := Hvm9.out.below hb'
  clear Hvm9
  clear hb' hb9
  go_wp2_with fail
  refine (CTM.out w10 vm um Hvm10.out Hum10.out).mono ?_
  rintro e w11 ⟨rfl, hb'⟩
  have hb11 := hb10.trans (hb'.mono hb10.size)
  have Hum11 : Hid (HpAt w11 (um) (DM)) := Hum10.out.below hb'
  clear Hum10
  have Hvm11 : Hid (HpAt w11 (vm) (DM)) := Hvm10.out.below hb'
  clear Hvm10
  clear hb' hb10
  clear Hum11
  clear Hvm11
  obtain ⟨b0, b1, hlt, _⟩ := lbox hb11
  have hbal : Below (w.alloc (.cells #[.int .i64 x0, .int .i64 x1] 24)).heap.size (w.alloc (.cells #[.int .i64 x0, .int .i64 x1] 24)) (w11.alloc (.cells #[.int .i64 x0, .int .i64 x1] 24)) := hb11.alloc hb11.size _
  have Hal : Hid (Sl (w11.alloc (.cells #[.int .i64 x0, .int .i64 x1] 24)) (.slice (some ⟨w11.heap.size, 0, none⟩) 1 1) #[(x0, x1)]) := one_sl w11 x0 x1
  go_wp2_with fail
  refine (CRX.out _ _ Hal.out).mono ?_
  rintro e w12 ⟨rfl, hb'⟩
  have hb12 := hbal.trans (hb'.mono hbal.size)
  clear hb' hbal Hal
  clear b0 b1 hlt
  clear hb11
  go_wp2_with fail
  refine (CSA.out w12 hb12).mono ?_
  rintro e w13 ⟨rfl, hb'⟩
  have hb13 := hb12.trans (hb'.mono hb12.size)
  clear hb' hb12
  obtain ⟨b0, b1, hlt, _⟩ := lbox hb13
  go_wp2_with fail
  refine (CP.out w13 hb13).mono ?_
  rintro e w14 ⟨rfl, hb'⟩
  have hb14 := hb13.trans (hb'.mono hb13.size)
  clear hb' hb13
  clear b0 b1 hlt
  go_wp2_with fail
  refine (CE4.out w14 hb14).mono ?_
  rintro e w15 ⟨rfl, hb'⟩
  have hb15 := hb14.trans (hb'.mono hb14.size)
  clear hb' hb14
  go_wp2_with fail
  refine (CT0.out w15 hb15).mono ?_
  rintro e w16 ⟨rfl, hb'⟩
  have hb16 := hb15.trans (hb'.mono hb15.size)
  clear hb' hb15
  have hba : Below (w.alloc (.cells #[.int .i64 x0, .int .i64 x1] 24)).heap.size (w.alloc (.cells #[.int .i64 x0, .int .i64 x1] 24)) (w16.alloc (.cells #[.int .i64 0, .int .i64 0] 24)) := hb16.alloc hb16.size _
  have hA0 : (w16.alloc (.cells #[.int .i64 0, .int .i64 0] 24)).cell? ⟨w16.heap.size, 0, none⟩ = some (.int .i64 0) := by simp
  have hA1 : (w16.alloc (.cells #[.int .i64 0, .int .i64 0] 24)).cell? ⟨w16.heap.size, 1, none⟩ = some (.int .i64 0) := by simp
  have hAl : w16.heap.size < (w16.alloc (.cells #[.int .i64 0, .int .i64 0] 24)).heap.size := by simp
  have hAf0 : (w16.alloc (.cells #[.int .i64 0, .int .i64 0] 24)).frozen? ⟨w16.heap.size, 0, none⟩ = false := by simp
  have hAf1 : (w16.alloc (.cells #[.int .i64 0, .int .i64 0] 24)).frozen? ⟨w16.heap.size, 1, none⟩ = false := by simp
  have hbF : (w.alloc (.cells #[.int .i64 x0, .int .i64 x1] 24)).heap.size ≤ w16.heap.size := hb16.size
  go_wp2_with fail
  refine (CRO.out _ hba).mono ?_
  rintro e wr ⟨u4, rfl, hsl, hb'⟩
  have hbr := hba.trans (hb'.mono hba.size)
  have hgs : wr.grownBy ((wr.setCell ⟨w16.heap.size, 0, none⟩ (.int .i64 y0)).setCell ⟨w16.heap.size, 1, none⟩ (.int .i64 y1)) (some w16.heap.size) := gb_set (World.grownBy.refl _ _) _ _ _ _
  have Hu5 : Hid (HpAt ((wr.setCell ⟨w16.heap.size, 0, none⟩ (.int .i64 y0)).setCell ⟨w16.heap.size, 1, none⟩ (.int .i64 y1)) u4 R) := hsl _ _ hbF hAl hgs
  have f0 := (hb'.cell (p := ⟨w16.heap.size, 0, none⟩) hAl).trans hA0
  have f1 := (hb'.cell (p := ⟨w16.heap.size, 1, none⟩) hAl).trans hA1
  have fz0 := (World.frozen?_of_block (a := ⟨w16.heap.size, 0, none⟩) (hb'.block w16.heap.size hAl)).trans hAf0
  have fz1 := (World.frozen?_of_block (a := ⟨w16.heap.size, 1, none⟩) (hb'.block w16.heap.size hAl)).trans hAf1
  have fl : w16.heap.size < wr.heap.size := Nat.lt_of_lt_of_le hAl hb'.size
  clear hb' hA0 hA1 hAl hba hAf0 hAf1 hsl
  have hbs : Below (w.alloc (.cells #[.int .i64 x0, .int .i64 x1] 24)).heap.size (w.alloc (.cells #[.int .i64 x0, .int .i64 x1] 24)) ((wr.setCell ⟨w16.heap.size, 0, none⟩ (.int .i64 y0)).setCell ⟨w16.heap.size, 1, none⟩ (.int .i64 y1)) := below_gb hbr hgs hbF hbr.size
  have s0 : ((wr.setCell ⟨w16.heap.size, 0, none⟩ (.int .i64 y0)).setCell ⟨w16.heap.size, 1, none⟩ (.int .i64 y1)).cell? ⟨w16.heap.size, 0, none⟩ = some (.int .i64 y0) := (World.cell?_setCell_other _ _ _ _ (by simp)).trans (World.cell?_setCell_same _ _ _ f0)
  have s1 : ((wr.setCell ⟨w16.heap.size, 0, none⟩ (.int .i64 y0)).setCell ⟨w16.heap.size, 1, none⟩ (.int .i64 y1)).cell? ⟨w16.heap.size, 1, none⟩ = some (.int .i64 y1) := World.cell?_setCell_same _ _ _ ((World.cell?_setCell_other _ _ _ _ (by simp)).trans f1)
  have sl : w16.heap.size < ((wr.setCell ⟨w16.heap.size, 0, none⟩ (.int .i64 y0)).setCell ⟨w16.heap.size, 1, none⟩ (.int .i64 y1)).heap.size := by rw [size_setCell, size_setCell]; exact fl
  clear hgs hbr
  go_wp2_with fail
  clear f0 f1 fz0 fz1 fl
  generalize ((wr.setCell ⟨w16.heap.size, 0, none⟩ (.int .i64 y0)).setCell ⟨w16.heap.size, 1, none⟩ (.int .i64 y1)) = ws at hbs Hu5 s0 s1 sl ⊢
  refine (CO.out _ hbs).mono ?_
  rintro e wp ⟨u6, rfl, hsl, hb'⟩
  have hbp := hbs.trans (hb'.mono hbs.size)
  have f0 := (hb'.cell (p := ⟨w16.heap.size, 0, none⟩) sl).trans s0
  have f1 := (hb'.cell (p := ⟨w16.heap.size, 1, none⟩) sl).trans s1
  have fl : w16.heap.size < wp.heap.size := Nat.lt_of_lt_of_le sl hb'.size
  have Hg6 : Hid (HpAt wp u6 R) := hsl
  have Hu6 : Hid (HpAt wp u4 R) := Hu5.out.below hb'
  clear hb' s0 s1 sl hbs Hu5 hsl
  have hby' : Below wp.heap.size wp (wp.alloc (.cells #[.int .i64 y0, .int .i64 y1] 24)) := (Below.refl _ _).alloc (Nat.le_refl _) _
  have hby : Below (w.alloc (.cells #[.int .i64 x0, .int .i64 x1] 24)).heap.size (w.alloc (.cells #[.int .i64 x0, .int .i64 x1] 24)) (wp.alloc (.cells #[.int .i64 y0, .int .i64 y1] 24)) := hbp.alloc hbp.size _
  have e0 := (hby'.cell (p := ⟨w16.heap.size, 0, none⟩) fl).trans f0
  have e1 := (hby'.cell (p := ⟨w16.heap.size, 1, none⟩) fl).trans f1
  have q0 : (wp.alloc (.cells #[.int .i64 y0, .int .i64 y1] 24)).cell? ⟨wp.heap.size, 0, none⟩ = some (.int .i64 y0) := by simp
  have q1 : (wp.alloc (.cells #[.int .i64 y0, .int .i64 y1] 24)).cell? ⟨wp.heap.size, 1, none⟩ = some (.int .i64 y1) := by simp
  have ql : wp.heap.size < (wp.alloc (.cells #[.int .i64 y0, .int .i64 y1] 24)).heap.size := by simp
  have Hg7 : Hid (HpAt (wp.alloc (.cells #[.int .i64 y0, .int .i64 y1] 24)) u6 R) := Hg6.out.below hby'
  have Hu7 : Hid (HpAt (wp.alloc (.cells #[.int .i64 y0, .int .i64 y1] 24)) u4 R) := Hu6.out.below hby'
  clear Hg6 Hu6
  clear f0 f1 hby'
  go_wp2_with fail
  refine (CE0.out _ hby).mono ?_
  rintro e we ⟨rfl, hb'⟩
  have hbe := hby.trans (hb'.mono hby.size)
  have z0 := (hb'.cell (p := ⟨w16.heap.size, 0, none⟩) (Nat.lt_trans fl ql)).trans e0
  have z1 := (hb'.cell (p := ⟨w16.heap.size, 1, none⟩) (Nat.lt_trans fl ql)).trans e1
  have v0 := (hb'.cell (p := ⟨wp.heap.size, 0, none⟩) ql).trans q0
  have v1 := (hb'.cell (p := ⟨wp.heap.size, 1, none⟩) ql).trans q1
  have Hg8 : Hid (HpAt we u6 R) := Hg7.out.below hb'
  have Hu8 : Hid (HpAt we u4 R) := Hu7.out.below hb'
  clear Hg7 Hu7
  clear hb' e0 e1 q0 q1 hby fl ql
  go_wp2_with fail
  refine (CTR.out we u6 u4 Hg8.out Hu8.out).mono ?_
  rintro e wf ⟨rfl, hb'⟩
  have hbf := hbe.trans (hb'.mono hbe.size)
  clear hb'
  go_wp2
  go_ret
  exact ⟨rfl, (lbox hbf).2.2.2⟩

set_option maxHeartbeats 32000000 in
set_option maxRecDepth 4000 in
theorem binoSays_14 (p p' : Option Addr) (n cap n' cap' sA sB : Nat) (x0 x1 y0 y1 : Int) (DM DP R : List (Int × List (Int × Int))) (w : World) (hw : IntKind.i64.wrap ((sA : Int) + (sB : Int)) = (sA : Int) + (sB : Int)) (hz : ¬ (60 : Int) < (sA : Int) + (sB : Int)) (hs60 : ((sA : Int) == 60) = false) (hn0 : ((n : Int) == 0) = false)
    (CE0 : Hid (∀ w1, Below (w.alloc (.cells #[.int .i64 x0, .int .i64 x1] 24)).heap.size (w.alloc (.cells #[.int .i64 x0, .int .i64 x1] 24)) w1 → Calls Tryd.prog 8 #[.nilIface, .int .i64 0] w1 fun e w' => e = .returned (.bool true) ∧ Below w1.heap.size w1 w'))
    (CRA : Hid (∀ w1, Below (w.alloc (.cells #[.int .i64 x0, .int .i64 x1] 24)).heap.size (w.alloc (.cells #[.int .i64 x0, .int .i64 x1] 24)) w1 → Calls Tryd.prog 7 #[.slice p n cap] w1 fun e w' => e = .returned (.int .i64 0) ∧ Below w1.heap.size w1 w'))
    (CK : Hid (∀ w1, Below (w.alloc (.cells #[.int .i64 x0, .int .i64 x1] 24)).heap.size (w.alloc (.cells #[.int .i64 x0, .int .i64 x1] 24)) w1 → Calls Tryd.prog 9 #[.slice p n cap] w1 fun e w' => e = .returned (.nilIface) ∧ Below w1.heap.size w1 w'))
    (CRB : Hid (∀ w1, Below (w.alloc (.cells #[.int .i64 x0, .int .i64 x1] 24)).heap.size (w.alloc (.cells #[.int .i64 x0, .int .i64 x1] 24)) w1 → Calls Tryd.prog 7 #[.slice p' n' cap'] w1 fun e w' => e = .returned (.int .i64 0) ∧ Below w1.heap.size w1 w'))
    (CSA : Hid (∀ w1, Below (w.alloc (.cells #[.int .i64 x0, .int .i64 x1] 24)).heap.size (w.alloc (.cells #[.int .i64 x0, .int .i64 x1] 24)) w1 → Calls Tryd.prog 10 #[.slice p n cap] w1 fun e w' => e = .returned (.int .i64 (sA : Int)) ∧ Below w1.heap.size w1 w'))
    (CSB : Hid (∀ w1, Below (w.alloc (.cells #[.int .i64 x0, .int .i64 x1] 24)).heap.size (w.alloc (.cells #[.int .i64 x0, .int .i64 x1] 24)) w1 → Calls Tryd.prog 10 #[.slice p' n' cap'] w1 fun e w' => e = .returned (.int .i64 (sB : Int)) ∧ Below w1.heap.size w1 w'))
    (CRM : Hid (∀ w1, Below (w.alloc (.cells #[.int .i64 x0, .int .i64 x1] 24)).heap.size (w.alloc (.cells #[.int .i64 x0, .int .i64 x1] 24)) w1 → Calls Tryd.prog 11 #[.slice p n cap, .slice p' n' cap'] w1 fun e w' => ∃ u, e = .returned u ∧ HpAt w' u DM ∧ Below w1.heap.size w1 w'))
    (CM : Hid (∀ w1, Below (w.alloc (.cells #[.int .i64 x0, .int .i64 x1] 24)).heap.size (w.alloc (.cells #[.int .i64 x0, .int .i64 x1] 24)) w1 → Calls Tryd.prog 12 #[.slice p n cap, .slice p' n' cap'] w1 fun e w' => ∃ u, e = .returned (.tuple #[u, .nilIface]) ∧ HpAt w' u DM ∧ Below w1.heap.size w1 w'))
    (CTM : Hid (∀ w1 u v, HpAt w1 u DM → HpAt w1 v DM → Calls Tryd.prog 13 #[u, v] w1 fun e w' => e = .returned (.bool true) ∧ Below w1.heap.size w1 w'))
    (CRX : Hid (∀ w1 g, Sl w1 (.slice (some ⟨g, 0, none⟩) 1 1) #[(x0, x1)] → Calls Tryd.prog 14 #[.slice (some ⟨g, 0, none⟩) 1 1] w1 fun e w' => e = .returned (.int .i64 0) ∧ Below w1.heap.size w1 w'))
    (CRP : Hid (∀ w1 g, Below (w.alloc (.cells #[.int .i64 x0, .int .i64 x1] 24)).heap.size (w.alloc (.cells #[.int .i64 x0, .int .i64 x1] 24)) w1 → HpAt w1 (.slice (some ⟨g, 0, none⟩) 1 1) (zH (aloneH (x0, x1))) → Calls Tryd.prog 11 #[.slice p n cap, .slice (some ⟨g, 0, none⟩) 1 1] w1 fun e w' => ∃ u, e = .returned u ∧ HpAt w' u DP ∧ Below w1.heap.size w1 w'))
    (CP : Hid (∀ w1, Below (w.alloc (.cells #[.int .i64 x0, .int .i64 x1] 24)).heap.size (w.alloc (.cells #[.int .i64 x0, .int .i64 x1] 24)) w1 → Calls Tryd.prog 15 #[.slice p n cap, .agg #[.int .i64 x0, .int .i64 x1]] w1 fun e w' => ∃ u, e = .returned (.tuple #[u, .nilIface]) ∧ HpAt w' u DP ∧ Below w1.heap.size w1 w'))
    (CTP : Hid (∀ w1 u v, HpAt w1 u DP → HpAt w1 v DP → Calls Tryd.prog 13 #[u, v] w1 fun e w' => e = .returned (.bool true) ∧ Below w1.heap.size w1 w'))
    (CRO : Hid (∀ w1, Below (w.alloc (.cells #[.int .i64 x0, .int .i64 x1] 24)).heap.size (w.alloc (.cells #[.int .i64 x0, .int .i64 x1] 24)) w1 → Calls Tryd.prog 16 #[.slice p n cap] w1 fun e w' => ∃ u, e = .returned (.tuple #[.agg #[.int .i64 y0, .int .i64 y1], u]) ∧ (∀ w2 f, (w.alloc (.cells #[.int .i64 x0, .int .i64 x1] 24)).heap.size ≤ f → f < w1.heap.size → w'.grownBy w2 (some f) → HpAt w2 u R) ∧ Below w1.heap.size w1 w'))
    (CO : Hid (∀ w1, Below (w.alloc (.cells #[.int .i64 x0, .int .i64 x1] 24)).heap.size (w.alloc (.cells #[.int .i64 x0, .int .i64 x1] 24)) w1 → Calls Tryd.prog 17 #[.slice p n cap] w1 fun e w' => ∃ u, e = .returned (.tuple #[.agg #[.int .i64 y0, .int .i64 y1], u, .nilIface]) ∧ HpAt w' u R ∧ Below w1.heap.size w1 w'))
    (CTR : Hid (∀ w1 u v, HpAt w1 u R → HpAt w1 v R → Calls Tryd.prog 13 #[u, v] w1 fun e w' => e = .returned (.bool true) ∧ Below w1.heap.size w1 w')) :
    Calls Tryd.prog 3 #[.slice p n cap, .slice p' n' cap', .agg #[.int .i64 x0, .int .i64 x1]] w fun e w' => e = .returned (.bool true) ∧ Below w.heap.size w w' := by
  have ke : ∀ w, Sem.run Tryd.prog (Op.equalIn 10000 24 (.agg #[.int .i64 y0, .int .i64 y1]) (.agg #[.int .i64 y0, .int .i64 y1])) w = .ok true w := fun w => by have := equalIn_item y0 y1 y0 y1 w; simpa using this
  have kq : ∀ w, Sem.run Tryd.prog (binOp .eql 24 (.agg #[.int .i64 y0, .int .i64 y1]) (.agg #[.int .i64 y0, .int .i64 y1])) w = .ok (.bool true) w := fun w => by have := eql_item y0 y1 y0 y1 w; simpa using this
  have kg := guard_item
  go_enter Tryd.func3, Tryd.ntmps3
  have hb1 : Below (w.alloc (.cells #[.int .i64 x0, .int .i64 x1] 24)).heap.size (w.alloc (.cells #[.int .i64 x0, .int .i64 x1] 24)) (w.alloc (.cells #[.int .i64 x0, .int .i64 x1] 24)) := Below.refl _ _
  go_wp2_with fail
  refine (CRA.out (w.alloc (.cells #[.int .i64 x0, .int .i64 x1] 24)) hb1).mono ?_
  rintro e w2 ⟨rfl, hb'⟩
  have hb2 := hb1.trans (hb'.mono hb1.size)
  clear hb' hb1
  go_wp2_with fail
  refine (CK.out w2 hb2).mono ?_
  rintro e w3 ⟨rfl, hb'⟩
  have hb3 := hb2.trans (hb'.mono hb2.size)
  clear hb' hb2
  go_wp2_with fail
  refine (CE0.out w3 hb3).mono ?_
  rintro e w4 ⟨rfl, hb'⟩
  have hb4 := hb3.trans (hb'.mono hb3.size)
  clear hb' hb3
  go_wp2_with fail
  refine (CRB.out w4 hb4).mono ?_
  rintro e w5 ⟨rfl, hb'⟩
  have hb5 := hb4.trans (hb'.mono hb4.size)
  clear hb' hb4
  go_wp2_with fail
  refine (CSA.out w5 hb5).mono ?_
  rintro e w6 ⟨rfl, hb'⟩
  have hb6 := hb5.trans (hb'.mono hb5.size)
  clear hb' hb5
  go_wp2_with fail
  refine (CSB.out w6 hb6).mono ?_
  rintro e w7 ⟨rfl, hb'⟩
  have hb7 := hb6.trans (hb'.mono hb6.size)
  clear hb' hb6
  go_wp2_with fail
  refine (CRM.out w7 hb7).mono ?_
  rintro e w8 ⟨um, rfl, hsl, hb'⟩
  have hb8 := hb7.trans (hb'.mono hb7.size)
  have Hum8 : Hid (HpAt w8 (um) (DM)) := hsl
  clear hsl
  clear hb' hb7
  go_wp2_with fail
  refine (CM.out w8 hb8).mono ?_
  rintro e w9 ⟨vm, rfl, hsl, hb'⟩
  have hb9 := hb8.trans (hb'.mono hb8.size)
  have Hum9 : Hid (HpAt w9 (um) (DM)) := Hum8.out.below hb'
  clear Hum8
  have Hvm9 : Hid (HpAt w9 (vm) (DM)) := hsl
  clear hsl
  clear hb' hb8
  go_wp2_with fail
  refine (CE0.out w9 hb9).mono ?_
  rintro e w10 ⟨rfl, hb'⟩
  have hb10 := hb9.trans (hb'.mono hb9.size)
  have Hum10 : Hid (HpAt w10 (um) (DM)) := Hum9.out.below hb'
  clear Hum9
  have Hvm10 : Hid (HpAt w10 (vm) (DM)) := Hvm9.out.below hb'
  clear Hvm9
  clear hb' hb9
  go_wp2_with fail
  refine (CTM.out w10 vm um Hvm10.out Hum10.out).mono ?_
  rintro e w11 ⟨rfl, hb'⟩
  have hb11 := hb10.trans (hb'.mono hb10.size)
  have Hum11 : Hid (HpAt w11 (um) (DM)) := Hum10.out.below hb'
  clear Hum10
  have Hvm11 : Hid (HpAt w11 (vm) (DM)) := Hvm10.out.below hb'
  clear Hvm10
  clear hb' hb10
  clear Hum11
  clear Hvm11
  obtain ⟨b0, b1, hlt, _⟩ := lbox hb11
  have hbal : Below (w.alloc (.cells #[.int .i64 x0, .int .i64 x1] 24)).heap.size (w.alloc (.cells #[.int .i64 x0, .int .i64 x1] 24)) (w11.alloc (.cells #[.int .i64 x0, .int .i64 x1] 24)) := hb11.alloc hb11.size _
  have Hal : Hid (Sl (w11.alloc (.cells #[.int .i64 x0, .int .i64 x1] 24)) (.slice (some ⟨w11.heap.size, 0, none⟩) 1 1) #[(x0, x1)]) := one_sl w11 x0 x1
  go_wp2_with fail
  refine (CRX.out _ _ Hal.out).mono ?_
  rintro e w12 ⟨rfl, hb'⟩
  have hb12 := hbal.trans (hb'.mono hbal.size)
  clear hb' hbal Hal
  clear b0 b1 hlt
  clear hb11
  go_wp2_with fail
  refine (CSA.out w12 hb12).mono ?_
  rintro e w13 ⟨rfl, hb'⟩
  have hb13 := hb12.trans (hb'.mono hb12.size)
  clear hb' hb12
  obtain ⟨b0, b1, hlt, _⟩ := lbox hb13
  have hbal : Below (w.alloc (.cells #[.int .i64 x0, .int .i64 x1] 24)).heap.size (w.alloc (.cells #[.int .i64 x0, .int .i64 x1] 24)) ((w13.alloc (.cells #[.int .i64 x0, .int .i64 x1] 24)).alloc (.cells #[.int .i64 0, .slice (some ⟨w13.heap.size, 0, none⟩) 1 1] 37)) := hb13.trans ((alone2_below w13 x0 x1).mono hb13.size)
  have Hal : Hid (HpAt ((w13.alloc (.cells #[.int .i64 x0, .int .i64 x1] 24)).alloc (.cells #[.int .i64 0, .slice (some ⟨w13.heap.size, 0, none⟩) 1 1] 37)) (.slice (some ⟨w13.heap.size + 1, 0, none⟩) 1 1) (zH (aloneH (x0, x1)))) := alone2_at w13 x0 x1
  go_wp2_with fail
  refine (CRP.out _ _ hbal Hal.out).mono ?_
  rintro e w14 ⟨up, rfl, hsl, hb'⟩
  have hb14 := hbal.trans (hb'.mono hbal.size)
  have Hup14 : Hid (HpAt w14 up DP) := hsl
  clear hb' hbal Hal hsl
  clear b0 b1 hlt
  clear hb13
  obtain ⟨b0, b1, hlt, _⟩ := lbox hb14
  go_wp2_with fail
  refine (CP.out w14 hb14).mono ?_
  rintro e w15 ⟨vp, rfl, hsl, hb'⟩
  have hb15 := hb14.trans (hb'.mono hb14.size)
  have Hup15 : Hid (HpAt w15 (up) (DP)) := Hup14.out.below hb'
  clear Hup14
  have Hvp15 : Hid (HpAt w15 (vp) (DP)) := hsl
  clear hsl
  clear hb' hb14
  clear b0 b1 hlt
  go_wp2_with fail
  refine (CE0.out w15 hb15).mono ?_
  rintro e w16 ⟨rfl, hb'⟩
  have hb16 := hb15.trans (hb'.mono hb15.size)
  have Hup16 : Hid (HpAt w16 (up) (DP)) := Hup15.out.below hb'
  clear Hup15
  have Hvp16 : Hid (HpAt w16 (vp) (DP)) := Hvp15.out.below hb'
  clear Hvp15
  clear hb' hb15
  go_wp2_with fail
  refine (CTP.out w16 vp up Hvp16.out Hup16.out).mono ?_
  rintro e w17 ⟨rfl, hb'⟩
  have hb17 := hb16.trans (hb'.mono hb16.size)
  have Hup17 : Hid (HpAt w17 (up) (DP)) := Hup16.out.below hb'
  clear Hup16
  have Hvp17 : Hid (HpAt w17 (vp) (DP)) := Hvp16.out.below hb'
  clear Hvp16
  clear hb' hb16
  clear Hup17
  clear Hvp17
  have hba : Below (w.alloc (.cells #[.int .i64 x0, .int .i64 x1] 24)).heap.size (w.alloc (.cells #[.int .i64 x0, .int .i64 x1] 24)) (w17.alloc (.cells #[.int .i64 0, .int .i64 0] 24)) := hb17.alloc hb17.size _
  have hA0 : (w17.alloc (.cells #[.int .i64 0, .int .i64 0] 24)).cell? ⟨w17.heap.size, 0, none⟩ = some (.int .i64 0) := by simp
  have hA1 : (w17.alloc (.cells #[.int .i64 0, .int .i64 0] 24)).cell? ⟨w17.heap.size, 1, none⟩ = some (.int .i64 0) := by simp
  have hAl : w17.heap.size < (w17.alloc (.cells #[.int .i64 0, .int .i64 0] 24)).heap.size := by simp
  have hAf0 : (w17.alloc (.cells #[.int .i64 0, .int .i64 0] 24)).frozen? ⟨w17.heap.size, 0, none⟩ = false := by simp
  have hAf1 : (w17.alloc (.cells #[.int .i64 0, .int .i64 0] 24)).frozen? ⟨w17.heap.size, 1, none⟩ = false := by simp
  have hbF : (w.alloc (.cells #[.int .i64 x0, .int .i64 x1] 24)).heap.size ≤ w17.heap.size := hb17.size
  go_wp2_with fail
  refine (CRO.out _ hba).mono ?_
  rintro e wr ⟨u4, rfl, hsl, hb'⟩
  have hbr := hba.trans (hb'.mono hba.size)
  have hgs : wr.grownBy ((wr.setCell ⟨w17.heap.size, 0, none⟩ (.int .i64 y0)).setCell ⟨w17.heap.size, 1, none⟩ (.int .i64 y1)) (some w17.heap.size) := gb_set (World.grownBy.refl _ _) _ _ _ _
  have Hu5 : Hid (HpAt ((wr.setCell ⟨w17.heap.size, 0, none⟩ (.int .i64 y0)).setCell ⟨w17.heap.size, 1, none⟩ (.int .i64 y1)) u4 R) := hsl _ _ hbF hAl hgs
  have f0 := (hb'.cell (p := ⟨w17.heap.size, 0, none⟩) hAl).trans hA0
  have f1 := (hb'.cell (p := ⟨w17.heap.size, 1, none⟩) hAl).trans hA1
  have fz0 := (World.frozen?_of_block (a := ⟨w17.heap.size, 0, none⟩) (hb'.block w17.heap.size hAl)).trans hAf0
  have fz1 := (World.frozen?_of_block (a := ⟨w17.heap.size, 1, none⟩) (hb'.block w17.heap.size hAl)).trans hAf1
  have fl : w17.heap.size < wr.heap.size := Nat.lt_of_lt_of_le hAl hb'.size
  clear hb' hA0 hA1 hAl hba hAf0 hAf1 hsl
  have hbs : Below (w.alloc (.cells #[.int .i64 x0, .int .i64 x1] 24)).heap.size (w.alloc (.cells #[.int .i64 x0, .int .i64 x1] 24)) ((wr.setCell ⟨w17.heap.size, 0, none⟩ (.int .i64 y0)).setCell ⟨w17.heap.size, 1, none⟩ (.int .i64 y1)) := below_gb hbr hgs hbF hbr.size
  have s0 : ((wr.setCell ⟨w17.heap.size, 0, none⟩ (.int .i64 y0)).setCell ⟨w17.heap.size, 1, none⟩ (.int .i64 y1)).cell? ⟨w17.heap.size, 0, none⟩ = some (.int .i64 y0) := (World.cell?_setCell_other _ _ _ _ (by simp)).trans (World.cell?_setCell_same _ _ _ f0)
  have s1 : ((wr.setCell ⟨w17.heap.size, 0, none⟩ (.int .i64 y0)).setCell ⟨w17.heap.size, 1, none⟩ (.int .i64 y1)).cell? ⟨w17.heap.size, 1, none⟩ = some (.int .i64 y1) := World.cell?_setCell_same _ _ _ ((World.cell?_setCell_other _ _ _ _ (by simp)).trans f1)
  have sl : w17.heap.size < ((wr.setCell ⟨w17.heap.size, 0, none⟩ (.int .i64 y0)).setCell ⟨w17.heap.size, 1, none⟩ (.int .i64 y1)).heap.size := by rw [size_setCell, size_setCell]; exact fl
  clear hgs hbr
  go_wp2_with fail
  clear f0 f1 fz0 fz1 fl
  generalize ((wr.setCell ⟨w17.heap.size, 0, none⟩ (.int .i64 y0)).setCell ⟨w17.heap.size, 1, none⟩ (.int .i64 y1)) = ws at hbs Hu5 s0 s1 sl ⊢
  refine (CO.out _ hbs).mono ?_
  rintro e wp ⟨u6, rfl, hsl, hb'⟩
  have hbp := hbs.trans (hb'.mono hbs.size)
  have f0 := (hb'.cell (p := ⟨w17.heap.size, 0, none⟩) sl).trans s0
  have f1 := (hb'.cell (p := ⟨w17.heap.size, 1, none⟩) sl).trans s1
  have fl : w17.heap.size < wp.heap.size := Nat.lt_of_lt_of_le sl hb'.size
  have Hg6 : Hid (HpAt wp u6 R) := hsl
  have Hu6 : Hid (HpAt wp u4 R) := Hu5.out.below hb'
  clear hb' s0 s1 sl hbs Hu5 hsl
  have hby' : Below wp.heap.size wp (wp.alloc (.cells #[.int .i64 y0, .int .i64 y1] 24)) := (Below.refl _ _).alloc (Nat.le_refl _) _
  have hby : Below (w.alloc (.cells #[.int .i64 x0, .int .i64 x1] 24)).heap.size (w.alloc (.cells #[.int .i64 x0, .int .i64 x1] 24)) (wp.alloc (.cells #[.int .i64 y0, .int .i64 y1] 24)) := hbp.alloc hbp.size _
  have e0 := (hby'.cell (p := ⟨w17.heap.size, 0, none⟩) fl).trans f0
  have e1 := (hby'.cell (p := ⟨w17.heap.size, 1, none⟩) fl).trans f1
  have q0 : (wp.alloc (.cells #[.int .i64 y0, .int .i64 y1] 24)).cell? ⟨wp.heap.size, 0, none⟩ = some (.int .i64 y0) := by simp
  have q1 : (wp.alloc (.cells #[.int .i64 y0, .int .i64 y1] 24)).cell? ⟨wp.heap.size, 1, none⟩ = some (.int .i64 y1) := by simp
  have ql : wp.heap.size < (wp.alloc (.cells #[.int .i64 y0, .int .i64 y1] 24)).heap.size := by simp
  have Hg7 : Hid (HpAt (wp.alloc (.cells #[.int .i64 y0, .int .i64 y1] 24)) u6 R) := Hg6.out.below hby'
  have Hu7 : Hid (HpAt (wp.alloc (.cells #[.int .i64 y0, .int .i64 y1] 24)) u4 R) := Hu6.out.below hby'
  clear Hg6 Hu6
  clear f0 f1 hby'
  go_wp2_with fail
  refine (CE0.out _ hby).mono ?_
  rintro e we ⟨rfl, hb'⟩
  have hbe := hby.trans (hb'.mono hby.size)
  have z0 := (hb'.cell (p := ⟨w17.heap.size, 0, none⟩) (Nat.lt_trans fl ql)).trans e0
  have z1 := (hb'.cell (p := ⟨w17.heap.size, 1, none⟩) (Nat.lt_trans fl ql)).trans e1
  have v0 := (hb'.cell (p := ⟨wp.heap.size, 0, none⟩) ql).trans q0
  have v1 := (hb'.cell (p := ⟨wp.heap.size, 1, none⟩) ql).trans q1
  have Hg8 : Hid (HpAt we u6 R) := Hg7.out.below hb'
  have Hu8 : Hid (HpAt we u4 R) := Hu7.out.below hb'
  clear Hg7 Hu7
  clear hb' e0 e1 q0 q1 hby fl ql
  go_wp2_with fail
  refine (CTR.out we u6 u4 Hg8.out Hu8.out).mono ?_
  rintro e wf ⟨rfl, hb'⟩
  have hbf := hbe.trans (hb'.mono hbe.size)
  clear hb'
  go_wp2
  go_ret
  exact ⟨rfl, (lbox hbf).2.2.2⟩

end Go.Proofs.YtmkjalpgeljnkaaDoor

/-
  The document's heaps of trees: what is wrong with one, walked.
-/
namespace Go.Proofs.YtmkjalpgeljnkaaDoor
open Go.RowKit Go.Sort Go.Proofs

theorem ret_nat {a b : Nat} (h : a = b) : Ending.returned (.int .i64 (b : Nat)) = .returned (.int .i64 (a : Nat)) := by rw [h]
set_option maxHeartbeats 16000000 in
set_option maxRecDepth 4000 in
theorem bino_some (p : Option Addr) (n cap : Nat) (h : List (Int × List (Int × Int))) (w : World) (hbig : n ≤ 9223372036854775807) (HN : Hid (h.length = n)) (HH : Hid (HpAt w (.slice p n cap) h)) (HL : Hid (∀ t ∈ h, t.2.length ≤ 9223372036854775807)) :
    Calls Tryd.prog 7 #[.slice p n cap] w fun e w' => e = .returned (.int .i64 (binoE h : Nat)) ∧ ∃ q, w' = w.drewN q := by
  go_enter Tryd.func7, Tryd.ntmps7
  go_wp2
  go_loopg [3, 4, 5] n (fun g vl va vi wr => ∃ (last : Int) (all i q : Nat), vl = .int .i64 last ∧ va = .int .i64 all ∧ vi = .int .i64 i ∧ i ≤ n ∧ n - i ≤ g ∧ i ≤ 6 ∧ all ≤ 192 ∧ -1 ≤ last ∧ last ≤ 5 ∧ Hid (Ranks h i last all) ∧ wr = w.drewN q)
  case atStart => exact ⟨-1, 0, 0, 0, rfl, rfl, rfl, Nat.zero_le _, by omega, by omega, by omega, by omega, by omega, Ranks.start h, rfl⟩
  case round =>
    obtain ⟨last, all, i, q, rfl, rfl, rfl, hin, hg, hi6, hall, hl1, hl5, HRK, rfl⟩ := hrel
    by_cases hlt : i < n
    · have hlz : (i : Int) < (n : Int) := by omega
      obtain ⟨⟨r, l⟩, hx⟩ : ∃ x, h[i]? = some x := ⟨h[i]'(by rw [HN.out]; omega), by simp⟩
      obtain ⟨blk, off, q1, d1, rfl, hblk, x0, x1, sx⟩ := HH.out.tree hx
      have HX : Hid (h[i]? = some (r, l)) := hx
      have x0' : (w.drewN q).cell? ⟨blk, off + i * 2, none⟩ = some (.int .i64 r) := x0
      have x1' : (w.drewN q).cell? ⟨blk, off + i * 2 + 1, none⟩ = some (.slice q1 l.length d1) := x1
      have hll := HL.out (r, l) (List.mem_of_getElem? hx)
      simp only at hll
      obtain ⟨ln, hln⟩ : ∃ ln, l.length = ln := ⟨_, rfl⟩
      rw [hln] at x1' hll
      have HLN : Hid (l.length = ln) := hln
      obtain ⟨wq, hwq⟩ : ∃ wq, w.drewN q = wq := ⟨_, rfl⟩
      rw [hwq] at x0' x1' ⊢
      have HWQ : Hid (w.drewN q = wq) := hwq
      clear x0 x1 sx hwq hx hln
      have ci := in_any r 0 5 wq
      by_cases hr : r < 0 ∨ 5 < r
      · have eb : (decide ((0 : Int) ≤ r) && decide (r ≤ 5)) = false := by
          rcases hr with c | c
          · rw [decide_eq_false (by omega)]; rfl
          · rw [decide_eq_false (show ¬ r ≤ 5 by omega), Bool.and_false]
        rw [eb] at ci
        have HE : Hid (binoE h = 1) := HRK.out.bad1 HX.out hr
        go_wp2_with fail
        refine ci.mono ?_
        rintro e w1 ⟨rfl, rfl⟩
        go_wp2
        go_ret
        exact ⟨by rw [HE.out]; rfl, q, HWQ.out.symm⟩
      · have eb : (decide ((0 : Int) ≤ r) && decide (r ≤ 5)) = true := by rw [decide_eq_true (by omega), decide_eq_true (show r ≤ 5 by omega)]; rfl
        rw [eb] at ci
        obtain ⟨rn, rfl⟩ : ∃ rn : Nat, r = (rn : Int) := ⟨r.toNat, by omega⟩
        have hrn : rn ≤ 5 := by omega
        have cp := fun w => pow2_any rn (by omega) w
        obtain ⟨pw, hpw⟩ : ∃ pw, twoN rn = pw := ⟨_, rfl⟩
        have hpws := twoN_small (n := rn) (by omega)
        rw [hpw] at cp hpws
        have HPW : Hid (2 ^ (rn : Int).toNat = pw) := by show _ = _; rw [← hpw]; rfl
        clear hpw eb
        by_cases hle : (rn : Int) ≤ last
        · have hd : decide ((rn : Int) ≤ last) = true := decide_eq_true hle
          have HE : Hid (binoE h = 3) := HRK.out.bad3 HX.out hr (Or.inl hle)
          go_wp2_with fail
          refine ci.mono ?_
          rintro e w1 ⟨rfl, rfl⟩
          go_wp2_with fail
          go_quiet (fail)
          go_wp2
          go_ret
          exact ⟨by rw [HE.out]; rfl, q + nq, by rw [← HWQ.out, World.drewN_drewN]⟩
        · have hd : decide ((rn : Int) ≤ last) = false := decide_eq_false hle
          by_cases hlp : ln = pw
          · subst hlp
            have hbn : ((ln : Int) != (ln : Int)) = false := bne_self_eq_false _
            have HRK' : Hid (Ranks h (i + 1) (rn : Int) (all + ln)) := by show Ranks _ _ _ _; rw [← HLN.out]; exact HRK.out.step HX.out hr (fun c => c.elim hle (fun c => c (by rw [HLN.out, HPW.out])))
            have ha2 : all + ln ≤ 192 := by have h1 := HRK'.out.le; have h2 := HRK'.out.low; omega
            have hw1 : IntKind.i64.wrap ((all : Int) + (ln : Int)) = (all : Int) + (ln : Int) := by rw [IntKind.wrap_i64]; omega
            have hi7 : i + 1 ≤ 6 := by have h2 := HRK'.out.low; omega
            go_wp2_with fail
            refine ci.mono ?_
            rintro e w1 ⟨rfl, rfl⟩
            go_wp2_with fail
            go_quiet (first | (go_at_call 27; refine Calls.quiet_of_same (cp _)))
            have y0 : (w1.drewN nq).cell? ⟨blk, off + i * 2, none⟩ = some (.int .i64 (rn : Int)) := x0'
            have y1 : (w1.drewN nq).cell? ⟨blk, off + i * 2 + 1, none⟩ = some (.slice q1 ln d1) := x1'
            go_wp2
            go_roundg (n - (i + 1))
            case measure => omega
            case rel => exact ⟨(rn : Int), all + ln, i + 1, q + nq, rfl, by go_num, by go_num, by omega, Nat.le_refl _, hi7, ha2, by omega, by omega, HRK', by rw [← HWQ.out, World.drewN_drewN]⟩
          · have hbn : ((ln : Int) != (pw : Int)) = true := bne_iff_ne.2 (fun e => hlp (by omega))
            have HE : Hid (binoE h = 3) := HRK.out.bad3 HX.out hr (Or.inr (by rw [HLN.out, HPW.out]; exact hlp))
            go_wp2_with fail
            refine ci.mono ?_
            rintro e w1 ⟨rfl, rfl⟩
            go_wp2_with fail
            go_quiet (first | (go_at_call 27; refine Calls.quiet_of_same (cp _)))
            go_wp2
            go_ret
            exact ⟨by rw [HE.out]; rfl, q + nq, by rw [← HWQ.out, World.drewN_drewN]⟩
    · have hlz : ¬ (i : Int) < (n : Int) := by omega
      obtain rfl : i = n := by omega
      have HOK : Hid (rankE (-1) h = 0 ∧ all = sizeZ h ∧ h.length ≤ 6 ∧ ∀ t ∈ h, 0 ≤ t.1 ∧ t.1 ≤ 5 ∧ t.2.length = 2 ^ t.1.toNat) := Ranks.ok (last := last) (by rw [HN.out]; exact HRK.out)
      go_wp2
      go_loopg [6] i (fun g vi wr => ∃ j q : Nat, vi = .int .i64 j ∧ j ≤ i ∧ i - j ≤ g ∧ Hid (∀ t ∈ h.take j, anyOut t.2.toArray = false) ∧ wr = w.drewN q)
      case atStart => exact ⟨0, q, rfl, Nat.zero_le _, by omega, (show ∀ t ∈ h.take 0, _ from fun t ht => by simp at ht), rfl⟩
      case round =>
        obtain ⟨j, q, rfl, hjn, hg, HO, rfl⟩ := hrel
        by_cases hlt2 : j < i
        · have hlz : (j : Int) < (i : Int) := by omega
          obtain ⟨⟨r, l⟩, hx⟩ : ∃ x, h[j]? = some x := ⟨h[j]'(by rw [HN.out]; omega), by simp⟩
          obtain ⟨blk, off, q1, d1, rfl, hblk, x0, x1, sx⟩ := HH.out.tree hx
          have HX : Hid (h[j]? = some (r, l)) := hx
          have x1' : (w.drewN q).cell? ⟨blk, off + j * 2 + 1, none⟩ = some (.slice q1 l.length d1) := x1
          have hlen : l.length ≤ 32 := by
            obtain ⟨e1, e2, e3⟩ := HOK.out.2.2.2 (r, l) (List.mem_of_getElem? hx)
            simp only at e1 e2 e3
            rw [e3]; exact Nat.pow_le_pow_right (show 0 < 2 by omega) (show r.toNat ≤ 5 by omega)
          have ci := refItems_any _ l.toArray (w.drewN q) (sx.below (below_drewN (Below.refl _ _) q)) (by simp; omega)
          obtain ⟨wq, hwq⟩ : ∃ wq, w.drewN q = wq := ⟨_, rfl⟩
          rw [hwq] at x1' ci ⊢
          have HWQ : Hid (w.drewN q = wq) := hwq
          clear x0 x1 sx hwq hx
          cases ho : anyOut l.toArray with
          | true =>
            have ew : wrong l.toArray = 1 := by unfold wrong; rw [if_neg (by simp; omega), ho]; rfl
            rw [ew] at ci
            have HE : Hid (binoE h = 1) := outE_bad HOK.out.1 HX.out ho
            clear ho ew
            generalize l.length = ln at *
            go_wp2_with fail
            refine ci.mono ?_
            rintro e w1 ⟨rfl, rfl⟩
            go_wp2
            go_ret
            exact ⟨by rw [HE.out]; rfl, q, HWQ.out.symm⟩
          | false =>
            have ew : wrong l.toArray = 0 := by unfold wrong; rw [if_neg (by simp; omega), ho]; rfl
            rw [ew] at ci
            have HO' : Hid (∀ t ∈ h.take (j + 1), anyOut t.2.toArray = false) := fun t ht => by
              obtain ⟨hj, e⟩ := List.getElem?_eq_some_iff.1 HX.out
              rw [List.take_succ_eq_append_getElem hj, e] at ht
              rcases List.mem_append.1 ht with c | c
              · exact HO.out t c
              · rw [List.mem_singleton.1 c]; exact ho
            clear ho ew
            generalize l.length = ln at *
            go_wp2_with fail
            refine ci.mono ?_
            rintro e w1 ⟨rfl, rfl⟩
            go_wp2
            go_roundg (i - (j + 1))
            case measure => omega
            case rel => exact ⟨j + 1, q, by go_num, by omega, Nat.le_refl _, HO', HWQ.out.symm⟩
        · have hlz : ¬ (j : Int) < (i : Int) := by omega
          have HOE : Hid (outE h = 0) := outE_good fun t ht => HO.out t (by rw [List.take_of_length_le (by rw [HN.out]; omega)]; exact ht)
          by_cases hfull : 60 < all
          · have hfz : (60 : Int) < (all : Int) := by omega
            have HE : Hid (binoE h = 4) := by show _ = _; unfold binoE; rw [if_pos HOK.out.1, if_pos HOE.out, if_pos (by rw [← HOK.out.2.1]; exact hfull)]
            go_wp2
            go_ret
            exact ⟨by rw [HE.out]; rfl, q, rfl⟩
          · have hfz : ¬ (60 : Int) < (all : Int) := by omega
            have HSZ : Hid (¬ 60 < sizeZ h) := by show ¬ _; rw [← HOK.out.2.1]; exact hfull
            clear HO
            go_wp2
            go_loopg [8] i (fun g vi wr => ∃ j q : Nat, vi = .int .i64 j ∧ j ≤ i ∧ i - j ≤ g ∧ Hid (∀ t ∈ h.take j, keysB t = true) ∧ wr = w.drewN q)
            case atStart => exact ⟨0, q, rfl, Nat.zero_le _, by omega, (show ∀ t ∈ h.take 0, _ from fun t ht => by simp at ht), rfl⟩
            case round =>
              obtain ⟨j, q, rfl, hjn, hg, HO, rfl⟩ := hrel
              by_cases hlt2 : j < i
              · have hlz : (j : Int) < (i : Int) := by omega
                obtain ⟨⟨r, l⟩, hx⟩ : ∃ x, h[j]? = some x := ⟨h[j]'(by rw [HN.out]; omega), by simp⟩
                obtain ⟨blk, off, q1, d1, rfl, hblk, x0, x1, sx⟩ := HH.out.tree hx
                have HX : Hid (h[j]? = some (r, l)) := hx
                obtain ⟨e1, e2, e3⟩ := HOK.out.2.2.2 (r, l) (List.mem_of_getElem? hx)
                simp only at e1 e2 e3
                obtain ⟨rn, rfl⟩ : ∃ rn : Nat, r = (rn : Int) := ⟨r.toNat, by omega⟩
                have hrn : rn ≤ 5 := by omega
                have e3' : l.length = twoN rn := e3
                obtain ⟨ln, hln⟩ : ∃ ln, l.length = ln := ⟨_, rfl⟩
                have HLN : Hid (l.length = ln) := hln
                have hl2 : ln = twoN rn := by rw [← hln]; exact e3'
                have hlnp : 0 < ln := by rw [hl2]; exact twoN_pos rn
                have hlns : ln ≤ 1048576 := by rw [hl2]; exact twoN_small (by omega)
                have HL2 : Hid (ln = twoN rn) := hl2
                obtain ⟨b2, o2, rfl, hrd⟩ : ∃ b2 o2, q1 = some ⟨b2, o2, none⟩ ∧ RdAt w b2 o2 l.toArray := by
                  obtain ⟨p', c', e', _, c0 | ⟨b2, o2, rfl, hr⟩⟩ := sx
                  · simp at c0; rw [c0] at hln; simp at hln; omega
                  · simp only [Value.slice.injEq] at e'; exact ⟨b2, o2, e'.1, hr⟩
                have HRD : Hid (RdAt w b2 o2 l.toArray) := hrd
                rw [hln] at x1
                have HC0 : Hid (w.cell? ⟨blk, off + j * 2, none⟩ = some (.int .i64 (rn : Int))) := x0
                have x1' : (w.drewN q).cell? ⟨blk, off + j * 2 + 1, none⟩ = some (.slice (some ⟨b2, o2, none⟩) ln d1) := x1
                clear hx sx hrd x0 x1 e1 e2 e3 e3' hl2 hln
                go_wp2
                go_loopg [10] ln (fun g vk wr => ∃ k q : Nat, vk = .int .i64 k ∧ 1 ≤ k ∧ k ≤ ln ∧ ln - k ≤ g ∧ Hid (∀ m, 1 ≤ m → m < k → ¬ keyL l m < keyL l (aboveK rn 0 1 m)) ∧ wr = w.drewN q)
                case atStart => exact ⟨1, q, rfl, Nat.le_refl _, hlnp, by omega, (show ∀ m, _ from fun m h1 h2 => by omega), rfl⟩
                case round =>
                  obtain ⟨k, q, rfl, hk1, hkn, hgk, HK, rfl⟩ := hrel
                  by_cases hltk : k < ln
                  · have hlzk : (k : Int) < (ln : Int) := by omega
                    obtain ⟨A, hA⟩ : ∃ A, aboveK rn 0 1 k = A := ⟨_, rfl⟩
                    have hAk : A < k := by rw [← hA]; exact aboveK_small rn hk1
                    have ca := fun w => above_any rn k A (by omega) hk1 (by rw [← HL2.out]; exact hltk) hA w
                    have HAK : Hid (aboveK rn 0 1 k = A) := hA
                    have hAz : (A : Int) < (ln : Int) := by omega
                    obtain ⟨u0, _⟩ := HRD.out.2 k (by simp; rw [HLN.out]; exact hltk)
                    obtain ⟨v0, _⟩ := HRD.out.2 A (by simp; rw [HLN.out]; omega)
                    rw [keyL_arr (by rw [HLN.out]; exact hltk)] at u0
                    rw [keyL_arr (by rw [HLN.out]; omega)] at v0
                    obtain ⟨kk, hkk⟩ : ∃ x, keyL l k = x := ⟨_, rfl⟩
                    obtain ⟨ka, hka⟩ : ∃ x, keyL l A = x := ⟨_, rfl⟩
                    rw [hkk] at u0
                    rw [hka] at v0
                    have HKK : Hid (keyL l k = kk) := hkk
                    have HKA : Hid (keyL l A = ka) := hka
                    have u0' : (w.drewN q).cell? ⟨b2, o2 + k * 2, none⟩ = some (.int .i64 kk) := u0
                    have v0' : (w.drewN q).cell? ⟨b2, o2 + A * 2, none⟩ = some (.int .i64 ka) := v0
                    have z0' : (w.drewN q).cell? ⟨blk, off + j * 2, none⟩ = some (.int .i64 (rn : Int)) := HC0.out
                    obtain ⟨wq, hwq⟩ : ∃ wq, w.drewN q = wq := ⟨_, rfl⟩
                    rw [hwq] at u0' v0' z0' ⊢
                    have HWQ : Hid (w.drewN q = wq) := hwq
                    clear u0 v0 hkk hka hA hwq x1'
                    by_cases hlt3 : kk < ka
                    · have hd : decide (kk < ka) = true := decide_eq_true hlt3
                      have HE : Hid (binoE h = 3) := keysE_bad HOK.out.1 HOE.out HSZ.out HX.out (keysB_bad (k := k) hk1 (by rw [HLN.out]; exact hltk) (by show keyL l k < keyL l (aboveK rn 0 1 k); rw [HAK.out, HKK.out, HKA.out]; exact hlt3))
                      go_wp2_with fail
                      go_quiet (first | (go_at_call 28; refine Calls.quiet_of_same (ca _)))
                      go_wp2
                      go_ret
                      exact ⟨by rw [HE.out]; rfl, q + nq, by rw [← HWQ.out, World.drewN_drewN]⟩
                    · have hd : decide (kk < ka) = false := decide_eq_false hlt3
                      have HK' : Hid (∀ m, 1 ≤ m → m < k + 1 → ¬ keyL l m < keyL l (aboveK rn 0 1 m)) := fun m h1 h2 => by
                        rcases Nat.lt_or_ge m k with c | c
                        · exact HK.out m h1 c
                        · obtain rfl : m = k := by omega
                          rw [HAK.out, HKK.out, HKA.out]; exact hlt3
                      go_wp2_with fail
                      go_quiet (first | (go_at_call 28; refine Calls.quiet_of_same (ca _)))
                      go_wp2
                      go_roundg (ln - (k + 1))
                      case measure => omega
                      case rel => exact ⟨k + 1, q + nq, by go_num, by omega, by omega, Nat.le_refl _, HK', by rw [← HWQ.out, World.drewN_drewN]⟩
                  · have hlzk : ¬ (k : Int) < (ln : Int) := by omega
                    have HO' : Hid (∀ t ∈ h.take (j + 1), keysB t = true) := fun t ht => by
                      obtain ⟨hj, e⟩ := List.getElem?_eq_some_iff.1 HX.out
                      rw [List.take_succ_eq_append_getElem hj, e] at ht
                      rcases List.mem_append.1 ht with c | c
                      · exact HO.out t c
                      · rw [List.mem_singleton.1 c]
                        exact keysB_good fun m h1 h2 => HK.out m h1 (by rw [HLN.out] at h2; omega)
                    go_wp2
                    go_roundg (i - (j + 1))
                    case measure => omega
                    case rel => exact ⟨j + 1, q, by go_num, by omega, Nat.le_refl _, HO', rfl⟩
              · have hlz : ¬ (j : Int) < (i : Int) := by omega
                have HE : Hid (binoE h = 0) := binoE_good HOK.out.1 HOE.out HSZ.out fun t ht => HO.out t (by rw [List.take_of_length_le (by rw [HN.out]; omega)]; exact ht)
                go_wp2
                go_ret
                exact ⟨by rw [HE.out]; rfl, q, rfl⟩
#print axioms bino_some
end Go.Proofs.YtmkjalpgeljnkaaDoor

/-
  The statements' own Trees and TreeItems: are two heaps of trees the same; all items of one.
-/
namespace Go.Proofs.YtmkjalpgeljnkaaDoor
open Go.RowKit Go.Sort Go.Proofs

theorem trees_none (p1 p2 : Option Addr) (c1 c2 : Nat) (w : World) :
    Calls Tryd.prog 13 #[.slice p1 0 c1, .slice p2 0 c2] w fun e w' => e = .returned (.bool true) ∧ ∃ q, w' = w.drewN q := by
  go_enter Tryd.func13, Tryd.ntmps13
  go_wp2
  go_loop [5] (fun i => i = .int .i64 0) (fun _ => 0)
  case atStart => rfl
  case round =>
    subst hrel
    go_wp2
    go_ret
    exact ⟨rfl, 0, rfl⟩
set_option maxHeartbeats 4000000 in
theorem trees_some (p1 p2 : Option Addr) (c1 c2 n : Nat) (h : List (Int × List (Int × Int))) (w : World) (HX : Hid (HpAt w (.slice p1 n c1) h)) (HY : Hid (HpAt w (.slice p2 n c2) h)) (hn : Hid (h.length = n)) (hsz : n ≤ 1000) (HL : Hid (∀ t ∈ h, t.2.length ≤ 1000)) :
    Calls Tryd.prog 13 #[.slice p1 n c1, .slice p2 n c2] w fun e w' => e = .returned (.bool true) ∧ ∃ q, w' = w.drewN q := by
  go_enter Tryd.func13, Tryd.ntmps13
  go_wp2
  go_loopg [5] n (fun g vi wr => ∃ i q : Nat, vi = .int .i64 i ∧ i ≤ n ∧ n - i ≤ g ∧ wr = w.drewN q)
  case atStart => exact ⟨0, 0, rfl, Nat.zero_le _, by omega, rfl⟩
  case round =>
    obtain ⟨i, q, rfl, hin, hg, rfl⟩ := hrel
    by_cases hlt : i < n
    · have hlz : (i : Int) < (n : Int) := by omega
      obtain ⟨⟨r, l⟩, hx⟩ : ∃ x, h[i]? = some x := ⟨h[i]'(by rw [hn.out]; omega), by simp⟩
      obtain ⟨b1, o1, q1, d1, rfl, hb1, x0, x1, sx⟩ := HX.out.tree hx
      obtain ⟨b2, o2, q2, d2, rfl, hb2, y0, y1, sy⟩ := HY.out.tree hx
      have hl := HL.out (r, l) (List.mem_of_getElem? hx)
      simp only at hl
      have sx' := sx.below (below_drewN (Below.refl _ _) q)
      have sy' := sy.below (below_drewN (Below.refl _ _) q)
      have x0' : (w.drewN q).cell? ⟨b1, o1 + i * 2, none⟩ = some (.int .i64 r) := x0
      have x1' : (w.drewN q).cell? ⟨b1, o1 + i * 2 + 1, none⟩ = some (.slice q1 l.length d1) := x1
      have y0' : (w.drewN q).cell? ⟨b2, o2 + i * 2, none⟩ = some (.int .i64 r) := y0
      have y1' : (w.drewN q).cell? ⟨b2, o2 + i * 2 + 1, none⟩ = some (.slice q2 l.length d2) := y1
      obtain ⟨wq, hwq⟩ : ∃ wq, w.drewN q = wq := ⟨_, rfl⟩
      rw [hwq] at sx' sy' x0' x1' y0' y1' ⊢
      have HWQ : Hid (w.drewN q = wq) := hwq
      clear x0 x1 y0 y1 sx sy hwq
      have ci : ∀ k, Calls Tryd.prog 38 #[.slice q1 l.length d1, .slice q2 l.length d2] (wq.drewN k) fun e w' => e = .returned (.bool true) ∧ ∃ m, w' = wq.drewN m := fun k => by
        have := items_any _ _ l.toArray l.toArray (wq.drewN k) (sx'.below (below_drewN (Below.refl _ _) k)) (sy'.below (below_drewN (Below.refl _ _) k)) (by simp; omega)
        rw [decide_eq_true rfl] at this
        exact this.mono fun e w' ⟨a, m, b⟩ => ⟨a, k + m, by rw [b, World.drewN_drewN]⟩
      have hrr : (r != r) = false := bne_self_eq_false r
      generalize l.length = ln at *
      clear hx sx' sy' hl
      go_wp2_with fail
      go_quiet (first | (go_at_call 38; exact ci _))
      go_wp2
      go_roundg (n - (i + 1))
      case measure => omega
      case rel => exact ⟨i + 1, q + nq, by go_num, by omega, Nat.le_refl _, by rw [← HWQ.out, World.drewN_drewN]⟩
    · have hlz : ¬ (i : Int) < (n : Int) := by omega
      go_wp2
      go_ret
      exact ⟨rfl, q, rfl⟩
theorem trees_same (u v : Value) (h : List (Int × List (Int × Int))) (w : World) (hu : HpAt w u h) (hv : HpAt w v h) (hn : h.length ≤ 1000) (hl : ∀ t ∈ h, t.2.length ≤ 1000) :
    Calls Tryd.prog 13 #[u, v] w fun e w' => e = .returned (.bool true) ∧ Below w.heap.size w w' := by
  obtain ⟨p1, c1, rfl⟩ := hu.form
  obtain ⟨p2, c2, rfl⟩ := hv.form
  exact (trees_some p1 p2 c1 c2 h.length h w hu hv rfl hn hl).mono fun e w' ⟨a, q, b⟩ => ⟨a, by rw [b]; exact below_drewN (Below.refl _ _) q⟩
/-- All items, tree by tree. -/
def allZ (h : List (Int × List (Int × Int))) : List (Int × Int) := h.flatMap (·.2)
theorem allZ_succ {h : List (Int × List (Int × Int))} {i : Nat} {r : Int} {l : List (Int × Int)} (hi : h[i]? = some (r, l)) : allZ (h.take (i + 1)) = allZ (h.take i) ++ l := by
  obtain ⟨hlt, e⟩ := List.getElem?_eq_some_iff.1 hi
  unfold allZ
  rw [List.take_succ_eq_append_getElem hlt, List.flatMap_append, e]
  simp
theorem allZ_le (h : List (Int × List (Int × Int))) (i : Nat) : (allZ (h.take i)).length ≤ (allZ h).length := by
  have e : allZ h = allZ (h.take i) ++ allZ (h.drop i) := by unfold allZ; rw [← List.flatMap_append, List.take_append_drop]
  rw [e, List.length_append]; omega
set_option maxHeartbeats 4000000 in
theorem treeItems_some (p : Option Addr) (n cap : Nat) (h : List (Int × List (Int × Int))) (w : World) (hn : n ≤ 1000) (HN : Hid (h.length = n)) (HA : Hid ((allZ h).length ≤ 1000)) (HH : Hid (HpAt w (.slice p n cap) h)) :
    Calls Tryd.prog 21 #[.slice p n cap] w fun e w' => ∃ u, e = .returned u ∧ OwnI w' w.heap.size u (allZ h) ∧ Below w.heap.size w w' := by
  go_enter Tryd.func21, Tryd.ntmps21
  go_wp2
  go_loopg [3, 4] n (fun gg vo vi wr => ∃ i : Nat, vi = .int .i64 i ∧ i ≤ n ∧ n - i ≤ gg ∧ Hid (OwnI wr w.heap.size vo (allZ (h.take i))) ∧ Hid (Below w.heap.size w wr))
  case atStart => exact ⟨0, rfl, Nat.zero_le _, by omega, (show OwnI _ _ _ _ by simpa [allZ] using OwnI.nil _ _), Below.refl _ _⟩
  case round =>
    obtain ⟨i, rfl, hin, hg, HO, HB⟩ := hrel
    by_cases hlt : i < n
    · have hlz : (i : Int) < (n : Int) := by omega
      obtain ⟨⟨r, l⟩, hx⟩ : ∃ x, h[i]? = some x := ⟨h[i]'(by rw [HN.out]; omega), by simp⟩
      obtain ⟨blk, off, q, c, rfl, hb, c0, c1, sl⟩ := HH.out.tree hx
      have t1 := (HB.out.cell (p := ⟨blk, off + i * 2 + 1, none⟩) hb).trans c1
      have HE : Hid (allZ (h.take (i + 1)) = allZ (h.take i) ++ l) := allZ_succ hx
      have HLE : Hid ((allZ (h.take i)).length + l.length ≤ 1000) := by show _ ≤ _; have h1 := allZ_le h (i + 1); rw [HE.out, List.length_append] at h1; have := HA.out; omega
      have HSL : Hid (Sl wr (.slice q l.length c) l.toArray) := sl.below HB.out
      clear hx sl c0 c1
      go_wp2_with (first | (at_builtin; refine wpList_append_sl rfl (.tmp 11) (.tmp 16) rfl w.heap.size u3 _ (allZ (h.take i)) l.toArray rfl rfl HO.out HSL.out (by rw [List.size_toArray]; have := HLE.out; omega) HB.out.size ?_; intro v2 w2 h2 hg2; have HB2 : Hid (Below w.heap.size w w2) := HB.out.trans (below_of_grown HO.out hg2 (Nat.le_refl _) HB.out.size); have HO2 : Hid (OwnI w2 w.heap.size v2 (allZ (h.take (i + 1)))) := (by show OwnI _ _ _ _; rw [HE.out]; exact h2); clear h2 hg2))
      go_roundg (n - (i + 1))
      case measure => omega
      case rel => exact ⟨i + 1, by go_num, by omega, Nat.le_refl _, HO2, HB2⟩
    · have hlz : ¬ (i : Int) < (n : Int) := by omega
      have HO' : Hid (OwnI wr w.heap.size u3 (allZ h)) := by show OwnI _ _ _ _; have := HO.out; rw [List.take_of_length_le (by rw [HN.out]; omega)] at this; exact this
      go_wp2
      go_ret
      exact ⟨_, rfl, HO'.out, HB.out⟩
#print axioms treeItems_some
end Go.Proofs.YtmkjalpgeljnkaaDoor

/-
  The law BinoSays, walked: what is wrong with any heap of trees, any melded, pushed, and popped.
-/
namespace Go.Proofs.YtmkjalpgeljnkaaDoor
open Go.RowKit Go.Sort Go.Proofs

theorem one_out {x0 x1 : Int} (h : outB (x0, x1) = true) : wrong #[(x0, x1)] = 1 := by unfold wrong anyOut; simp [h]
theorem one_in {x0 x1 : Int} (h : outB (x0, x1) = false) : wrong #[(x0, x1)] = 0 := by unfold wrong anyOut; simp [h]
theorem popOk {g : List TrL} (G : OkH g) (h : g ≠ []) : OkH (popH g) := by
  obtain ⟨_, _, _, _, _, _, _, o, _⟩ := G.pop h
  exact o
theorem bino_says (v : Value) (h : List (Int × List (Int × Int))) (w : World) (H : HpAt w v h) (hn : h.length ≤ 9223372036854775807) (hl : ∀ t ∈ h, t.2.length ≤ 9223372036854775807) :
    Calls Tryd.prog 7 #[v] w fun e w' => e = .returned (.int .i64 (binoE h : Nat)) ∧ Below w.heap.size w w' := by
  obtain ⟨p, c, rfl⟩ := H.form
  exact (bino_some p _ c h w hn rfl H hl).mono fun e w' ⟨a, q, b⟩ => ⟨a, by rw [b]; exact below_drewN (Below.refl _ _) q⟩
theorem size_says (v : Value) (g : List TrL) (w : World) (H : HpAt w v (zH g)) (G : OkH g) :
    Calls Tryd.prog 10 #[v] w fun e w' => e = .returned (.int .i64 ((itemsH g).length : Nat)) ∧ Below w.heap.size w w' := by
  obtain ⟨p, c, rfl⟩ := H.form
  refine (size_any p _ c (zH g) w (by rw [sizeZ_zH]; have := G.size; omega) (by rw [zH_len]; have := G.len_le; omega) rfl H).mono fun e w' ⟨a, b⟩ => ⟨by rw [a, sizeZ_zH], by rw [b]; exact Below.refl _ _⟩
theorem refMeld_heap (va vb : Value) (g1 g2 : List TrL) (w : World) (H1 : HpAt w va (zH g1)) (H2 : HpAt w vb (zH g2)) (G1 : OkH g1) (G2 : OkH g2) :
    Calls Tryd.prog 11 #[va, vb] w fun e w' => ∃ u, e = .returned u ∧ HpAt w' u (zH (meldH g1 g2)) ∧ Below w.heap.size w w' :=
  (binoMeld_ok va vb g1 g2 (fun _ => False) w w (H1.toF (Below.refl _ _)) (H2.toF (Below.refl _ _)) (Below.refl _ _) (fun _ e => e.elim) (fun _ e => e.elim) G1 G2).mono fun _ _ ⟨u, a, ⟨_, b1, b2⟩, c⟩ => ⟨u, a, b2.heap b1, c⟩
theorem trees_says (u v : Value) (g : List TrL) (w : World) (G : OkH g) (hu : HpAt w u (zH g)) (hv : HpAt w v (zH g)) :
    Calls Tryd.prog 13 #[u, v] w fun e w' => e = .returned (.bool true) ∧ Below w.heap.size w w' :=
  trees_same u v _ w hu hv (by rw [zH_len]; have := G.len_le; omega) fun t ht => by
    unfold zH at ht
    obtain ⟨q, hq, rfl⟩ := List.mem_map.1 ht
    have h1 := mem_items_len hq
    have h2 := G.size
    show q.2.length ≤ _
    omega

set_option maxHeartbeats 4000000 in
theorem binoSays_any (v v' : Value) (x0 x1 : Int) (ha hb : List (Int × List (Int × Int))) (w : World) (H : HpAt w v ha) (H' : HpAt w v' hb) (hna : ha.length ≤ 9223372036854775807) (hnb : hb.length ≤ 9223372036854775807) (hla : ∀ t ∈ ha, t.2.length ≤ 9223372036854775807) (hlb : ∀ t ∈ hb, t.2.length ≤ 9223372036854775807) (hgl : Glob w) :
    Calls Tryd.prog 3 #[v, v', .agg #[.int .i64 x0, .int .i64 x1]] w fun e w' => e = .returned (.bool true) ∧ Below w.heap.size w w' := by
  have fa : FitH ha := ⟨by omega, fun t ht => by have := hla t ht; omega⟩
  have fb : FitH hb := ⟨by omega, fun t ht => by have := hlb t ht; omega⟩
  obtain ⟨p, cap, rfl⟩ := H.form
  obtain ⟨p', cap', rfl⟩ := H'.form
  obtain ⟨B, hB⟩ : ∃ B, (w.alloc (.cells #[.int .i64 x0, .int .i64 x1] 24)) = B := ⟨_, rfl⟩
  have hb0 : Below w.heap.size w B := by rw [← hB]; exact (Below.refl _ _).alloc (Nat.le_refl _) _
  have hA0 := H.below hb0
  have hB0 := H'.below hb0
  have hgl0 := hgl.below hb0
  obtain ⟨n, hn⟩ : ∃ n, ha.length = n := ⟨_, rfl⟩
  obtain ⟨n', hn'⟩ : ∃ n', hb.length = n' := ⟨_, rfl⟩
  rw [hn] at hA0 ⊢
  rw [hn'] at hB0 ⊢
  have cE := fun (k : Nat) w1 (hb : Below B.heap.size B w1) => error_any k k w1 (hgl0.below hb)
  have cE0 := fun w1 (hb : Below B.heap.size B w1) => error_any 0 0 w1 (hgl0.below hb)
  simp only [beq_self_eq_true] at cE cE0
  have cT0 : ∀ w1, Below B.heap.size B w1 → Calls Tryd.prog 13 #[.slice none 0 0, .slice none 0 0] w1 fun e w' => e = .returned (.bool true) ∧ Below w1.heap.size w1 w' :=
    fun w1 _ => trees_same _ _ [] w1 (HpAt.nil _ _ _) (HpAt.nil _ _ _) (by simp) (fun t ht => by cases ht)
  have cT : ∀ (g : List TrL), OkH g → ∀ w1 u v, HpAt w1 u (zH g) → HpAt w1 v (zH g) → Calls Tryd.prog 13 #[u, v] w1 fun e w' => e = .returned (.bool true) ∧ Below w1.heap.size w1 w' :=
    fun g G w1 u v h1 h2 => trees_says u v g w1 G h1 h2
  have cX : ∀ (c : Nat), wrong #[(x0, x1)] = c → ∀ w1 g, Sl w1 (.slice (some ⟨g, 0, none⟩) 1 1) #[(x0, x1)] → Calls Tryd.prog 14 #[.slice (some ⟨g, 0, none⟩) 1 1] w1 fun e w' => e = .returned (.int .i64 c) ∧ Below w1.heap.size w1 w' :=
    fun c hc w1 g hl => (refItems_any _ #[(x0, x1)] w1 hl (by simp)).mono fun e w' ⟨a, b⟩ => ⟨by rw [a, hc], by rw [b]; exact Below.refl _ _⟩
  have cRA := fun w1 (hb : Below B.heap.size B w1) => bino_says _ ha w1 (hA0.below hb) hna hla
  have cK := fun w1 (hb : Below B.heap.size B w1) => dcheck_any _ ha w1 (hA0.below hb) fa.1 fa.2
  have cRB := fun w1 (hq : Below B.heap.size B w1) => bino_says _ hb w1 (hB0.below hq) hnb hlb
  by_cases hk0 : binoE ha = 0
  · rw [hk0] at cRA cK
    rw [errV_zero] at cK
    obtain ⟨g1, hg1, G1⟩ := binoE_zero hk0
    subst hg1
    have hnG : g1.length = n := by rw [← zH_len]; exact hn
    obtain ⟨sA, hsA⟩ : ∃ s, (itemsH g1).length = s := ⟨_, rfl⟩
    have hsA60 : sA ≤ 60 := by rw [← hsA]; exact G1.size
    have cSA := fun w1 (hb : Below B.heap.size B w1) => size_says _ g1 w1 (hA0.below hb) G1
    rw [hsA] at cSA
    by_cases hg0' : binoE hb = 0
    · rw [hg0'] at cRB
      obtain ⟨g2, hg2, G2⟩ := binoE_zero hg0'
      subst hg2
      obtain ⟨sB, hsB⟩ : ∃ s, (itemsH g2).length = s := ⟨_, rfl⟩
      have hsB60 : sB ≤ 60 := by rw [← hsB]; exact G2.size
      have cSB := fun w1 (hb : Below B.heap.size B w1) => size_says _ g2 w1 (hB0.below hb) G2
      rw [hsB] at cSB
      by_cases hfull : 60 < sA + sB
      · have cM := fun w1 (hb : Below B.heap.size B w1) => dMeld_bad _ _ _ _ 4 w1 (hA0.below hb) (hB0.below hb) G1.fit G2.fit (by unfold meldE; rw [if_pos (binoE_ok G1), if_pos (binoE_ok G2), if_pos (by rw [sizeZ_zH, sizeZ_zH, hsA, hsB]; exact hfull)]) (by decide)
        cases ho : outB (x0, x1) with
        | true =>
          have cRX := cX 1 (one_out ho)
          have cP := fun w1 (hb : Below B.heap.size B w1) => dPush_bad _ x0 x1 _ 1 w1 (hA0.below hb) G1.fit (by unfold meldE; rw [if_pos (binoE_ok G1), if_neg (by rw [alone_bad ho]; decide), alone_bad ho]) (by decide)
          have hg0 : g1 ≠ [] := fun e => by rw [e] at hsA; simp [itemsH] at hsA; omega
          have hn0 : 0 < n := by rw [← hnG]; exact List.length_pos_iff.2 hg0
          obtain ⟨r, ⟨y0, y1⟩, l, ey, _⟩ := G1.pop hg0
          obtain ⟨R, hR⟩ : ∃ D, zH (popH g1) = D := ⟨_, rfl⟩
          have hOK := (popOk G1 hg0)
          have cTR := cT (popH g1) hOK
          rw [hR] at cTR
          have cRO : ∀ w1, Below B.heap.size B w1 → Calls Tryd.prog 16 #[.slice p n cap] w1 fun e w' => ∃ u, e = .returned (.tuple #[.agg #[.int .i64 y0, .int .i64 y1], u]) ∧ (∀ w2 f, B.heap.size ≤ f → f < w1.heap.size → w'.grownBy w2 (some f) → HpAt w2 u R) ∧ Below w1.heap.size w1 w' := fun w1 hb => by
            refine (binoPop_ok _ g1 B w1 hA0 hb G1 hg0).mono fun e w' ⟨r', x', l', u, a1, a2, a3, a4⟩ => ?_
            rw [ey] at a2
            simp only [Option.some.injEq, Prod.mk.injEq, List.cons.injEq] at a2
            obtain ⟨_, rfl, _⟩ := a2
            exact ⟨u, a1, fun w2 f q1 q2 q3 => by rw [← hR]; exact a3.apart q1 q2 q3, a4⟩
          have cO : ∀ w1, Below B.heap.size B w1 → Calls Tryd.prog 17 #[.slice p n cap] w1 fun e w' => ∃ u, e = .returned (.tuple #[.agg #[.int .i64 y0, .int .i64 y1], u, .nilIface]) ∧ HpAt w' u R ∧ Below w1.heap.size w1 w' := fun w1 hb => by
            refine (dPop_good _ g1 w1 (hA0.below hb) G1 hg0).mono fun e w' ⟨x', l', r', u, a1, a2, a3, a4⟩ => ?_
            rw [ey] at a2
            simp only [Option.some.injEq, Prod.mk.injEq, List.cons.injEq] at a2
            obtain ⟨_, rfl, _⟩ := a2
            exact ⟨u, a1, by rw [← hR]; exact a3.heap, a4⟩
          subst hB
          exact binoSays_9 p p' n cap n' cap' sA sB x0 x1 y0 y1 R w (by rw [IntKind.wrap_i64]; omega) (by omega) (beq_eq_false_iff_ne.2 (by omega)) cE0 cT0 cRA cK cRB (cE 4) cSA cSB cM cRX (cE 1) cP cRO cO cTR
        | false =>
          have cRX := cX 0 (one_in ho)
          by_cases hf : sA = 60
          · have cP := fun w1 (hb : Below B.heap.size B w1) => dPush_bad _ x0 x1 _ 4 w1 (hA0.below hb) G1.fit (by unfold meldE; rw [if_pos (binoE_ok G1), if_pos (binoE_ok (alone_ok ho)), if_pos (by rw [sizeZ_zH, sizeZ_zH, hsA]; simp [itemsH]; omega)]) (by decide)
            have hg0 : g1 ≠ [] := fun e => by rw [e] at hsA; simp [itemsH] at hsA; omega
            have hn0 : 0 < n := by rw [← hnG]; exact List.length_pos_iff.2 hg0
            obtain ⟨r, ⟨y0, y1⟩, l, ey, _⟩ := G1.pop hg0
            obtain ⟨R, hR⟩ : ∃ D, zH (popH g1) = D := ⟨_, rfl⟩
            have hOK := (popOk G1 hg0)
            have cTR := cT (popH g1) hOK
            rw [hR] at cTR
            have cRO : ∀ w1, Below B.heap.size B w1 → Calls Tryd.prog 16 #[.slice p n cap] w1 fun e w' => ∃ u, e = .returned (.tuple #[.agg #[.int .i64 y0, .int .i64 y1], u]) ∧ (∀ w2 f, B.heap.size ≤ f → f < w1.heap.size → w'.grownBy w2 (some f) → HpAt w2 u R) ∧ Below w1.heap.size w1 w' := fun w1 hb => by
              refine (binoPop_ok _ g1 B w1 hA0 hb G1 hg0).mono fun e w' ⟨r', x', l', u, a1, a2, a3, a4⟩ => ?_
              rw [ey] at a2
              simp only [Option.some.injEq, Prod.mk.injEq, List.cons.injEq] at a2
              obtain ⟨_, rfl, _⟩ := a2
              exact ⟨u, a1, fun w2 f q1 q2 q3 => by rw [← hR]; exact a3.apart q1 q2 q3, a4⟩
            have cO : ∀ w1, Below B.heap.size B w1 → Calls Tryd.prog 17 #[.slice p n cap] w1 fun e w' => ∃ u, e = .returned (.tuple #[.agg #[.int .i64 y0, .int .i64 y1], u, .nilIface]) ∧ HpAt w' u R ∧ Below w1.heap.size w1 w' := fun w1 hb => by
              refine (dPop_good _ g1 w1 (hA0.below hb) G1 hg0).mono fun e w' ⟨x', l', r', u, a1, a2, a3, a4⟩ => ?_
              rw [ey] at a2
              simp only [Option.some.injEq, Prod.mk.injEq, List.cons.injEq] at a2
              obtain ⟨_, rfl, _⟩ := a2
              exact ⟨u, a1, by rw [← hR]; exact a3.heap, a4⟩
            subst hf
            subst hB
            exact binoSays_10 p p' n cap n' cap' sB x0 x1 y0 y1 R w (by rw [IntKind.wrap_i64]; omega) (by omega) (beq_eq_false_iff_ne.2 (by omega)) cE0 cT0 cRA cK cRB (cE 4) cSA cSB cM cRX cP cRO cO cTR
          · have hmp := G1.meld (alone_ok ho) (by rw [hsA]; simp [itemsH]; omega)
            obtain ⟨DP, hDP⟩ : ∃ D, zH (meldH g1 (aloneH (x0, x1))) = D := ⟨_, rfl⟩
            have cTP := cT _ hmp.1
            rw [hDP] at cTP
            have cRP : ∀ w1 g, Below B.heap.size B w1 → HpAt w1 (.slice (some ⟨g, 0, none⟩) 1 1) (zH (aloneH (x0, x1))) → Calls Tryd.prog 11 #[.slice p n cap, .slice (some ⟨g, 0, none⟩) 1 1] w1 fun e w' => ∃ u, e = .returned u ∧ HpAt w' u DP ∧ Below w1.heap.size w1 w' := fun w1 g hb hl =>
              (refMeld_heap _ _ g1 (aloneH (x0, x1)) w1 (hA0.below hb) hl G1 (alone_ok ho)).mono fun e w' ⟨u, a, b, c⟩ => ⟨u, a, by rw [← hDP]; exact b, c⟩
            have cP : ∀ w1, Below B.heap.size B w1 → Calls Tryd.prog 15 #[.slice p n cap, .agg #[.int .i64 x0, .int .i64 x1]] w1 fun e w' => ∃ u, e = .returned (.tuple #[u, .nilIface]) ∧ HpAt w' u DP ∧ Below w1.heap.size w1 w' := fun w1 hb =>
              (dPush_good _ x0 x1 g1 w1 (hA0.below hb) G1 ho (by rw [hsA]; omega)).mono fun e w' ⟨u, a, b, c⟩ => ⟨u, a, by rw [← hDP]; exact b.heap, c⟩
            have hg0 : g1 ≠ [] := fun e => by rw [e] at hsA; simp [itemsH] at hsA; omega
            have hn0 : 0 < n := by rw [← hnG]; exact List.length_pos_iff.2 hg0
            obtain ⟨r, ⟨y0, y1⟩, l, ey, _⟩ := G1.pop hg0
            obtain ⟨R, hR⟩ : ∃ D, zH (popH g1) = D := ⟨_, rfl⟩
            have hOK := (popOk G1 hg0)
            have cTR := cT (popH g1) hOK
            rw [hR] at cTR
            have cRO : ∀ w1, Below B.heap.size B w1 → Calls Tryd.prog 16 #[.slice p n cap] w1 fun e w' => ∃ u, e = .returned (.tuple #[.agg #[.int .i64 y0, .int .i64 y1], u]) ∧ (∀ w2 f, B.heap.size ≤ f → f < w1.heap.size → w'.grownBy w2 (some f) → HpAt w2 u R) ∧ Below w1.heap.size w1 w' := fun w1 hb => by
              refine (binoPop_ok _ g1 B w1 hA0 hb G1 hg0).mono fun e w' ⟨r', x', l', u, a1, a2, a3, a4⟩ => ?_
              rw [ey] at a2
              simp only [Option.some.injEq, Prod.mk.injEq, List.cons.injEq] at a2
              obtain ⟨_, rfl, _⟩ := a2
              exact ⟨u, a1, fun w2 f q1 q2 q3 => by rw [← hR]; exact a3.apart q1 q2 q3, a4⟩
            have cO : ∀ w1, Below B.heap.size B w1 → Calls Tryd.prog 17 #[.slice p n cap] w1 fun e w' => ∃ u, e = .returned (.tuple #[.agg #[.int .i64 y0, .int .i64 y1], u, .nilIface]) ∧ HpAt w' u R ∧ Below w1.heap.size w1 w' := fun w1 hb => by
              refine (dPop_good _ g1 w1 (hA0.below hb) G1 hg0).mono fun e w' ⟨x', l', r', u, a1, a2, a3, a4⟩ => ?_
              rw [ey] at a2
              simp only [Option.some.injEq, Prod.mk.injEq, List.cons.injEq] at a2
              obtain ⟨_, rfl, _⟩ := a2
              exact ⟨u, a1, by rw [← hR]; exact a3.heap, a4⟩
            subst hB
            exact binoSays_11 p p' n cap n' cap' sA sB x0 x1 y0 y1 DP R w (by rw [IntKind.wrap_i64]; omega) (by omega) (beq_eq_false_iff_ne.2 (by omega)) (beq_eq_false_iff_ne.2 (by omega)) cE0 cT0 cRA cK cRB (cE 4) cSA cSB cM cRX cRP cP cTP cRO cO cTR
      · have hmm := G1.meld G2 (by rw [hsA, hsB]; omega)
        obtain ⟨DM, hDM⟩ : ∃ D, zH (meldH g1 g2) = D := ⟨_, rfl⟩
        have cTM := cT _ hmm.1
        rw [hDM] at cTM
        have cRM : ∀ w1, Below B.heap.size B w1 → Calls Tryd.prog 11 #[.slice p n cap, .slice p' n' cap'] w1 fun e w' => ∃ u, e = .returned u ∧ HpAt w' u DM ∧ Below w1.heap.size w1 w' := fun w1 hb =>
          (refMeld_heap _ _ g1 g2 w1 (hA0.below hb) (hB0.below hb) G1 G2).mono fun e w' ⟨u, a, b, c⟩ => ⟨u, a, by rw [← hDM]; exact b, c⟩
        have cM : ∀ w1, Below B.heap.size B w1 → Calls Tryd.prog 12 #[.slice p n cap, .slice p' n' cap'] w1 fun e w' => ∃ u, e = .returned (.tuple #[u, .nilIface]) ∧ HpAt w' u DM ∧ Below w1.heap.size w1 w' := fun w1 hb =>
          (dMeld_good _ _ g1 g2 w1 (hA0.below hb) (hB0.below hb) G1 G2 (by rw [hsA, hsB]; omega)).mono fun e w' ⟨u, a, b, c⟩ => ⟨u, a, by rw [← hDM]; exact b.heap, c⟩
        cases ho : outB (x0, x1) with
        | true =>
          have cRX := cX 1 (one_out ho)
          have cP := fun w1 (hb : Below B.heap.size B w1) => dPush_bad _ x0 x1 _ 1 w1 (hA0.below hb) G1.fit (by unfold meldE; rw [if_pos (binoE_ok G1), if_neg (by rw [alone_bad ho]; decide), alone_bad ho]) (by decide)
          by_cases hg0 : g1 = []
          · have hn0 : n = 0 := by rw [← hnG, hg0]; rfl
            subst hn0
            have cO := fun w1 (hb : Below B.heap.size B w1) => dPop_bad _ _ 5 w1 (hA0.below hb) G1.fit (by unfold popE; rw [if_pos (binoE_ok G1), if_pos (by rw [hg0]; rfl)]) (by decide)
            subst hB
            exact binoSays_4 p p' cap n' cap' sA sB x0 x1 DM w (by rw [IntKind.wrap_i64]; omega) (by omega) cE0 cT0 cRA cK cRB cSA cSB cRM cM cTM cRX (cE 1) cP (cE 5) cO
          · have hn0 : 0 < n := by rw [← hnG]; exact List.length_pos_iff.2 hg0
            obtain ⟨r, ⟨y0, y1⟩, l, ey, _⟩ := G1.pop hg0
            obtain ⟨R, hR⟩ : ∃ D, zH (popH g1) = D := ⟨_, rfl⟩
            have hOK := (popOk G1 hg0)
            have cTR := cT (popH g1) hOK
            rw [hR] at cTR
            have cRO : ∀ w1, Below B.heap.size B w1 → Calls Tryd.prog 16 #[.slice p n cap] w1 fun e w' => ∃ u, e = .returned (.tuple #[.agg #[.int .i64 y0, .int .i64 y1], u]) ∧ (∀ w2 f, B.heap.size ≤ f → f < w1.heap.size → w'.grownBy w2 (some f) → HpAt w2 u R) ∧ Below w1.heap.size w1 w' := fun w1 hb => by
              refine (binoPop_ok _ g1 B w1 hA0 hb G1 hg0).mono fun e w' ⟨r', x', l', u, a1, a2, a3, a4⟩ => ?_
              rw [ey] at a2
              simp only [Option.some.injEq, Prod.mk.injEq, List.cons.injEq] at a2
              obtain ⟨_, rfl, _⟩ := a2
              exact ⟨u, a1, fun w2 f q1 q2 q3 => by rw [← hR]; exact a3.apart q1 q2 q3, a4⟩
            have cO : ∀ w1, Below B.heap.size B w1 → Calls Tryd.prog 17 #[.slice p n cap] w1 fun e w' => ∃ u, e = .returned (.tuple #[.agg #[.int .i64 y0, .int .i64 y1], u, .nilIface]) ∧ HpAt w' u R ∧ Below w1.heap.size w1 w' := fun w1 hb => by
              refine (dPop_good _ g1 w1 (hA0.below hb) G1 hg0).mono fun e w' ⟨x', l', r', u, a1, a2, a3, a4⟩ => ?_
              rw [ey] at a2
              simp only [Option.some.injEq, Prod.mk.injEq, List.cons.injEq] at a2
              obtain ⟨_, rfl, _⟩ := a2
              exact ⟨u, a1, by rw [← hR]; exact a3.heap, a4⟩
            subst hB
            exact binoSays_12 p p' n cap n' cap' sA sB x0 x1 y0 y1 DM R w (by rw [IntKind.wrap_i64]; omega) (by omega) (beq_eq_false_iff_ne.2 (by omega)) cE0 cT0 cRA cK cRB cSA cSB cRM cM cTM cRX (cE 1) cP cRO cO cTR
        | false =>
          have cRX := cX 0 (one_in ho)
          by_cases hf : sA = 60
          · have cP := fun w1 (hb : Below B.heap.size B w1) => dPush_bad _ x0 x1 _ 4 w1 (hA0.below hb) G1.fit (by unfold meldE; rw [if_pos (binoE_ok G1), if_pos (binoE_ok (alone_ok ho)), if_pos (by rw [sizeZ_zH, sizeZ_zH, hsA]; simp [itemsH]; omega)]) (by decide)
            have hg0 : g1 ≠ [] := fun e => by rw [e] at hsA; simp [itemsH] at hsA; omega
            have hn0 : 0 < n := by rw [← hnG]; exact List.length_pos_iff.2 hg0
            obtain ⟨r, ⟨y0, y1⟩, l, ey, _⟩ := G1.pop hg0
            obtain ⟨R, hR⟩ : ∃ D, zH (popH g1) = D := ⟨_, rfl⟩
            have hOK := (popOk G1 hg0)
            have cTR := cT (popH g1) hOK
            rw [hR] at cTR
            have cRO : ∀ w1, Below B.heap.size B w1 → Calls Tryd.prog 16 #[.slice p n cap] w1 fun e w' => ∃ u, e = .returned (.tuple #[.agg #[.int .i64 y0, .int .i64 y1], u]) ∧ (∀ w2 f, B.heap.size ≤ f → f < w1.heap.size → w'.grownBy w2 (some f) → HpAt w2 u R) ∧ Below w1.heap.size w1 w' := fun w1 hb => by
              refine (binoPop_ok _ g1 B w1 hA0 hb G1 hg0).mono fun e w' ⟨r', x', l', u, a1, a2, a3, a4⟩ => ?_
              rw [ey] at a2
              simp only [Option.some.injEq, Prod.mk.injEq, List.cons.injEq] at a2
              obtain ⟨_, rfl, _⟩ := a2
              exact ⟨u, a1, fun w2 f q1 q2 q3 => by rw [← hR]; exact a3.apart q1 q2 q3, a4⟩
            have cO : ∀ w1, Below B.heap.size B w1 → Calls Tryd.prog 17 #[.slice p n cap] w1 fun e w' => ∃ u, e = .returned (.tuple #[.agg #[.int .i64 y0, .int .i64 y1], u, .nilIface]) ∧ HpAt w' u R ∧ Below w1.heap.size w1 w' := fun w1 hb => by
              refine (dPop_good _ g1 w1 (hA0.below hb) G1 hg0).mono fun e w' ⟨x', l', r', u, a1, a2, a3, a4⟩ => ?_
              rw [ey] at a2
              simp only [Option.some.injEq, Prod.mk.injEq, List.cons.injEq] at a2
              obtain ⟨_, rfl, _⟩ := a2
              exact ⟨u, a1, by rw [← hR]; exact a3.heap, a4⟩
            subst hf
            subst hB
            exact binoSays_13 p p' n cap n' cap' sB x0 x1 y0 y1 DM R w (by rw [IntKind.wrap_i64]; omega) (by omega) (beq_eq_false_iff_ne.2 (by omega)) cE0 cT0 cRA cK cRB cSA cSB cRM cM cTM cRX (cE 4) cP cRO cO cTR
          · have hmp := G1.meld (alone_ok ho) (by rw [hsA]; simp [itemsH]; omega)
            obtain ⟨DP, hDP⟩ : ∃ D, zH (meldH g1 (aloneH (x0, x1))) = D := ⟨_, rfl⟩
            have cTP := cT _ hmp.1
            rw [hDP] at cTP
            have cRP : ∀ w1 g, Below B.heap.size B w1 → HpAt w1 (.slice (some ⟨g, 0, none⟩) 1 1) (zH (aloneH (x0, x1))) → Calls Tryd.prog 11 #[.slice p n cap, .slice (some ⟨g, 0, none⟩) 1 1] w1 fun e w' => ∃ u, e = .returned u ∧ HpAt w' u DP ∧ Below w1.heap.size w1 w' := fun w1 g hb hl =>
              (refMeld_heap _ _ g1 (aloneH (x0, x1)) w1 (hA0.below hb) hl G1 (alone_ok ho)).mono fun e w' ⟨u, a, b, c⟩ => ⟨u, a, by rw [← hDP]; exact b, c⟩
            have cP : ∀ w1, Below B.heap.size B w1 → Calls Tryd.prog 15 #[.slice p n cap, .agg #[.int .i64 x0, .int .i64 x1]] w1 fun e w' => ∃ u, e = .returned (.tuple #[u, .nilIface]) ∧ HpAt w' u DP ∧ Below w1.heap.size w1 w' := fun w1 hb =>
              (dPush_good _ x0 x1 g1 w1 (hA0.below hb) G1 ho (by rw [hsA]; omega)).mono fun e w' ⟨u, a, b, c⟩ => ⟨u, a, by rw [← hDP]; exact b.heap, c⟩
            by_cases hg0 : g1 = []
            · have hn0 : n = 0 := by rw [← hnG, hg0]; rfl
              subst hn0
              have cO := fun w1 (hb : Below B.heap.size B w1) => dPop_bad _ _ 5 w1 (hA0.below hb) G1.fit (by unfold popE; rw [if_pos (binoE_ok G1), if_pos (by rw [hg0]; rfl)]) (by decide)
              subst hB
              exact binoSays_5 p p' cap n' cap' sA sB x0 x1 DM DP w (by rw [IntKind.wrap_i64]; omega) (by omega) (beq_eq_false_iff_ne.2 (by omega)) cE0 cT0 cRA cK cRB cSA cSB cRM cM cTM cRX cRP cP cTP (cE 5) cO
            · have hn0 : 0 < n := by rw [← hnG]; exact List.length_pos_iff.2 hg0
              obtain ⟨r, ⟨y0, y1⟩, l, ey, _⟩ := G1.pop hg0
              obtain ⟨R, hR⟩ : ∃ D, zH (popH g1) = D := ⟨_, rfl⟩
              have hOK := (popOk G1 hg0)
              have cTR := cT (popH g1) hOK
              rw [hR] at cTR
              have cRO : ∀ w1, Below B.heap.size B w1 → Calls Tryd.prog 16 #[.slice p n cap] w1 fun e w' => ∃ u, e = .returned (.tuple #[.agg #[.int .i64 y0, .int .i64 y1], u]) ∧ (∀ w2 f, B.heap.size ≤ f → f < w1.heap.size → w'.grownBy w2 (some f) → HpAt w2 u R) ∧ Below w1.heap.size w1 w' := fun w1 hb => by
                refine (binoPop_ok _ g1 B w1 hA0 hb G1 hg0).mono fun e w' ⟨r', x', l', u, a1, a2, a3, a4⟩ => ?_
                rw [ey] at a2
                simp only [Option.some.injEq, Prod.mk.injEq, List.cons.injEq] at a2
                obtain ⟨_, rfl, _⟩ := a2
                exact ⟨u, a1, fun w2 f q1 q2 q3 => by rw [← hR]; exact a3.apart q1 q2 q3, a4⟩
              have cO : ∀ w1, Below B.heap.size B w1 → Calls Tryd.prog 17 #[.slice p n cap] w1 fun e w' => ∃ u, e = .returned (.tuple #[.agg #[.int .i64 y0, .int .i64 y1], u, .nilIface]) ∧ HpAt w' u R ∧ Below w1.heap.size w1 w' := fun w1 hb => by
                refine (dPop_good _ g1 w1 (hA0.below hb) G1 hg0).mono fun e w' ⟨x', l', r', u, a1, a2, a3, a4⟩ => ?_
                rw [ey] at a2
                simp only [Option.some.injEq, Prod.mk.injEq, List.cons.injEq] at a2
                obtain ⟨_, rfl, _⟩ := a2
                exact ⟨u, a1, by rw [← hR]; exact a3.heap, a4⟩
              subst hB
              exact binoSays_14 p p' n cap n' cap' sA sB x0 x1 y0 y1 DM DP R w (by rw [IntKind.wrap_i64]; omega) (by omega) (beq_eq_false_iff_ne.2 (by omega)) (beq_eq_false_iff_ne.2 (by omega)) cE0 cRA cK cRB cSA cSB cRM cM cTM cRX cRP cP cTP cRO cO cTR
    · obtain ⟨g, hg⟩ : ∃ g, binoE hb = g := ⟨_, rfl⟩
      have hgn : g ≠ 0 := by rw [← hg]; exact hg0'
      rw [hg] at cRB
      have cM := fun w1 (hq : Below B.heap.size B w1) => dMeld_bad _ _ _ _ g w1 (hA0.below hq) (hB0.below hq) G1.fit fb (by unfold meldE; rw [if_pos (binoE_ok G1), if_neg hg0', hg]) hgn
      have cEg := cE g
      rw [errV_pos hgn] at cEg
      cases ho : outB (x0, x1) with
      | true =>
        have cRX := cX 1 (one_out ho)
        have cP := fun w1 (hb : Below B.heap.size B w1) => dPush_bad _ x0 x1 _ 1 w1 (hA0.below hb) G1.fit (by unfold meldE; rw [if_pos (binoE_ok G1), if_neg (by rw [alone_bad ho]; decide), alone_bad ho]) (by decide)
        by_cases hg0 : g1 = []
        · have hn0 : n = 0 := by rw [← hnG, hg0]; rfl
          subst hn0
          have cO := fun w1 (hb : Below B.heap.size B w1) => dPop_bad _ _ 5 w1 (hA0.below hb) G1.fit (by unfold popE; rw [if_pos (binoE_ok G1), if_pos (by rw [hg0]; rfl)]) (by decide)
          subst hB
          exact binoSays_2 p p' cap n' cap' g x0 x1 w (beq_eq_false_iff_ne.2 (by omega)) cE0 cT0 cRA cK cRB cEg cM cRX (cE 1) cP (cE 5) cO
        · have hn0 : 0 < n := by rw [← hnG]; exact List.length_pos_iff.2 hg0
          obtain ⟨r, ⟨y0, y1⟩, l, ey, _⟩ := G1.pop hg0
          obtain ⟨R, hR⟩ : ∃ D, zH (popH g1) = D := ⟨_, rfl⟩
          have hOK := (popOk G1 hg0)
          have cTR := cT (popH g1) hOK
          rw [hR] at cTR
          have cRO : ∀ w1, Below B.heap.size B w1 → Calls Tryd.prog 16 #[.slice p n cap] w1 fun e w' => ∃ u, e = .returned (.tuple #[.agg #[.int .i64 y0, .int .i64 y1], u]) ∧ (∀ w2 f, B.heap.size ≤ f → f < w1.heap.size → w'.grownBy w2 (some f) → HpAt w2 u R) ∧ Below w1.heap.size w1 w' := fun w1 hb => by
            refine (binoPop_ok _ g1 B w1 hA0 hb G1 hg0).mono fun e w' ⟨r', x', l', u, a1, a2, a3, a4⟩ => ?_
            rw [ey] at a2
            simp only [Option.some.injEq, Prod.mk.injEq, List.cons.injEq] at a2
            obtain ⟨_, rfl, _⟩ := a2
            exact ⟨u, a1, fun w2 f q1 q2 q3 => by rw [← hR]; exact a3.apart q1 q2 q3, a4⟩
          have cO : ∀ w1, Below B.heap.size B w1 → Calls Tryd.prog 17 #[.slice p n cap] w1 fun e w' => ∃ u, e = .returned (.tuple #[.agg #[.int .i64 y0, .int .i64 y1], u, .nilIface]) ∧ HpAt w' u R ∧ Below w1.heap.size w1 w' := fun w1 hb => by
            refine (dPop_good _ g1 w1 (hA0.below hb) G1 hg0).mono fun e w' ⟨x', l', r', u, a1, a2, a3, a4⟩ => ?_
            rw [ey] at a2
            simp only [Option.some.injEq, Prod.mk.injEq, List.cons.injEq] at a2
            obtain ⟨_, rfl, _⟩ := a2
            exact ⟨u, a1, by rw [← hR]; exact a3.heap, a4⟩
          subst hB
          exact binoSays_6 p p' n cap n' cap' g x0 x1 y0 y1 R w (beq_eq_false_iff_ne.2 (by omega)) (beq_eq_false_iff_ne.2 (by omega)) cE0 cT0 cRA cK cRB cEg cM cRX (cE 1) cP cRO cO cTR
      | false =>
        have cRX := cX 0 (one_in ho)
        by_cases hf : sA = 60
        · have cP := fun w1 (hb : Below B.heap.size B w1) => dPush_bad _ x0 x1 _ 4 w1 (hA0.below hb) G1.fit (by unfold meldE; rw [if_pos (binoE_ok G1), if_pos (binoE_ok (alone_ok ho)), if_pos (by rw [sizeZ_zH, sizeZ_zH, hsA]; simp [itemsH]; omega)]) (by decide)
          have hg0 : g1 ≠ [] := fun e => by rw [e] at hsA; simp [itemsH] at hsA; omega
          have hn0 : 0 < n := by rw [← hnG]; exact List.length_pos_iff.2 hg0
          obtain ⟨r, ⟨y0, y1⟩, l, ey, _⟩ := G1.pop hg0
          obtain ⟨R, hR⟩ : ∃ D, zH (popH g1) = D := ⟨_, rfl⟩
          have hOK := (popOk G1 hg0)
          have cTR := cT (popH g1) hOK
          rw [hR] at cTR
          have cRO : ∀ w1, Below B.heap.size B w1 → Calls Tryd.prog 16 #[.slice p n cap] w1 fun e w' => ∃ u, e = .returned (.tuple #[.agg #[.int .i64 y0, .int .i64 y1], u]) ∧ (∀ w2 f, B.heap.size ≤ f → f < w1.heap.size → w'.grownBy w2 (some f) → HpAt w2 u R) ∧ Below w1.heap.size w1 w' := fun w1 hb => by
            refine (binoPop_ok _ g1 B w1 hA0 hb G1 hg0).mono fun e w' ⟨r', x', l', u, a1, a2, a3, a4⟩ => ?_
            rw [ey] at a2
            simp only [Option.some.injEq, Prod.mk.injEq, List.cons.injEq] at a2
            obtain ⟨_, rfl, _⟩ := a2
            exact ⟨u, a1, fun w2 f q1 q2 q3 => by rw [← hR]; exact a3.apart q1 q2 q3, a4⟩
          have cO : ∀ w1, Below B.heap.size B w1 → Calls Tryd.prog 17 #[.slice p n cap] w1 fun e w' => ∃ u, e = .returned (.tuple #[.agg #[.int .i64 y0, .int .i64 y1], u, .nilIface]) ∧ HpAt w' u R ∧ Below w1.heap.size w1 w' := fun w1 hb => by
            refine (dPop_good _ g1 w1 (hA0.below hb) G1 hg0).mono fun e w' ⟨x', l', r', u, a1, a2, a3, a4⟩ => ?_
            rw [ey] at a2
            simp only [Option.some.injEq, Prod.mk.injEq, List.cons.injEq] at a2
            obtain ⟨_, rfl, _⟩ := a2
            exact ⟨u, a1, by rw [← hR]; exact a3.heap, a4⟩
          subst hf
          subst hB
          exact binoSays_7 p p' n cap n' cap' g x0 x1 y0 y1 R w (beq_eq_false_iff_ne.2 (by omega)) (beq_eq_false_iff_ne.2 (by omega)) cE0 cT0 cRA cK cRB cEg cM cRX cSA (cE 4) cP cRO cO cTR
        · have hmp := G1.meld (alone_ok ho) (by rw [hsA]; simp [itemsH]; omega)
          obtain ⟨DP, hDP⟩ : ∃ D, zH (meldH g1 (aloneH (x0, x1))) = D := ⟨_, rfl⟩
          have cTP := cT _ hmp.1
          rw [hDP] at cTP
          have cRP : ∀ w1 g, Below B.heap.size B w1 → HpAt w1 (.slice (some ⟨g, 0, none⟩) 1 1) (zH (aloneH (x0, x1))) → Calls Tryd.prog 11 #[.slice p n cap, .slice (some ⟨g, 0, none⟩) 1 1] w1 fun e w' => ∃ u, e = .returned u ∧ HpAt w' u DP ∧ Below w1.heap.size w1 w' := fun w1 g hb hl =>
            (refMeld_heap _ _ g1 (aloneH (x0, x1)) w1 (hA0.below hb) hl G1 (alone_ok ho)).mono fun e w' ⟨u, a, b, c⟩ => ⟨u, a, by rw [← hDP]; exact b, c⟩
          have cP : ∀ w1, Below B.heap.size B w1 → Calls Tryd.prog 15 #[.slice p n cap, .agg #[.int .i64 x0, .int .i64 x1]] w1 fun e w' => ∃ u, e = .returned (.tuple #[u, .nilIface]) ∧ HpAt w' u DP ∧ Below w1.heap.size w1 w' := fun w1 hb =>
            (dPush_good _ x0 x1 g1 w1 (hA0.below hb) G1 ho (by rw [hsA]; omega)).mono fun e w' ⟨u, a, b, c⟩ => ⟨u, a, by rw [← hDP]; exact b.heap, c⟩
          by_cases hg0 : g1 = []
          · have hn0 : n = 0 := by rw [← hnG, hg0]; rfl
            subst hn0
            have cO := fun w1 (hb : Below B.heap.size B w1) => dPop_bad _ _ 5 w1 (hA0.below hb) G1.fit (by unfold popE; rw [if_pos (binoE_ok G1), if_pos (by rw [hg0]; rfl)]) (by decide)
            subst hB
            exact binoSays_3 p p' cap n' cap' g sA x0 x1 DP w (beq_eq_false_iff_ne.2 (by omega)) (beq_eq_false_iff_ne.2 (by omega)) cE0 cT0 cRA cK cRB cEg cM cRX cSA cRP cP cTP (cE 5) cO
          · have hn0 : 0 < n := by rw [← hnG]; exact List.length_pos_iff.2 hg0
            obtain ⟨r, ⟨y0, y1⟩, l, ey, _⟩ := G1.pop hg0
            obtain ⟨R, hR⟩ : ∃ D, zH (popH g1) = D := ⟨_, rfl⟩
            have hOK := (popOk G1 hg0)
            have cTR := cT (popH g1) hOK
            rw [hR] at cTR
            have cRO : ∀ w1, Below B.heap.size B w1 → Calls Tryd.prog 16 #[.slice p n cap] w1 fun e w' => ∃ u, e = .returned (.tuple #[.agg #[.int .i64 y0, .int .i64 y1], u]) ∧ (∀ w2 f, B.heap.size ≤ f → f < w1.heap.size → w'.grownBy w2 (some f) → HpAt w2 u R) ∧ Below w1.heap.size w1 w' := fun w1 hb => by
              refine (binoPop_ok _ g1 B w1 hA0 hb G1 hg0).mono fun e w' ⟨r', x', l', u, a1, a2, a3, a4⟩ => ?_
              rw [ey] at a2
              simp only [Option.some.injEq, Prod.mk.injEq, List.cons.injEq] at a2
              obtain ⟨_, rfl, _⟩ := a2
              exact ⟨u, a1, fun w2 f q1 q2 q3 => by rw [← hR]; exact a3.apart q1 q2 q3, a4⟩
            have cO : ∀ w1, Below B.heap.size B w1 → Calls Tryd.prog 17 #[.slice p n cap] w1 fun e w' => ∃ u, e = .returned (.tuple #[.agg #[.int .i64 y0, .int .i64 y1], u, .nilIface]) ∧ HpAt w' u R ∧ Below w1.heap.size w1 w' := fun w1 hb => by
              refine (dPop_good _ g1 w1 (hA0.below hb) G1 hg0).mono fun e w' ⟨x', l', r', u, a1, a2, a3, a4⟩ => ?_
              rw [ey] at a2
              simp only [Option.some.injEq, Prod.mk.injEq, List.cons.injEq] at a2
              obtain ⟨_, rfl, _⟩ := a2
              exact ⟨u, a1, by rw [← hR]; exact a3.heap, a4⟩
            subst hB
            exact binoSays_8 p p' n cap n' cap' g sA x0 x1 y0 y1 DP R w (beq_eq_false_iff_ne.2 (by omega)) (beq_eq_false_iff_ne.2 (by omega)) (beq_eq_false_iff_ne.2 (by omega)) cE0 cT0 cRA cK cRB cEg cM cRX cSA cRP cP cTP cRO cO cTR
  · obtain ⟨k, hk⟩ : ∃ k, binoE ha = k := ⟨_, rfl⟩
    have hkn : k ≠ 0 := by rw [← hk]; exact hk0
    rw [hk] at cRA cK
    rw [errV_pos hkn] at cK
    have cM := fun w1 (hq : Below B.heap.size B w1) => dMeld_bad _ _ _ _ k w1 (hA0.below hq) (hB0.below hq) fa fb (by unfold meldE; rw [if_neg hk0, hk]) hkn
    have cP := fun w1 (hq : Below B.heap.size B w1) => dPush_bad _ x0 x1 _ k w1 (hA0.below hq) fa (by unfold meldE; rw [if_neg hk0, hk]) hkn
    have cO := fun w1 (hq : Below B.heap.size B w1) => dPop_bad _ _ k w1 (hA0.below hq) fa (by unfold popE; rw [if_neg hk0, hk]) hkn
    have cEk := cE k
    rw [errV_pos hkn] at cEk
    subst hB
    exact binoSays_1 p p' n cap n' cap' k x0 x1 w (beq_eq_false_iff_ne.2 (by omega)) cT0 cRA cK cEk cM cP cO
#print axioms binoSays_any
end Go.Proofs.YtmkjalpgeljnkaaDoor

/-
  A heap of trees that came in, read: what the walks are told of it.
-/
namespace Go.Proofs.YtmkjalpgeljnkaaDoor
open Go.RowKit Go.Proofs Go.Deep Go.ChangeShapes Go.WideShapes

theorem cells_tree : Tryd.prog.cellsOf 37 = 2 := by kernel_rfl
theorem cells_intT : Tryd.prog.cellsOf 3 = 1 := by kernel_rfl
theorem cells_itemsT : Tryd.prog.cellsOf 35 = 1 := by kernel_rfl
theorem list_twoT {β : Type} : ∀ l : List β, l.length = 2 → ∃ a b, l = [a, b]
  | [a, b], _ => ⟨a, b, rfl⟩
theorem open_trees {H : Type} {enc : TypeId × Value → H} {W : World} {fuel : Nat} {p : Option Addr} {len cap : Nat} {x : DataW H × List MemPlace}
    (h : DataW.trod enc Tryd.prog W 0 (fun _ => true) true fuel 22 [.slice p len cap] = some x) : ∃ hh : List (Int × List (Int × Int)), HpAt W (.slice p len cap) hh ∧ hh.length = len ∧ len ≤ maxLen ∧ ∀ t ∈ hh, t.2.length ≤ maxLen := by
  rcases open_slice Tryd.underlying22 h with ⟨hcs, _⟩ | ⟨a, l, c, m, n, D, Pl, hcs, _, hl, hm, hmeq, _, hall⟩
  · simp only [List.cons.injEq, and_true, Value.slice.injEq] at hcs
    obtain ⟨rfl, rfl, rfl⟩ := hcs
    exact ⟨[], HpAt.nil _ _ _, rfl, Nat.zero_le _, fun t ht => by cases ht⟩
  · simp only [List.cons.injEq, and_true, Value.slice.injEq] at hcs
    obtain ⟨rfl, rfl, rfl⟩ := hcs
    simp only [if_true] at hmeq
    subst hmeq
    rw [cells_tree] at hall
    have key : ∀ i, ∃ q : (Int × SlV) × List (Int × Int), i < m → (∀ t v, (ET.enc q.1)[t]? = some v → W.cell? (a.add (i * 2 + t)) = some v) ∧ Sl W (.slice q.1.2.1 q.1.2.2.1 q.1.2.2.2) q.2.toArray ∧ q.2.length ≤ maxLen := fun i => by
      by_cases hi : i < m
      · obtain ⟨cs', h1, h2⟩ := hall i hi
        obtain ⟨_, hlen, hcell⟩ := World.cells?_some h1
        obtain ⟨xs, k, hk, hxy, _, hxl, hf⟩ := DataW.trod_struct Tryd.underlying37 h2
        obtain ⟨v0, v1, rfl⟩ := list_twoT cs' hlen
        obtain ⟨y0, y1, rfl⟩ := list_twoT xs hxl
        have g0 := hf 0 _ rfl
        have g1 := hf 1 _ rfl
        simp [cells_intT, cells_itemsT] at g0 g1
        obtain ⟨k0, e0, _⟩ := DataW.trod_int Tryd.underlying3 g0
        simp only [List.cons.injEq, and_true] at e0
        subst e0
        obtain ⟨sp, sn, sc, rfl⟩ : ∃ sp sn sc, v1 = .slice sp sn sc := by
          rcases open_slice Tryd.underlying35 g1 with ⟨q, _⟩ | ⟨a', l', c', _, _, _, _, q, _⟩
          · simp only [List.cons.injEq, and_true] at q; exact ⟨_, _, _, q⟩
          · simp only [List.cons.injEq, and_true] at q; exact ⟨_, _, _, q⟩
        obtain ⟨zs, z1, z2, z3⟩ := open_items g1
        refine ⟨((k0, sp, sn, sc), zs.toList), fun _ => ⟨fun t v hv => ?_, by simpa using z1, by simpa using z3⟩⟩
        have ht : t < 2 := by have := (List.getElem?_eq_some_iff.1 hv).1; exact this
        have hc := hcell t ht
        rw [add_add] at hc
        rw [hc]
        match t, hv, ht with
        | 0, hv, _ => cases hv; rfl
        | 1, hv, _ => cases hv; rfl
        | t + 2, _, ht => omega
      · exact ⟨((0, none, 0, 0), []), fun h => absurd h hi⟩
    obtain ⟨q, hq⟩ := Classical.axiomOfChoice key
    have hget : ∀ i (x : (Int × List (Int × Int))), ((List.range len).map fun i => ((q i).1.1, (q i).2))[i]? = some x → i < len ∧ x = ((q i).1.1, (q i).2) := fun i x hx => by
      have hi : i < len := by have := (List.getElem?_eq_some_iff.1 hx).1; simpa using this
      refine ⟨hi, ?_⟩
      have : some ((q i).1.1, (q i).2) = some x := by simpa [hi] using hx
      exact (Option.some.inj this).symm
    refine ⟨(List.range len).map fun i => ((q i).1.1, (q i).2), ?_, by simp, by omega, fun t ht => ?_⟩
    · have hts : ((List.range len).map fun i => (q i).1).length = len := by simp
      refine ⟨(List.range len).map fun i => (q i).1, ?_, by simp, fun i r l hx => ?_⟩
      · rcases Nat.eq_zero_or_pos len with h0 | h0
        · subst h0; exact SlE.empty _ _ _
        · obtain ⟨b, off, spot⟩ := a
          have hc0 := (hq 0 (by omega)).1 0 _ rfl
          have hspot : spot = none := by simpa [Addr.add] using World.cell?_spot hc0
          subst hspot
          have hadd : ∀ j, (⟨b, off, none⟩ : Addr).add j = ⟨b, off + j, none⟩ := fun j => by unfold Addr.add; split <;> simp_all
          have hlt : b < W.heap.size := by
            rw [hadd] at hc0
            by_cases hb : b < W.heap.size
            · exact hb
            · exfalso
              have : W.heap[b]? = none := Array.getElem?_eq_none (by omega)
              simp [World.cell?, this] at hc0
          refine SlE.of_rd ⟨hlt, fun j v hv => ?_⟩ hts hl
          have hj : j < len * 2 := by have := (List.getElem?_eq_some_iff.1 hv).1; rw [El.flat_len, hts] at this; exact this
          have hdm : j / 2 < ((List.range len).map fun i => (q i).1).length := by rw [hts]; omega
          have hc : j % 2 < 2 := Nat.mod_lt _ (by decide)
          have ej : j / 2 * 2 + j % 2 = j := Nat.div_add_mod' j 2
          have hv2 : (ET.flat ((List.range len).map fun i => (q i).1))[j / 2 * ET.K + j % 2]? = some v := by
            rw [show j / 2 * ET.K + j % 2 = j from ej]; exact hv
          rw [El.flat_get ET _ (j / 2) hdm (j % 2) hc] at hv2
          simp only [List.getElem_map, List.getElem_range] at hv2
          have := (hq (j / 2) (by omega)).1 (j % 2) v hv2
          rw [hadd, ej] at this
          exact this
      · obtain ⟨hi, e⟩ := hget i (r, l) hx
        simp only [Prod.mk.injEq] at e
        obtain ⟨rfl, rfl⟩ := e
        exact ⟨(q i).1.2, by simp [hi], (hq i (by omega)).2.1⟩
    · obtain ⟨i, hi, rfl⟩ := List.mem_map.1 ht
      exact (hq i (by have := List.mem_range.1 hi; omega)).2.2
end Go.Proofs.YtmkjalpgeljnkaaDoor

/-
  An item that came in by itself, read.
-/
namespace Go.Proofs.YtmkjalpgeljnkaaDoor
open Go.RowKit Go.Sort Go.Proofs Go.Deep Go.ChangeShapes Go.WideShapes

set_option maxRecDepth 20000 in
theorem open_item {H : Type} {enc : TypeId × Value → H} {W : World} {r : Reach} {b0 : Nat} {v : Value} {d : DataW H} {ps : List MemPlace} (hval : Value.okWide Tryd.prog W r b0 24 v)
    (h : DataW.Trod enc Tryd.prog W 0 (fun _ => true) true 24 v d ps) : ∃ a b : Int, v = .agg #[.int .i64 a, .int .i64 b] := by
  obtain ⟨cs, rfl, hs⟩ := okWide_struct Tryd.underlying24 hval
  rw [cells_item] at hs
  obtain ⟨fuel, hf⟩ := h
  obtain ⟨y0, y1, n, _, hl, h0, h1⟩ := trod_struct2 Tryd.underlying24 hf
  obtain ⟨l⟩ := cs
  match l, hs with
  | [u, v], _ =>
    have h0' : DataW.trod enc Tryd.prog W 0 (fun _ => true) true n 3 [u] = some y0 := by simpa [Value.cells, cells_int] using h0
    have h1' : DataW.trod enc Tryd.prog W 0 (fun _ => true) true n 3 [v] = some y1 := by simpa [Value.cells, cells_int] using h1
    obtain ⟨k0, e0, _⟩ := DataW.trod_int Tryd.underlying3 h0'
    obtain ⟨k1, e1, _⟩ := DataW.trod_int Tryd.underlying3 h1'
    simp only [List.cons.injEq, and_true] at e0 e1
    exact ⟨k0, k1, by rw [e0, e1]⟩
end Go.Proofs.YtmkjalpgeljnkaaDoor
