/-
  Texts that the proof leans on, packed: LawBSays2, LawBSays3.
-/
import Derived.Test.YtmkjalpgeljnkaaDoorPack6

/-
  The law BinoSays, walked: some ways more.
-/
namespace Go.Proofs.YtmkjalpgeljnkaaDoor
open Go.RowKit Go.Sort Go.Proofs

set_option maxHeartbeats 32000000 in
set_option maxRecDepth 4000 in
theorem binoSays_6 (p p' : Option Addr) (n cap n' cap' g : Nat) (x0 x1 y0 y1 : Int) (R : List (Int × List (Int × Int))) (w : World) (hg : ((g : Int) == 0) = false) (hn0 : ((n : Int) == 0) = false)
    (CE0 : Hid (∀ w1, Below (w.alloc (.cells #[.int .i64 x0, .int .i64 x1] 24)).heap.size (w.alloc (.cells #[.int .i64 x0, .int .i64 x1] 24)) w1 → Calls Tryd.prog 8 #[.nilIface, .int .i64 0] w1 fun e w' => e = .returned (.bool true) ∧ Below w1.heap.size w1 w'))
    (CT0 : Hid (∀ w1, Below (w.alloc (.cells #[.int .i64 x0, .int .i64 x1] 24)).heap.size (w.alloc (.cells #[.int .i64 x0, .int .i64 x1] 24)) w1 → Calls Tryd.prog 13 #[.slice none 0 0, .slice none 0 0] w1 fun e w' => e = .returned (.bool true) ∧ Below w1.heap.size w1 w'))
    (CRA : Hid (∀ w1, Below (w.alloc (.cells #[.int .i64 x0, .int .i64 x1] 24)).heap.size (w.alloc (.cells #[.int .i64 x0, .int .i64 x1] 24)) w1 → Calls Tryd.prog 7 #[.slice p n cap] w1 fun e w' => e = .returned (.int .i64 0) ∧ Below w1.heap.size w1 w'))
    (CK : Hid (∀ w1, Below (w.alloc (.cells #[.int .i64 x0, .int .i64 x1] 24)).heap.size (w.alloc (.cells #[.int .i64 x0, .int .i64 x1] 24)) w1 → Calls Tryd.prog 9 #[.slice p n cap] w1 fun e w' => e = .returned (.nilIface) ∧ Below w1.heap.size w1 w'))
    (CRB : Hid (∀ w1, Below (w.alloc (.cells #[.int .i64 x0, .int .i64 x1] 24)).heap.size (w.alloc (.cells #[.int .i64 x0, .int .i64 x1] 24)) w1 → Calls Tryd.prog 7 #[.slice p' n' cap'] w1 fun e w' => e = .returned (.int .i64 g) ∧ Below w1.heap.size w1 w'))
    (CEg : Hid (∀ w1, Below (w.alloc (.cells #[.int .i64 x0, .int .i64 x1] 24)).heap.size (w.alloc (.cells #[.int .i64 x0, .int .i64 x1] 24)) w1 → Calls Tryd.prog 8 #[.iface 56 (.int .i64 g), .int .i64 g] w1 fun e w' => e = .returned (.bool true) ∧ Below w1.heap.size w1 w'))
    (CM : Hid (∀ w1, Below (w.alloc (.cells #[.int .i64 x0, .int .i64 x1] 24)).heap.size (w.alloc (.cells #[.int .i64 x0, .int .i64 x1] 24)) w1 → Calls Tryd.prog 12 #[.slice p n cap, .slice p' n' cap'] w1 fun e w' => e = .returned (.tuple #[.slice none 0 0, .iface 56 (.int .i64 g)]) ∧ Below w1.heap.size w1 w'))
    (CRX : Hid (∀ w1 g, Sl w1 (.slice (some ⟨g, 0, none⟩) 1 1) #[(x0, x1)] → Calls Tryd.prog 14 #[.slice (some ⟨g, 0, none⟩) 1 1] w1 fun e w' => e = .returned (.int .i64 1) ∧ Below w1.heap.size w1 w'))
    (CE1 : Hid (∀ w1, Below (w.alloc (.cells #[.int .i64 x0, .int .i64 x1] 24)).heap.size (w.alloc (.cells #[.int .i64 x0, .int .i64 x1] 24)) w1 → Calls Tryd.prog 8 #[.iface 56 (.int .i64 1), .int .i64 1] w1 fun e w' => e = .returned (.bool true) ∧ Below w1.heap.size w1 w'))
    (CP : Hid (∀ w1, Below (w.alloc (.cells #[.int .i64 x0, .int .i64 x1] 24)).heap.size (w.alloc (.cells #[.int .i64 x0, .int .i64 x1] 24)) w1 → Calls Tryd.prog 15 #[.slice p n cap, .agg #[.int .i64 x0, .int .i64 x1]] w1 fun e w' => e = .returned (.tuple #[.slice none 0 0, .iface 56 (.int .i64 1)]) ∧ Below w1.heap.size w1 w'))
    (CRO : Hid (∀ w1, Below (w.alloc (.cells #[.int .i64 x0, .int .i64 x1] 24)).heap.size (w.alloc (.cells #[.int .i64 x0, .int .i64 x1] 24)) w1 → Calls Tryd.prog 16 #[.slice p n cap] w1 fun e w' => ∃ u, e = .returned (.tuple #[.agg #[.int .i64 y0, .int .i64 y1], u]) ∧ (∀ w2 f, (w.alloc (.cells #[.int .i64 x0, .int .i64 x1] 24)).heap.size ≤ f → f < w1.heap.size → w'.grownBy w2 (some f) → HpAt w2 u R) ∧ Below w1.heap.size w1 w'))
    (CO : Hid (∀ w1, Below (w.alloc (.cells #[.int .i64 x0, .int .i64 x1] 24)).heap.size (w.alloc (.cells #[.int .i64 x0, .int .i64 x1] 24)) w1 → Calls Tryd.prog 17 #[.slice p n cap] w1 fun e w' => ∃ u, e = .returned (.tuple #[.agg #[.int .i64 y0, .int .i64 y1], u, .nilIface]) ∧ HpAt w' u R ∧ Below w1.heap.size w1 w'))
    (CTR : Hid (∀ w1 u v, HpAt w1 u R → HpAt w1 v R → Calls Tryd.prog 13 #[u, v] w1 fun e w' => e = .returned (.bool true) ∧ Below w1.heap.size w1 w')) :
    Calls Tryd.prog 3 #[.slice p n cap, .slice p' n' cap', .agg #[.int .i64 x0, .int .i64 x1]] w fun e w' => e = .returned (.bool true) ∧ Below w.heap.size w w' := by
  have ke : ∀ w, Sem.run Tryd.prog (Op.equalIn 10000 24 (.agg #[.int .i64 y0, .int .i64 y1]) (.agg #[.int .i64 y0, .int .i64 y1])) w = .ok true w := fun w => by have := equalIn_item y0 y1 y0 y1 w; simpa using this
  have kq : ∀ w, Sem.run Tryd.prog (binOp .eql 24 (.agg #[.int .i64 y0, .int .i64 y1]) (.agg #[.int .i64 y0, .int .i64 y1])) w = .ok (.bool true) w := fun w => by have := eql_item y0 y1 y0 y1 w; simpa using this
  have kg := guard_item
  go_enter Tryd.func3, Tryd.ntmps3
  have hb1 : Below (w.alloc (.cells #[.int .i64 x0, .int .i64 x1] 24)).heap.size (w.alloc (.cells #[.int .i64 x0, .int .i64 x1] 24)) (w.alloc (.cells #[.int .i64 x0, .int .i64 x1] 24)) := Below.refl _ _
  go_wp2_with fail
  refine (CRA.out (w.alloc (.cells #[.int .i64 x0, .int .i64 x1] 24)) hb1).mono ?_
  rintro e w2 ⟨rfl, hb'⟩
  have hb2 := hb1.trans (hb'.mono hb1.size)
  clear hb' hb1
  go_wp2_with fail
  refine (CK.out w2 hb2).mono ?_
  rintro e w3 ⟨rfl, hb'⟩
  have hb3 := hb2.trans (hb'.mono hb2.size)
  clear hb' hb2
  go_wp2_with fail
  refine (CE0.out w3 hb3).mono ?_
  rintro e w4 ⟨rfl, hb'⟩
  have hb4 := hb3.trans (hb'.mono hb3.size)
  clear hb' hb3
  go_wp2_with fail
  refine (CRB.out w4 hb4).mono ?_
  rintro e w5 ⟨rfl, hb'⟩
  have hb5 := hb4.trans (hb'.mono hb4.size)
  clear hb' hb4
  go_wp2_with fail
  refine (CM.out w5 hb5).mono ?_
  rintro e w6 ⟨rfl, hb'⟩
  have hb6 := hb5.trans (hb'.mono hb5.size)
  clear hb' hb5
  go_wp2_with fail
  refine (CEg.out w6 hb6).mono ?_
  rintro e w7 ⟨rfl, hb'⟩
  have hb7 := hb6.trans (hb'.mono hb6.size)
  clear hb' hb6
  go_wp2_with fail
  refine (CT0.out w7 hb7).mono ?_
  rintro e w8 ⟨rfl, hb'⟩
  have hb8 := hb7.trans (hb'.mono hb7.size)
  clear hb' hb7
  obtain ⟨b0, b1, hlt, _⟩ := lbox hb8
  have hbal : Below (w.alloc (.cells #[.int .i64 x0, .int .i64 x1] 24)).heap.size (w.alloc (.cells #[.int .i64 x0, .int .i64 x1] 24)) (w8.alloc (.cells #[.int .i64 x0, .int .i64 x1] 24)) := hb8.alloc hb8.size _
  have Hal : Hid (Sl (w8.alloc (.cells #[.int .i64 x0, .int .i64 x1] 24)) (.slice (some ⟨w8.heap.size, 0, none⟩) 1 1) #[(x0, x1)]) := one_sl w8 x0 x1
  go_wp2_with fail
  refine (CRX.out _ _ Hal.out).mono ?_
  rintro e w9 ⟨rfl, hb'⟩
  have hb9 := hbal.trans (hb'.mono hbal.size)
  clear hb' hbal Hal
  clear b0 b1 hlt
  clear hb8
  obtain ⟨b0, b1, hlt, _⟩ := lbox hb9
  go_wp2_with fail
  refine (CP.out w9 hb9).mono ?_
  rintro e w10 ⟨rfl, hb'⟩
  have hb10 := hb9.trans (hb'.mono hb9.size)
  clear hb' hb9
  clear b0 b1 hlt
  go_wp2_with fail
  refine (CE1.out w10 hb10).mono ?_
  rintro e w11 ⟨rfl, hb'⟩
  have hb11 := hb10.trans (hb'.mono hb10.size)
  clear hb' hb10
  go_wp2_with fail
  refine (CT0.out w11 hb11).mono ?_
  rintro e w12 ⟨rfl, hb'⟩
  have hb12 := hb11.trans (hb'.mono hb11.size)
  clear hb' hb11
  have hba : Below (w.alloc (.cells #[.int .i64 x0, .int .i64 x1] 24)).heap.size (w.alloc (.cells #[.int .i64 x0, .int .i64 x1] 24)) (w12.alloc (.cells #[.int .i64 0, .int .i64 0] 24)) := hb12.alloc hb12.size _
  have hA0 : (w12.alloc (.cells #[.int .i64 0, .int .i64 0] 24)).cell? ⟨w12.heap.size, 0, none⟩ = some (.int .i64 0) := by simp
  have hA1 : (w12.alloc (.cells #[.int .i64 0, .int .i64 0] 24)).cell? ⟨w12.heap.size, 1, none⟩ = some (.int .i64 0) := by simp
  have hAl : w12.heap.size < (w12.alloc (.cells #[.int .i64 0, .int .i64 0] 24)).heap.size := by simp
  have hAf0 : (w12.alloc (.cells #[.int .i64 0, .int .i64 0] 24)).frozen? ⟨w12.heap.size, 0, none⟩ = false := by simp
  have hAf1 : (w12.alloc (.cells #[.int .i64 0, .int .i64 0] 24)).frozen? ⟨w12.heap.size, 1, none⟩ = false := by simp
  have hbF : (w.alloc (.cells #[.int .i64 x0, .int .i64 x1] 24)).heap.size ≤ w12.heap.size := hb12.size
  go_wp2_with fail
  refine (CRO.out _ hba).mono ?_
  rintro e wr ⟨u4, rfl, hsl, hb'⟩
  have hbr := hba.trans (hb'.mono hba.size)
  have hgs : wr.grownBy ((wr.setCell ⟨w12.heap.size, 0, none⟩ (.int .i64 y0)).setCell ⟨w12.heap.size, 1, none⟩ (.int .i64 y1)) (some w12.heap.size) := gb_set (World.grownBy.refl _ _) _ _ _ _
  have Hu5 : Hid (HpAt ((wr.setCell ⟨w12.heap.size, 0, none⟩ (.int .i64 y0)).setCell ⟨w12.heap.size, 1, none⟩ (.int .i64 y1)) u4 R) := hsl _ _ hbF hAl hgs
  have f0 := (hb'.cell (p := ⟨w12.heap.size, 0, none⟩) hAl).trans hA0
  have f1 := (hb'.cell (p := ⟨w12.heap.size, 1, none⟩) hAl).trans hA1
  have fz0 := (World.frozen?_of_block (a := ⟨w12.heap.size, 0, none⟩) (hb'.block w12.heap.size hAl)).trans hAf0
  have fz1 := (World.frozen?_of_block (a := ⟨w12.heap.size, 1, none⟩) (hb'.block w12.heap.size hAl)).trans hAf1
  have fl : w12.heap.size < wr.heap.size := Nat.lt_of_lt_of_le hAl hb'.size
  clear hb' hA0 hA1 hAl hba hAf0 hAf1 hsl
  have hbs : Below (w.alloc (.cells #[.int .i64 x0, .int .i64 x1] 24)).heap.size (w.alloc (.cells #[.int .i64 x0, .int .i64 x1] 24)) ((wr.setCell ⟨w12.heap.size, 0, none⟩ (.int .i64 y0)).setCell ⟨w12.heap.size, 1, none⟩ (.int .i64 y1)) := below_gb hbr hgs hbF hbr.size
  have s0 : ((wr.setCell ⟨w12.heap.size, 0, none⟩ (.int .i64 y0)).setCell ⟨w12.heap.size, 1, none⟩ (.int .i64 y1)).cell? ⟨w12.heap.size, 0, none⟩ = some (.int .i64 y0) := (World.cell?_setCell_other _ _ _ _ (by simp)).trans (World.cell?_setCell_same _ _ _ f0)
  have s1 : ((wr.setCell ⟨w12.heap.size, 0, none⟩ (.int .i64 y0)).setCell ⟨w12.heap.size, 1, none⟩ (.int .i64 y1)).cell? ⟨w12.heap.size, 1, none⟩ = some (.int .i64 y1) := World.cell?_setCell_same _ _ _ ((World.cell?_setCell_other _ _ _ _ (by simp)).trans f1)
  have sl : w12.heap.size < ((wr.setCell ⟨w12.heap.size, 0, none⟩ (.int .i64 y0)).setCell ⟨w12.heap.size, 1, none⟩ (.int .i64 y1)).heap.size := by rw [size_setCell, size_setCell]; exact fl
  clear hgs hbr
  go_wp2_with fail
  clear f0 f1 fz0 fz1 fl
  generalize ((wr.setCell ⟨w12.heap.size, 0, none⟩ (.int .i64 y0)).setCell ⟨w12.heap.size, 1, none⟩ (.int .i64 y1)) = ws at hbs Hu5 s0 s1 sl ⊢
  refine (CO.out _ hbs).mono ?_
  rintro e wp ⟨u6, rfl, hsl, hb'⟩
  have hbp := hbs.trans (hb'.mono hbs.size)
  have f0 := (hb'.cell (p := ⟨w12.heap.size, 0, none⟩) sl).trans s0
  have f1 := (hb'.cell (p := ⟨w12.heap.size, 1, none⟩) sl).trans s1
  have fl : w12.heap.size < wp.heap.size := Nat.lt_of_lt_of_le sl hb'.size
  have Hg6 : Hid (HpAt wp u6 R) := hsl
  have Hu6 : Hid (HpAt wp u4 R) := Hu5.out.below hb'
  clear hb' s0 s1 sl hbs Hu5 hsl
  have hby' : Below wp.heap.size wp (wp.alloc (.cells #[.int .i64 y0, .int .i64 y1] 24)) := (Below.refl _ _).alloc (Nat.le_refl _) _
  have hby : Below (w.alloc (.cells #[.int .i64 x0, .int .i64 x1] 24)).heap.size (w.alloc (.cells #[.int .i64 x0, .int .i64 x1] 24)) (wp.alloc (.cells #[.int .i64 y0, .int .i64 y1] 24)) := hbp.alloc hbp.size _
  have e0 := (hby'.cell (p := ⟨w12.heap.size, 0, none⟩) fl).trans f0
  have e1 := (hby'.cell (p := ⟨w12.heap.size, 1, none⟩) fl).trans f1
  have q0 : (wp.alloc (.cells #[.int .i64 y0, .int .i64 y1] 24)).cell? ⟨wp.heap.size, 0, none⟩ = some (.int .i64 y0) := by simp
  have q1 : (wp.alloc (.cells #[.int .i64 y0, .int .i64 y1] 24)).cell? ⟨wp.heap.size, 1, none⟩ = some (.int .i64 y1) := by simp
  have ql : wp.heap.size < (wp.alloc (.cells #[.int .i64 y0, .int .i64 y1] 24)).heap.size := by simp
  have Hg7 : Hid (HpAt (wp.alloc (.cells #[.int .i64 y0, .int .i64 y1] 24)) u6 R) := Hg6.out.below hby'
  have Hu7 : Hid (HpAt (wp.alloc (.cells #[.int .i64 y0, .int .i64 y1] 24)) u4 R) := Hu6.out.below hby'
  clear Hg6 Hu6
  clear f0 f1 hby'
  go_wp2_with fail
  refine (CE0.out _ hby).mono ?_
  rintro e we ⟨rfl, hb'⟩
  have hbe := hby.trans (hb'.mono hby.size)
  have z0 := (hb'.cell (p := ⟨w12.heap.size, 0, none⟩) (Nat.lt_trans fl ql)).trans e0
  have z1 := (hb'.cell (p := ⟨w12.heap.size, 1, none⟩) (Nat.lt_trans fl ql)).trans e1
  have v0 := (hb'.cell (p := ⟨wp.heap.size, 0, none⟩) ql).trans q0
  have v1 := (hb'.cell (p := ⟨wp.heap.size, 1, none⟩) ql).trans q1
  have Hg8 : Hid (HpAt we u6 R) := Hg7.out.below hb'
  have Hu8 : Hid (HpAt we u4 R) := Hu7.out.below hb'
  clear Hg7 Hu7
  clear hb' e0 e1 q0 q1 hby fl ql
  go_wp2_with fail
  refine (CTR.out we u6 u4 Hg8.out Hu8.out).mono ?_
  rintro e wf ⟨rfl, hb'⟩
  have hbf := hbe.trans (hb'.mono hbe.size)
  clear hb'
  go_wp2
  go_ret
  exact ⟨rfl, (lbox hbf).2.2.2⟩

set_option maxHeartbeats 32000000 in
set_option maxRecDepth 4000 in
theorem binoSays_7 (p p' : Option Addr) (n cap n' cap' g : Nat) (x0 x1 y0 y1 : Int) (R : List (Int × List (Int × Int))) (w : World) (hg : ((g : Int) == 0) = false) (hn0 : ((n : Int) == 0) = false)
    (CE0 : Hid (∀ w1, Below (w.alloc (.cells #[.int .i64 x0, .int .i64 x1] 24)).heap.size (w.alloc (.cells #[.int .i64 x0, .int .i64 x1] 24)) w1 → Calls Tryd.prog 8 #[.nilIface, .int .i64 0] w1 fun e w' => e = .returned (.bool true) ∧ Below w1.heap.size w1 w'))
    (CT0 : Hid (∀ w1, Below (w.alloc (.cells #[.int .i64 x0, .int .i64 x1] 24)).heap.size (w.alloc (.cells #[.int .i64 x0, .int .i64 x1] 24)) w1 → Calls Tryd.prog 13 #[.slice none 0 0, .slice none 0 0] w1 fun e w' => e = .returned (.bool true) ∧ Below w1.heap.size w1 w'))
    (CRA : Hid (∀ w1, Below (w.alloc (.cells #[.int .i64 x0, .int .i64 x1] 24)).heap.size (w.alloc (.cells #[.int .i64 x0, .int .i64 x1] 24)) w1 → Calls Tryd.prog 7 #[.slice p n cap] w1 fun e w' => e = .returned (.int .i64 0) ∧ Below w1.heap.size w1 w'))
    (CK : Hid (∀ w1, Below (w.alloc (.cells #[.int .i64 x0, .int .i64 x1] 24)).heap.size (w.alloc (.cells #[.int .i64 x0, .int .i64 x1] 24)) w1 → Calls Tryd.prog 9 #[.slice p n cap] w1 fun e w' => e = .returned (.nilIface) ∧ Below w1.heap.size w1 w'))
    (CRB : Hid (∀ w1, Below (w.alloc (.cells #[.int .i64 x0, .int .i64 x1] 24)).heap.size (w.alloc (.cells #[.int .i64 x0, .int .i64 x1] 24)) w1 → Calls Tryd.prog 7 #[.slice p' n' cap'] w1 fun e w' => e = .returned (.int .i64 g) ∧ Below w1.heap.size w1 w'))
    (CEg : Hid (∀ w1, Below (w.alloc (.cells #[.int .i64 x0, .int .i64 x1] 24)).heap.size (w.alloc (.cells #[.int .i64 x0, .int .i64 x1] 24)) w1 → Calls Tryd.prog 8 #[.iface 56 (.int .i64 g), .int .i64 g] w1 fun e w' => e = .returned (.bool true) ∧ Below w1.heap.size w1 w'))
    (CM : Hid (∀ w1, Below (w.alloc (.cells #[.int .i64 x0, .int .i64 x1] 24)).heap.size (w.alloc (.cells #[.int .i64 x0, .int .i64 x1] 24)) w1 → Calls Tryd.prog 12 #[.slice p n cap, .slice p' n' cap'] w1 fun e w' => e = .returned (.tuple #[.slice none 0 0, .iface 56 (.int .i64 g)]) ∧ Below w1.heap.size w1 w'))
    (CRX : Hid (∀ w1 g, Sl w1 (.slice (some ⟨g, 0, none⟩) 1 1) #[(x0, x1)] → Calls Tryd.prog 14 #[.slice (some ⟨g, 0, none⟩) 1 1] w1 fun e w' => e = .returned (.int .i64 0) ∧ Below w1.heap.size w1 w'))
    (CSA : Hid (∀ w1, Below (w.alloc (.cells #[.int .i64 x0, .int .i64 x1] 24)).heap.size (w.alloc (.cells #[.int .i64 x0, .int .i64 x1] 24)) w1 → Calls Tryd.prog 10 #[.slice p n cap] w1 fun e w' => e = .returned (.int .i64 (60 : Int)) ∧ Below w1.heap.size w1 w'))
    (CE4 : Hid (∀ w1, Below (w.alloc (.cells #[.int .i64 x0, .int .i64 x1] 24)).heap.size (w.alloc (.cells #[.int .i64 x0, .int .i64 x1] 24)) w1 → Calls Tryd.prog 8 #[.iface 56 (.int .i64 4), .int .i64 4] w1 fun e w' => e = .returned (.bool true) ∧ Below w1.heap.size w1 w'))
    (CP : Hid (∀ w1, Below (w.alloc (.cells #[.int .i64 x0, .int .i64 x1] 24)).heap.size (w.alloc (.cells #[.int .i64 x0, .int .i64 x1] 24)) w1 → Calls Tryd.prog 15 #[.slice p n cap, .agg #[.int .i64 x0, .int .i64 x1]] w1 fun e w' => e = .returned (.tuple #[.slice none 0 0, .iface 56 (.int .i64 4)]) ∧ Below w1.heap.size w1 w'))
    (CRO : Hid (∀ w1, Below (w.alloc (.cells #[.int .i64 x0, .int .i64 x1] 24)).heap.size (w.alloc (.cells #[.int .i64 x0, .int .i64 x1] 24)) w1 → Calls Tryd.prog 16 #[.slice p n cap] w1 fun e w' => ∃ u, e = .returned (.tuple #[.agg #[.int .i64 y0, .int .i64 y1], u]) ∧ (∀ w2 f, (w.alloc (.cells #[.int .i64 x0, .int .i64 x1] 24)).heap.size ≤ f → f < w1.heap.size → w'.grownBy w2 (some f) → HpAt w2 u R) ∧ Below w1.heap.size w1 w'))
    (CO : Hid (∀ w1, Below (w.alloc (.cells #[.int .i64 x0, .int .i64 x1] 24)).heap.size (w.alloc (.cells #[.int .i64 x0, .int .i64 x1] 24)) w1 → Calls Tryd.prog 17 #[.slice p n cap] w1 fun e w' => ∃ u, e = .returned (.tuple #[.agg #[.int .i64 y0, .int .i64 y1], u, .nilIface]) ∧ HpAt w' u R ∧ Below w1.heap.size w1 w'))
    (CTR : Hid (∀ w1 u v, HpAt w1 u R → HpAt w1 v R → Calls Tryd.prog 13 #[u, v] w1 fun e w' => e = .returned (.bool true) ∧ Below w1.heap.size w1 w')) :
    Calls Tryd.prog 3 #[.slice p n cap, .slice p' n' cap', .agg #[.int .i64 x0, .int .i64 x1]] w fun e w' => e = .returned (.bool true) ∧ Below w.heap.size w w' := by
  have ke : ∀ w, Sem.run Tryd.prog (Op.equalIn 10000 24 (.agg #[.int .i64 y0, .int .i64 y1]) (.agg #[.int .i64 y0, .int .i64 y1])) w = .ok true w := fun w => by have := equalIn_item y0 y1 y0 y1 w; simpa using this
  have kq : ∀ w, Sem.run Tryd.prog (binOp .eql 24 (.agg #[.int .i64 y0, .int .i64 y1]) (.agg #[.int .i64 y0, .int .i64 y1])) w = .ok (.bool true) w := fun w => by have := eql_item y0 y1 y0 y1 w; simpa using this
  have kg := guard_item
  go_enter Tryd.func3, Tryd.ntmps3
  have hb1 : Below (w.alloc (.cells #[.int .i64 x0, .int .i64 x1] 24)).heap.size (w.alloc (.cells #[.int .i64 x0, .int .i64 x1] 24)) (w.alloc (.cells #[.int .i64 x0, .int .i64 x1] 24)) := Below.refl _ _
  go_wp2_with fail
  refine (CRA.out (w.alloc (.cells #[.int .i64 x0, .int .i64 x1] 24)) hb1).mono ?_
  rintro e w2 ⟨rfl, hb'⟩
  have hb2 := hb1.trans (hb'.mono hb1.size)
  clear hb' hb1
  go_wp2_with fail
  refine (CK.out w2 hb2).mono ?_
  rintro e w3 ⟨rfl, hb'⟩
  have hb3 := hb2.trans (hb'.mono hb2.size)
  clear hb' hb2
  go_wp2_with fail
  refine (CE0.out w3 hb3).mono ?_
  rintro e w4 ⟨rfl, hb'⟩
  have hb4 := hb3.trans (hb'.mono hb3.size)
  clear hb' hb3
  go_wp2_with fail
  refine (CRB.out w4 hb4).mono ?_
  rintro e w5 ⟨rfl, hb'⟩
  have hb5 := hb4.trans (hb'.mono hb4.size)
  clear hb' hb4
  go_wp2_with fail
  refine (CM.out w5 hb5).mono ?_
  rintro e w6 ⟨rfl, hb'⟩
  have hb6 := hb5.trans (hb'.mono hb5.size)
  clear hb' hb5
  go_wp2_with fail
  refine (CEg.out w6 hb6).mono ?_
  rintro e w7 ⟨rfl, hb'⟩
  have hb7 := hb6.trans (hb'.mono hb6.size)
  clear hb' hb6
  go_wp2_with fail
  refine (CT0.out w7 hb7).mono ?_
  rintro e w8 ⟨rfl, hb'⟩
  have hb8 := hb7.trans (hb'.mono hb7.size)
  clear hb' hb7
  obtain ⟨b0, b1, hlt, _⟩ := lbox hb8
  have hbal : Below (w.alloc (.cells #[.int .i64 x0, .int .i64 x1] 24)).heap.size (w.alloc (.cells #[.int .i64 x0, .int .i64 x1] 24)) (w8.alloc (.cells #[.int .i64 x0, .int .i64 x1] 24)) := hb8.alloc hb8.size _
  have Hal : Hid (Sl (w8.alloc (.cells #[.int .i64 x0, .int .i64 x1] 24)) (.slice (some ⟨w8.heap.size, 0, none⟩) 1 1) #[(x0, x1)]) := one_sl w8 x0 x1
  go_wp2_with fail
  refine (CRX.out _ _ Hal.out).mono ?_
  rintro e w9 ⟨rfl, hb'⟩
  have hb9 := hbal.trans (hb'.mono hbal.size)
  clear hb' hbal Hal
  clear b0 b1 hlt
  clear hb8
  go_wp2_with fail
  refine (CSA.out w9 hb9).mono ?_
  rintro e w10 ⟨rfl, hb'⟩
  have hb10 := hb9.trans (hb'.mono hb9.size)
  clear hb' hb9
  obtain ⟨b0, b1, hlt, _⟩ := lbox hb10
  go_wp2_with fail
  refine (CP.out w10 hb10).mono ?_
  rintro e w11 ⟨rfl, hb'⟩
  have hb11 := hb10.trans (hb'.mono hb10.size)
  clear hb' hb10
  clear b0 b1 hlt
  go_wp2_with fail
  refine (CE4.out w11 hb11).mono ?_
  rintro e w12 ⟨rfl, hb'⟩
  have hb12 := hb11.trans (hb'.mono hb11.size)
  clear hb' hb11
  go_wp2_with fail
  refine (CT0.out w12 hb12).mono ?_
  rintro e w13 ⟨rfl, hb'⟩
  have hb13 := hb12.trans (hb'.mono hb12.size)
  clear hb' hb12
  have hba : Below (w.alloc (.cells #[.int .i64 x0, .int .i64 x1] 24)).heap.size (w.alloc (.cells #[.int .i64 x0, .int .i64 x1] 24)) (w13.alloc (.cells #[.int .i64 0, .int .i64 0] 24)) := hb13.alloc hb13.size _
  have hA0 : (w13.alloc (.cells #[.int .i64 0, .int .i64 0] 24)).cell? ⟨w13.heap.size, 0, none⟩ = some (.int .i64 0) := by simp
  have hA1 : (w13.alloc (.cells #[.int .i64 0, .int .i64 0] 24)).cell? ⟨w13.heap.size, 1, none⟩ = some (.int .i64 0) := by simp
  have hAl : w13.heap.size < (w13.alloc (.cells #[.int .i64 0, .int .i64 0] 24)).heap.size := by simp
  have hAf0 : (w13.alloc (.cells #[.int .i64 0, .int .i64 0] 24)).frozen? ⟨w13.heap.size, 0, none⟩ = false := by simp
  have hAf1 : (w13.alloc (.cells #[.int .i64 0, .int .i64 0] 24)).frozen? ⟨w13.heap.size, 1, none⟩ = false := by simp
  have hbF : (w.alloc (.cells #[.int .i64 x0, .int .i64 x1] 24)).heap.size ≤ w13.heap.size := hb13.size
  go_wp2_with fail
  refine (CRO.out _ hba).mono ?_
  rintro e wr ⟨u4, rfl, hsl, hb'⟩
  have hbr := hba.trans (hb'.mono hba.size)
  have hgs : wr.grownBy ((wr.setCell ⟨w13.heap.size, 0, none⟩ (.int .i64 y0)).setCell ⟨w13.heap.size, 1, none⟩ (.int .i64 y1)) (some w13.heap.size) := gb_set (World.grownBy.refl _ _) _ _ _ _
  have Hu5 : Hid (HpAt ((wr.setCell ⟨w13.heap.size, 0, none⟩ (.int .i64 y0)).setCell ⟨w13.heap.size, 1, none⟩ (.int .i64 y1)) u4 R) := hsl _ _ hbF hAl hgs
  have f0 := (hb'.cell (p := ⟨w13.heap.size, 0, none⟩) hAl).trans hA0
  have f1 := (hb'.cell (p := ⟨w13.heap.size, 1, none⟩) hAl).trans hA1
  have fz0 := (World.frozen?_of_block (a := ⟨w13.heap.size, 0, none⟩) (hb'.block w13.heap.size hAl)).trans hAf0
  have fz1 := (World.frozen?_of_block (a := ⟨w13.heap.size, 1, none⟩) (hb'.block w13.heap.size hAl)).trans hAf1
  have fl : w13.heap.size < wr.heap.size := Nat.lt_of_lt_of_le hAl hb'.size
  clear hb' hA0 hA1 hAl hba hAf0 hAf1 hsl
  have hbs : Below (w.alloc (.cells #[.int .i64 x0, .int .i64 x1] 24)).heap.size (w.alloc (.cells #[.int .i64 x0, .int .i64 x1] 24)) ((wr.setCell ⟨w13.heap.size, 0, none⟩ (.int .i64 y0)).setCell ⟨w13.heap.size, 1, none⟩ (.int .i64 y1)) := below_gb hbr hgs hbF hbr.size
  have s0 : ((wr.setCell ⟨w13.heap.size, 0, none⟩ (.int .i64 y0)).setCell ⟨w13.heap.size, 1, none⟩ (.int .i64 y1)).cell? ⟨w13.heap.size, 0, none⟩ = some (.int .i64 y0) := (World.cell?_setCell_other _ _ _ _ (by simp)).trans (World.cell?_setCell_same _ _ _ f0)
  have s1 : ((wr.setCell ⟨w13.heap.size, 0, none⟩ (.int .i64 y0)).setCell ⟨w13.heap.size, 1, none⟩ (.int .i64 y1)).cell? ⟨w13.heap.size, 1, none⟩ = some (.int .i64 y1) := World.cell?_setCell_same _ _ _ ((World.cell?_setCell_other _ _ _ _ (by simp)).trans f1)
  have sl : w13.heap.size < ((wr.setCell ⟨w13.heap.size, 0, none⟩ (.int .i64 y0)).setCell ⟨w13.heap.size, 1, none⟩ (.int .i64 y1)).heap.size := by rw [size_setCell, size_setCell]; exact fl
  clear hgs hbr
  go_wp2_with fail
  clear f0 f1 fz0 fz1 fl
  generalize ((wr.setCell ⟨w13.heap.size, 0, none⟩ (.int .i64 y0)).setCell ⟨w13.heap.size, 1, none⟩ (.int .i64 y1)) = ws at hbs Hu5 s0 s1 sl ⊢
  refine (CO.out _ hbs).mono ?_
  rintro e wp ⟨u6, rfl, hsl, hb'⟩
  have hbp := hbs.trans (hb'.mono hbs.size)
  have f0 := (hb'.cell (p := ⟨w13.heap.size, 0, none⟩) sl).trans s0
  have f1 := (hb'.cell (p := ⟨w13.heap.size, 1, none⟩) sl).trans s1
  have fl : w13.heap.size < wp.heap.size := Nat.lt_of_lt_of_le sl hb'.size
  have Hg6 : Hid (HpAt wp u6 R) := hsl
  have Hu6 : Hid (HpAt wp u4 R) := Hu5.out.below hb'
  clear hb' s0 s1 sl hbs Hu5 hsl
  have hby' : Below wp.heap.size wp (wp.alloc (.cells #[.int .i64 y0, .int .i64 y1] 24)) := (Below.refl _ _).alloc (Nat.le_refl _) _
  have hby : Below (w.alloc (.cells #[.int .i64 x0, .int .i64 x1] 24)).heap.size (w.alloc (.cells #[.int .i64 x0, .int .i64 x1] 24)) (wp.alloc (.cells #[.int .i64 y0, .int .i64 y1] 24)) := hbp.alloc hbp.size _
  have e0 := (hby'.cell (p := ⟨w13.heap.size, 0, none⟩) fl).trans f0
  have e1 := (hby'.cell (p := ⟨w13.heap.size, 1, none⟩) fl).trans f1
  have q0 : (wp.alloc (.cells #[.int .i64 y0, .int .i64 y1] 24)).cell? ⟨wp.heap.size, 0, none⟩ = some (.int .i64 y0) := by simp
  have q1 : (wp.alloc (.cells #[.int .i64 y0, .int .i64 y1] 24)).cell? ⟨wp.heap.size, 1, none⟩ = some (.int .i64 y1) := by simp
  have ql : wp.heap.size < (wp.alloc (.cells #[.int .i64 y0, .int .i64 y1] 24)).heap.size := by simp
  have Hg7 : Hid (HpAt (wp.alloc (.cells #[.int .i64 y0, .int .i64 y1] 24)) u6 R) := Hg6.out.below hby'
  have Hu7 : Hid (HpAt (wp.alloc (.cells #[.int .i64 y0, .int .i64 y1] 24)) u4 R) := Hu6.out.below hby'
  clear Hg6 Hu6
  clear f0 f1 hby'
  go_wp2_with fail
  refine (CE0.out _ hby).mono ?_
  rintro e we ⟨rfl, hb'⟩
  have hbe := hby.trans (hb'.mono hby.size)
  have z0 := (hb'.cell (p := ⟨w13.heap.size, 0, none⟩) (Nat.lt_trans fl ql)).trans e0
  have z1 := (hb'.cell (p := ⟨w13.heap.size, 1, none⟩) (Nat.lt_trans fl ql)).trans e1
  have v0 := (hb'.cell (p := ⟨wp.heap.size, 0, none⟩) ql).trans q0
  have v1 := (hb'.cell (p := ⟨wp.heap.size, 1, none⟩) ql).trans q1
  have Hg8 : Hid (HpAt we u6 R) := Hg7.out.below hb'
  have Hu8 : Hid (HpAt we u4 R) := Hu7.out.below hb'
  clear Hg7 Hu7
  clear hb' e0 e1 q0 q1 hby fl ql
  go_wp2_with fail
  refine (CTR.out we u6 u4 Hg8.out Hu8.out).mono ?_
  rintro e wf ⟨rfl, hb'⟩
  have hbf := hbe.trans (hb'.mono hbe.size)
  clear hb'
  go_wp2
  go_ret
  exact ⟨rfl, (lbox hbf).2.2.2⟩

set_option maxHeartbeats 32000000 in
set_option maxRecDepth 4000 in
theorem binoSays_8 (p p' : Option Addr) (n cap n' cap' g sA : Nat) (x0 x1 y0 y1 : Int) (DP R : List (Int × List (Int × Int))) (w : World) (hg : ((g : Int) == 0) = false) (hs60 : ((sA : Int) == 60) = false) (hn0 : ((n : Int) == 0) = false)
    (CE0 : Hid (∀ w1, Below (w.alloc (.cells #[.int .i64 x0, .int .i64 x1] 24)).heap.size (w.alloc (.cells #[.int .i64 x0, .int .i64 x1] 24)) w1 → Calls Tryd.prog 8 #[.nilIface, .int .i64 0] w1 fun e w' => e = .returned (.bool true) ∧ Below w1.heap.size w1 w'))
    (CT0 : Hid (∀ w1, Below (w.alloc (.cells #[.int .i64 x0, .int .i64 x1] 24)).heap.size (w.alloc (.cells #[.int .i64 x0, .int .i64 x1] 24)) w1 → Calls Tryd.prog 13 #[.slice none 0 0, .slice none 0 0] w1 fun e w' => e = .returned (.bool true) ∧ Below w1.heap.size w1 w'))
    (CRA : Hid (∀ w1, Below (w.alloc (.cells #[.int .i64 x0, .int .i64 x1] 24)).heap.size (w.alloc (.cells #[.int .i64 x0, .int .i64 x1] 24)) w1 → Calls Tryd.prog 7 #[.slice p n cap] w1 fun e w' => e = .returned (.int .i64 0) ∧ Below w1.heap.size w1 w'))
    (CK : Hid (∀ w1, Below (w.alloc (.cells #[.int .i64 x0, .int .i64 x1] 24)).heap.size (w.alloc (.cells #[.int .i64 x0, .int .i64 x1] 24)) w1 → Calls Tryd.prog 9 #[.slice p n cap] w1 fun e w' => e = .returned (.nilIface) ∧ Below w1.heap.size w1 w'))
    (CRB : Hid (∀ w1, Below (w.alloc (.cells #[.int .i64 x0, .int .i64 x1] 24)).heap.size (w.alloc (.cells #[.int .i64 x0, .int .i64 x1] 24)) w1 → Calls Tryd.prog 7 #[.slice p' n' cap'] w1 fun e w' => e = .returned (.int .i64 g) ∧ Below w1.heap.size w1 w'))
    (CEg : Hid (∀ w1, Below (w.alloc (.cells #[.int .i64 x0, .int .i64 x1] 24)).heap.size (w.alloc (.cells #[.int .i64 x0, .int .i64 x1] 24)) w1 → Calls Tryd.prog 8 #[.iface 56 (.int .i64 g), .int .i64 g] w1 fun e w' => e = .returned (.bool true) ∧ Below w1.heap.size w1 w'))
    (CM : Hid (∀ w1, Below (w.alloc (.cells #[.int .i64 x0, .int .i64 x1] 24)).heap.size (w.alloc (.cells #[.int .i64 x0, .int .i64 x1] 24)) w1 → Calls Tryd.prog 12 #[.slice p n cap, .slice p' n' cap'] w1 fun e w' => e = .returned (.tuple #[.slice none 0 0, .iface 56 (.int .i64 g)]) ∧ Below w1.heap.size w1 w'))
    (CRX : Hid (∀ w1 g, Sl w1 (.slice (some ⟨g, 0, none⟩) 1 1) #[(x0, x1)] → Calls Tryd.prog 14 #[.slice (some ⟨g, 0, none⟩) 1 1] w1 fun e w' => e = .returned (.int .i64 0) ∧ Below w1.heap.size w1 w'))
    (CSA : Hid (∀ w1, Below (w.alloc (.cells #[.int .i64 x0, .int .i64 x1] 24)).heap.size (w.alloc (.cells #[.int .i64 x0, .int .i64 x1] 24)) w1 → Calls Tryd.prog 10 #[.slice p n cap] w1 fun e w' => e = .returned (.int .i64 (sA : Int)) ∧ Below w1.heap.size w1 w'))
    (CRP : Hid (∀ w1 g, Below (w.alloc (.cells #[.int .i64 x0, .int .i64 x1] 24)).heap.size (w.alloc (.cells #[.int .i64 x0, .int .i64 x1] 24)) w1 → HpAt w1 (.slice (some ⟨g, 0, none⟩) 1 1) (zH (aloneH (x0, x1))) → Calls Tryd.prog 11 #[.slice p n cap, .slice (some ⟨g, 0, none⟩) 1 1] w1 fun e w' => ∃ u, e = .returned u ∧ HpAt w' u DP ∧ Below w1.heap.size w1 w'))
    (CP : Hid (∀ w1, Below (w.alloc (.cells #[.int .i64 x0, .int .i64 x1] 24)).heap.size (w.alloc (.cells #[.int .i64 x0, .int .i64 x1] 24)) w1 → Calls Tryd.prog 15 #[.slice p n cap, .agg #[.int .i64 x0, .int .i64 x1]] w1 fun e w' => ∃ u, e = .returned (.tuple #[u, .nilIface]) ∧ HpAt w' u DP ∧ Below w1.heap.size w1 w'))
    (CTP : Hid (∀ w1 u v, HpAt w1 u DP → HpAt w1 v DP → Calls Tryd.prog 13 #[u, v] w1 fun e w' => e = .returned (.bool true) ∧ Below w1.heap.size w1 w'))
    (CRO : Hid (∀ w1, Below (w.alloc (.cells #[.int .i64 x0, .int .i64 x1] 24)).heap.size (w.alloc (.cells #[.int .i64 x0, .int .i64 x1] 24)) w1 → Calls Tryd.prog 16 #[.slice p n cap] w1 fun e w' => ∃ u, e = .returned (.tuple #[.agg #[.int .i64 y0, .int .i64 y1], u]) ∧ (∀ w2 f, (w.alloc (.cells #[.int .i64 x0, .int .i64 x1] 24)).heap.size ≤ f → f < w1.heap.size → w'.grownBy w2 (some f) → HpAt w2 u R) ∧ Below w1.heap.size w1 w'))
    (CO : Hid (∀ w1, Below (w.alloc (.cells #[.int .i64 x0, .int .i64 x1] 24)).heap.size (w.alloc (.cells #[.int .i64 x0, .int .i64 x1] 24)) w1 → Calls Tryd.prog 17 #[.slice p n cap] w1 fun e w' => ∃ u, e = .returned (.tuple #[.agg #[.int .i64 y0, .int .i64 y1], u, .nilIface]) ∧ HpAt w' u R ∧ Below w1.heap.size w1 w'))
    (CTR : Hid (∀ w1 u v, HpAt w1 u R → HpAt w1 v R → Calls Tryd.prog 13 #[u, v] w1 fun e w' => e = .returned (.bool true) ∧ Below w1.heap.size w1 w')) :
    Calls Tryd.prog 3 #[.slice p n cap, .slice p' n' cap', .agg #[.int .i64 x0, .int .i64 x1]] w fun e w' => e = .returned (.bool true) ∧ Below w.heap.size w w' := by
  have ke : ∀ w, Sem.run Tryd.prog (Op.equalIn 10000 24 (.agg #[.int .i64 y0, .int .i64 y1]) (.agg #[.int .i64 y0, .int .i64 y1])) w = .ok true w := fun w => by have := equalIn_item y0 y1 y0 y1 w; simpa using this
  have kq : ∀ w, Sem.run Tryd.prog (binOp .eql 24 (.agg #[.int .i64 y0, .int .i64 y1]) (.agg #[.int .i64 y0, .int .i64 y1])) w = .ok (.bool true) w := fun w => by have := eql_item y0 y1 y0 y1 w; simpa using this
  have kg := guard_item
  go_enter Tryd.func3, Tryd.ntmps3
  have hb1 : Below (w.alloc (.cells #[.int .i64 x0, .int .i64 x1] 24)).heap.size (w.alloc (.cells #[.int .i64 x0, .int .i64 x1] 24)) (w.alloc (.cells #[.int .i64 x0, .int .i64 x1] 24)) := Below.refl _ _
  go_wp2_with fail
  refine (CRA.out (w.alloc (.cells #[.int .i64 x0, .int .i64 x1] 24)) hb1).mono ?_
  rintro e w2 ⟨rfl, hb'⟩
  have hb2 := hb1.trans (hb'.mono hb1.size)
  clear hb' hb1
  go_wp2_with fail
  refine (CK.out w2 hb2).mono ?_
  rintro e w3 ⟨rfl, hb'⟩
  have hb3 := hb2.trans (hb'.mono hb2.size)
  clear hb' hb2
  go_wp2_with fail
  refine (CE0.out w3 hb3).mono ?_
  rintro e w4 ⟨rfl, hb'⟩
  have hb4 := hb3.trans (hb'.mono hb3.size)
  clear hb' hb3
  go_wp2_with fail
  refine (CRB.out w4 hb4).mono ?_
  rintro e w5 ⟨rfl, hb'⟩
  have hb5 := hb4.trans (hb'.mono hb4.size)
  clear hb' hb4
  go_wp2_with fail
  refine (CM.out w5 hb5).mono ?_
  rintro e w6 ⟨rfl, hb'⟩
  have hb6 := hb5.trans (hb'.mono hb5.size)
  clear hb' hb5
  go_wp2_with fail
  refine (CEg.out w6 hb6).mono ?_
  rintro e w7 ⟨rfl, hb'⟩
  have hb7 := hb6.trans (hb'.mono hb6.size)
  clear hb' hb6
  go_wp2_with fail
  refine (CT0.out w7 hb7).mono ?_
  rintro e w8 ⟨rfl, hb'⟩
  have hb8 := hb7.trans (hb'.mono hb7.size)
  clear hb' hb7
  obtain ⟨b0, b1, hlt, _⟩ := lbox hb8
  have hbal : Below (w.alloc (.cells #[.int .i64 x0, .int .i64 x1] 24)).heap.size (w.alloc (.cells #[.int .i64 x0, .int .i64 x1] 24)) (w8.alloc (.cells #[.int .i64 x0, .int .i64 x1] 24)) := hb8.alloc hb8.size _
  have Hal : Hid (Sl (w8.alloc (.cells #[.int .i64 x0, .int .i64 x1] 24)) (.slice (some ⟨w8.heap.size, 0, none⟩) 1 1) #[(x0, x1)]) := one_sl w8 x0 x1
  go_wp2_with fail
  refine (CRX.out _ _ Hal.out).mono ?_
  rintro e w9 ⟨rfl, hb'⟩
  have hb9 := hbal.trans (hb'.mono hbal.size)
  clear hb' hbal Hal
  clear b0 b1 hlt
  clear hb8
  go_wp2_with fail
  refine (CSA.out w9 hb9).mono ?_
  rintro e w10 ⟨rfl, hb'⟩
  have hb10 := hb9.trans (hb'.mono hb9.size)
  clear hb' hb9
  obtain ⟨b0, b1, hlt, _⟩ := lbox hb10
  have hbal : Below (w.alloc (.cells #[.int .i64 x0, .int .i64 x1] 24)).heap.size (w.alloc (.cells #[.int .i64 x0, .int .i64 x1] 24)) ((w10.alloc (.cells #[.int .i64 x0, .int .i64 x1] 24)).alloc (.cells #[.int .i64 0, .slice (some ⟨w10.heap.size, 0, none⟩) 1 1] 37)) := hb10.trans ((alone2_below w10 x0 x1).mono hb10.size)
  have Hal : Hid (HpAt ((w10.alloc (.cells #[.int .i64 x0, .int .i64 x1] 24)).alloc (.cells #[.int .i64 0, .slice (some ⟨w10.heap.size, 0, none⟩) 1 1] 37)) (.slice (some ⟨w10.heap.size + 1, 0, none⟩) 1 1) (zH (aloneH (x0, x1)))) := alone2_at w10 x0 x1
  go_wp2_with fail
  refine (CRP.out _ _ hbal Hal.out).mono ?_
  rintro e w11 ⟨up, rfl, hsl, hb'⟩
  have hb11 := hbal.trans (hb'.mono hbal.size)
  have Hup11 : Hid (HpAt w11 up DP) := hsl
  clear hb' hbal Hal hsl
  clear b0 b1 hlt
  clear hb10
  obtain ⟨b0, b1, hlt, _⟩ := lbox hb11
  go_wp2_with fail
  refine (CP.out w11 hb11).mono ?_
  rintro e w12 ⟨vp, rfl, hsl, hb'⟩
  have hb12 := hb11.trans (hb'.mono hb11.size)
  have Hup12 : Hid (HpAt w12 (up) (DP)) := Hup11.out.below hb'
  clear Hup11
  have Hvp12 : Hid (HpAt w12 (vp) (DP)) := hsl
  clear hsl
  clear hb' hb11
  clear b0 b1 hlt
  go_wp2_with fail
  refine (CE0.out w12 hb12).mono ?_
  rintro e w13 ⟨rfl, hb'⟩
  have hb13 := hb12.trans (hb'.mono hb12.size)
  have Hup13 : Hid (HpAt w13 (up) (DP)) := Hup12.out.below hb'
  clear Hup12
  have Hvp13 : Hid (HpAt w13 (vp) (DP)) := Hvp12.out.below hb'
  clear Hvp12
  clear hb' hb12
  go_wp2_with fail
  refine (CTP.out w13 vp up Hvp13.out Hup13.out).mono ?_
  rintro e w14 ⟨rfl, hb'⟩
  have hb14 := hb13.trans (hb'.mono hb13.size)
  have Hup14 : Hid (HpAt w14 (up) (DP)) := Hup13.out.below hb'
  clear Hup13
  have Hvp14 : Hid (HpAt w14 (vp) (DP)) := Hvp13.out.below hb'
  clear Hvp13
  clear hb' hb13
  clear Hup14
  clear Hvp14
  have hba : Below (w.alloc (.cells #[.int .i64 x0, .int .i64 x1] 24)).heap.size (w.alloc (.cells #[.int .i64 x0, .int .i64 x1] 24)) (w14.alloc (.cells #[.int .i64 0, .int .i64 0] 24)) := hb14.alloc hb14.size _
  have hA0 : (w14.alloc (.cells #[.int .i64 0, .int .i64 0] 24)).cell? ⟨w14.heap.size, 0, none⟩ = some (.int .i64 0) := by simp
  have hA1 : (w14.alloc (.cells #[.int .i64 0, .int .i64 0] 24)).cell? ⟨w14.heap.size, 1, none⟩ = some (.int .i64 0) := by simp
  have hAl : w14.heap.size < (w14.alloc (.cells #[.int .i64 0, .int .i64 0] 24)).heap.size := by simp
  have hAf0 : (w14.alloc (.cells #[.int .i64 0, .int .i64 0] 24)).frozen? ⟨w14.heap.size, 0, none⟩ = false := by simp
  have hAf1 : (w14.alloc (.cells #[.int .i64 0, .int .i64 0] 24)).frozen? ⟨w14.heap.size, 1, none⟩ = false := by simp
  have hbF : (w.alloc (.cells #[.int .i64 x0, .int .i64 x1] 24)).heap.size ≤ w14.heap.size := hb14.size
  go_wp2_with fail
  refine (CRO.out _ hba).mono ?_
  rintro e wr ⟨u4, rfl, hsl, hb'⟩
  have hbr := hba.trans (hb'.mono hba.size)
  have hgs : wr.grownBy ((wr.setCell ⟨w14.heap.size, 0, none⟩ (.int .i64 y0)).setCell ⟨w14.heap.size, 1, none⟩ (.int .i64 y1)) (some w14.heap.size) := gb_set (World.grownBy.refl _ _) _ _ _ _
  have Hu5 : Hid (HpAt ((wr.setCell ⟨w14.heap.size, 0, none⟩ (.int .i64 y0)).setCell ⟨w14.heap.size, 1, none⟩ (.int .i64 y1)) u4 R) := hsl _ _ hbF hAl hgs
  have f0 := (hb'.cell (p := ⟨w14.heap.size, 0, none⟩) hAl).trans hA0
  have f1 := (hb'.cell (p := ⟨w14.heap.size, 1, none⟩) hAl).trans hA1
  have fz0 := (World.frozen?_of_block (a := ⟨w14.heap.size, 0, none⟩) (hb'.block w14.heap.size hAl)).trans hAf0
  have fz1 := (World.frozen?_of_block (a := ⟨w14.heap.size, 1, none⟩) (hb'.block w14.heap.size hAl)).trans hAf1
  have fl : w14.heap.size < wr.heap.size := Nat.lt_of_lt_of_le hAl hb'.size
  clear hb' hA0 hA1 hAl hba hAf0 hAf1 hsl
  have hbs : Below (w.alloc (.cells #[.int .i64 x0, .int .i64 x1] 24)).heap.size (w.alloc (.cells #[.int .i64 x0, .int .i64 x1] 24)) ((wr.setCell ⟨w14.heap.size, 0, none⟩ (.int .i64 y0)).setCell ⟨w14.heap.size, 1, none⟩ (.int .i64 y1)) := below_gb hbr hgs hbF hbr.size
  have s0 : ((wr.setCell ⟨w14.heap.size, 0, none⟩ (.int .i64 y0)).setCell ⟨w14.heap.size, 1, none⟩ (.int .i64 y1)).cell? ⟨w14.heap.size, 0, none⟩ = some (.int .i64 y0) := (World.cell?_setCell_other _ _ _ _ (by simp)).trans (World.cell?_setCell_same _ _ _ f0)
  have s1 : ((wr.setCell ⟨w14.heap.size, 0, none⟩ (.int .i64 y0)).setCell ⟨w14.heap.size, 1, none⟩ (.int .i64 y1)).cell? ⟨w14.heap.size, 1, none⟩ = some (.int .i64 y1) := World.cell?_setCell_same _ _ _ ((World.cell?_setCell_other _ _ _ _ (by simp)).trans f1)
  have sl : w14.heap.size < ((wr.setCell ⟨w14.heap.size, 0, none⟩ (.int .i64 y0)).setCell ⟨w14.heap.size, 1, none⟩ (.int .i64 y1)).heap.size := by rw [size_setCell, size_setCell]; exact fl
  clear hgs hbr
  go_wp2_with fail
  clear f0 f1 fz0 fz1 fl
  generalize ((wr.setCell ⟨w14.heap.size, 0, none⟩ (.int .i64 y0)).setCell ⟨w14.heap.size, 1, none⟩ (.int .i64 y1)) = ws at hbs Hu5 s0 s1 sl ⊢
  refine (CO.out _ hbs).mono ?_
  rintro e wp ⟨u6, rfl, hsl, hb'⟩
  have hbp := hbs.trans (hb'.mono hbs.size)
  have f0 := (hb'.cell (p := ⟨w14.heap.size, 0, none⟩) sl).trans s0
  have f1 := (hb'.cell (p := ⟨w14.heap.size, 1, none⟩) sl).trans s1
  have fl : w14.heap.size < wp.heap.size := Nat.lt_of_lt_of_le sl hb'.size
  have Hg6 : Hid (HpAt wp u6 R) := hsl
  have Hu6 : Hid (HpAt wp u4 R) := Hu5.out.below hb'
  clear hb' s0 s1 sl hbs Hu5 hsl
  have hby' : Below wp.heap.size wp (wp.alloc (.cells #[.int .i64 y0, .int .i64 y1] 24)) := (Below.refl _ _).alloc (Nat.le_refl _) _
  have hby : Below (w.alloc (.cells #[.int .i64 x0, .int .i64 x1] 24)).heap.size (w.alloc (.cells #[.int .i64 x0, .int .i64 x1] 24)) (wp.alloc (.cells #[.int .i64 y0, .int .i64 y1] 24)) := hbp.alloc hbp.size _
  have e0 := (hby'.cell (p := ⟨w14.heap.size, 0, none⟩) fl).trans f0
  have e1 := (hby'.cell (p := ⟨w14.heap.size, 1, none⟩) fl).trans f1
  have q0 : (wp.alloc (.cells #[.int .i64 y0, .int .i64 y1] 24)).cell? ⟨wp.heap.size, 0, none⟩ = some (.int .i64 y0) := by simp
  have q1 : (wp.alloc (.cells #[.int .i64 y0, .int .i64 y1] 24)).cell? ⟨wp.heap.size, 1, none⟩ = some (.int .i64 y1) := by simp
  have ql : wp.heap.size < (wp.alloc (.cells #[.int .i64 y0, .int .i64 y1] 24)).heap.size := by simp
  have Hg7 : Hid (HpAt (wp.alloc (.cells #[.int .i64 y0, .int .i64 y1] 24)) u6 R) := Hg6.out.below hby'
  have Hu7 : Hid (HpAt (wp.alloc (.cells #[.int .i64 y0, .int .i64 y1] 24)) u4 R) := Hu6.out.below hby'
  clear Hg6 Hu6
  clear f0 f1 hby'
  go_wp2_with fail
  refine (CE0.out _ hby).mono ?_
  rintro e we ⟨rfl, hb'⟩
  have hbe := hby.trans (hb'.mono hby.size)
  have z0 := (hb'.cell (p := ⟨w14.heap.size, 0, none⟩) (Nat.lt_trans fl ql)).trans e0
  have z1 := (hb'.cell (p := ⟨w14.heap.size, 1, none⟩) (Nat.lt_trans fl ql)).trans e1
  have v0 := (hb'.cell (p := ⟨wp.heap.size, 0, none⟩) ql).trans q0
  have v1 := (hb'.cell (p := ⟨wp.heap.size, 1, none⟩) ql).trans q1
  have Hg8 : Hid (HpAt we u6 R) := Hg7.out.below hb'
  have Hu8 : Hid (HpAt we u4 R) := Hu7.out.below hb'
  clear Hg7 Hu7
  clear hb' e0 e1 q0 q1 hby fl ql
  go_wp2_with fail
  refine (CTR.out we u6 u4 Hg8.out Hu8.out).mono ?_
  rintro e wf ⟨rfl, hb'⟩
  have hbf := hbe.trans (hb'.mono hbe.size)
  clear hb'
  go_wp2
  go_ret
  exact ⟨rfl, (lbox hbf).2.2.2⟩

end Go.Proofs.YtmkjalpgeljnkaaDoor

/-
  The law BinoSays, walked: some ways more.
-/
namespace Go.Proofs.YtmkjalpgeljnkaaDoor
open Go.RowKit Go.Sort Go.Proofs

set_option maxHeartbeats 32000000 in
set_option maxRecDepth 4000 in
theorem binoSays_9 (p p' : Option Addr) (n cap n' cap' sA sB : Nat) (x0 x1 y0 y1 : Int) (R : List (Int × List (Int × Int))) (w : World) (hw : IntKind.i64.wrap ((sA : Int) + (sB : Int)) = (sA : Int) + (sB : Int)) (hz : (60 : Int) < (sA : Int) + (sB : Int)) (hn0 : ((n : Int) == 0) = false)
    (CE0 : Hid (∀ w1, Below (w.alloc (.cells #[.int .i64 x0, .int .i64 x1] 24)).heap.size (w.alloc (.cells #[.int .i64 x0, .int .i64 x1] 24)) w1 → Calls Tryd.prog 8 #[.nilIface, .int .i64 0] w1 fun e w' => e = .returned (.bool true) ∧ Below w1.heap.size w1 w'))
    (CT0 : Hid (∀ w1, Below (w.alloc (.cells #[.int .i64 x0, .int .i64 x1] 24)).heap.size (w.alloc (.cells #[.int .i64 x0, .int .i64 x1] 24)) w1 → Calls Tryd.prog 13 #[.slice none 0 0, .slice none 0 0] w1 fun e w' => e = .returned (.bool true) ∧ Below w1.heap.size w1 w'))
    (CRA : Hid (∀ w1, Below (w.alloc (.cells #[.int .i64 x0, .int .i64 x1] 24)).heap.size (w.alloc (.cells #[.int .i64 x0, .int .i64 x1] 24)) w1 → Calls Tryd.prog 7 #[.slice p n cap] w1 fun e w' => e = .returned (.int .i64 0) ∧ Below w1.heap.size w1 w'))
    (CK : Hid (∀ w1, Below (w.alloc (.cells #[.int .i64 x0, .int .i64 x1] 24)).heap.size (w.alloc (.cells #[.int .i64 x0, .int .i64 x1] 24)) w1 → Calls Tryd.prog 9 #[.slice p n cap] w1 fun e w' => e = .returned (.nilIface) ∧ Below w1.heap.size w1 w'))
    (CRB : Hid (∀ w1, Below (w.alloc (.cells #[.int .i64 x0, .int .i64 x1] 24)).heap.size (w.alloc (.cells #[.int .i64 x0, .int .i64 x1] 24)) w1 → Calls Tryd.prog 7 #[.slice p' n' cap'] w1 fun e w' => e = .returned (.int .i64 0) ∧ Below w1.heap.size w1 w'))
    (CE4 : Hid (∀ w1, Below (w.alloc (.cells #[.int .i64 x0, .int .i64 x1] 24)).heap.size (w.alloc (.cells #[.int .i64 x0, .int .i64 x1] 24)) w1 → Calls Tryd.prog 8 #[.iface 56 (.int .i64 4), .int .i64 4] w1 fun e w' => e = .returned (.bool true) ∧ Below w1.heap.size w1 w'))
    (CSA : Hid (∀ w1, Below (w.alloc (.cells #[.int .i64 x0, .int .i64 x1] 24)).heap.size (w.alloc (.cells #[.int .i64 x0, .int .i64 x1] 24)) w1 → Calls Tryd.prog 10 #[.slice p n cap] w1 fun e w' => e = .returned (.int .i64 (sA : Int)) ∧ Below w1.heap.size w1 w'))
    (CSB : Hid (∀ w1, Below (w.alloc (.cells #[.int .i64 x0, .int .i64 x1] 24)).heap.size (w.alloc (.cells #[.int .i64 x0, .int .i64 x1] 24)) w1 → Calls Tryd.prog 10 #[.slice p' n' cap'] w1 fun e w' => e = .returned (.int .i64 (sB : Int)) ∧ Below w1.heap.size w1 w'))
    (CM : Hid (∀ w1, Below (w.alloc (.cells #[.int .i64 x0, .int .i64 x1] 24)).heap.size (w.alloc (.cells #[.int .i64 x0, .int .i64 x1] 24)) w1 → Calls Tryd.prog 12 #[.slice p n cap, .slice p' n' cap'] w1 fun e w' => e = .returned (.tuple #[.slice none 0 0, .iface 56 (.int .i64 4)]) ∧ Below w1.heap.size w1 w'))
    (CRX : Hid (∀ w1 g, Sl w1 (.slice (some ⟨g, 0, none⟩) 1 1) #[(x0, x1)] → Calls Tryd.prog 14 #[.slice (some ⟨g, 0, none⟩) 1 1] w1 fun e w' => e = .returned (.int .i64 1) ∧ Below w1.heap.size w1 w'))
    (CE1 : Hid (∀ w1, Below (w.alloc (.cells #[.int .i64 x0, .int .i64 x1] 24)).heap.size (w.alloc (.cells #[.int .i64 x0, .int .i64 x1] 24)) w1 → Calls Tryd.prog 8 #[.iface 56 (.int .i64 1), .int .i64 1] w1 fun e w' => e = .returned (.bool true) ∧ Below w1.heap.size w1 w'))
    (CP : Hid (∀ w1, Below (w.alloc (.cells #[.int .i64 x0, .int .i64 x1] 24)).heap.size (w.alloc (.cells #[.int .i64 x0, .int .i64 x1] 24)) w1 → Calls Tryd.prog 15 #[.slice p n cap, .agg #[.int .i64 x0, .int .i64 x1]] w1 fun e w' => e = .returned (.tuple #[.slice none 0 0, .iface 56 (.int .i64 1)]) ∧ Below w1.heap.size w1 w'))
    (CRO : Hid (∀ w1, Below (w.alloc (.cells #[.int .i64 x0, .int .i64 x1] 24)).heap.size (w.alloc (.cells #[.int .i64 x0, .int .i64 x1] 24)) w1 → Calls Tryd.prog 16 #[.slice p n cap] w1 fun e w' => ∃ u, e = .returned (.tuple #[.agg #[.int .i64 y0, .int .i64 y1], u]) ∧ (∀ w2 f, (w.alloc (.cells #[.int .i64 x0, .int .i64 x1] 24)).heap.size ≤ f → f < w1.heap.size → w'.grownBy w2 (some f) → HpAt w2 u R) ∧ Below w1.heap.size w1 w'))
    (CO : Hid (∀ w1, Below (w.alloc (.cells #[.int .i64 x0, .int .i64 x1] 24)).heap.size (w.alloc (.cells #[.int .i64 x0, .int .i64 x1] 24)) w1 → Calls Tryd.prog 17 #[.slice p n cap] w1 fun e w' => ∃ u, e = .returned (.tuple #[.agg #[.int .i64 y0, .int .i64 y1], u, .nilIface]) ∧ HpAt w' u R ∧ Below w1.heap.size w1 w'))
    (CTR : Hid (∀ w1 u v, HpAt w1 u R → HpAt w1 v R → Calls Tryd.prog 13 #[u, v] w1 fun e w' => e = .returned (.bool true) ∧ Below w1.heap.size w1 w')) :
    Calls Tryd.prog 3 #[.slice p n cap, .slice p' n' cap', .agg #[.int .i64 x0, .int .i64 x1]] w fun e w' => e = .returned (.bool true) ∧ Below w.heap.size w w' := by
  have ke : ∀ w, Sem.run Tryd.prog (Op.equalIn 10000 24 (.agg #[.int .i64 y0, .int .i64 y1]) (.agg #[.int .i64 y0, .int .i64 y1])) w = .ok true w := fun w => by have := equalIn_item y0 y1 y0 y1 w; simpa using this
  have kq : ∀ w, Sem.run Tryd.prog (binOp .eql 24 (.agg #[.int .i64 y0, .int .i64 y1]) (.agg #[.int .i64 y0, .int .i64 y1])) w = .ok (.bool true) w := fun w => by have := eql_item y0 y1 y0 y1 w; simpa using this
  have kg := guard_item
  go_enter Tryd.func3, Tryd.ntmps3
  have hb1 : Below (w.alloc (.cells #[.int .i64 x0, .int .i64 x1] 24)).heap.size (w.alloc (.cells #[.int .i64 x0, .int .i64 x1] 24)) (w.alloc (.cells #[.int .i64 x0, .int .i64 x1] 24)) := Below.refl _ _
  go_wp2_with fail
  refine (CRA.out (w.alloc (.cells #[.int .i64 x0, .int .i64 x1] 24)) hb1).mono ?_
  rintro e w2 ⟨rfl, hb'⟩
  have hb2 := hb1.trans (hb'.mono hb1.size)
  clear hb' hb1
  go_wp2_with fail
  refine (CK.out w2 hb2).mono ?_
  rintro e w3 ⟨rfl, hb'⟩
  have hb3 := hb2.trans (hb'.mono hb2.size)
  clear hb' hb2
  go_wp2_with fail
  refine (CE0.out w3 hb3).mono ?_
  rintro e w4 ⟨rfl, hb'⟩
  have hb4 := hb3.trans (hb'.mono hb3.size)
  clear hb' hb3
  go_wp2_with fail
  refine (CRB.out w4 hb4).mono ?_
  rintro e w5 ⟨rfl, hb'⟩
  have hb5 := hb4.trans (hb'.mono hb4.size)
  clear hb' hb4
  go_wp2_with fail
  refine (CSA.out w5 hb5).mono ?_
  rintro e w6 ⟨rfl, hb'⟩
  have hb6 := hb5.trans (hb'.mono hb5.size)
  clear hb' hb5
  go_wp2_with fail
  refine (CSB.out w6 hb6).mono ?_
  rintro e w7 ⟨rfl, hb'⟩
  have hb7 := hb6.trans (hb'.mono hb6.size)
  clear hb' hb6
  go_wp2_with fail
  refine (CM.out w7 hb7).mono ?_
  rintro e w8 ⟨rfl, hb'⟩
  have hb8 := hb7.trans (hb'.mono hb7.size)
  clear hb' hb7
  go_wp2_with fail
  refine (CE4.out w8 hb8).mono ?_
  rintro e w9 ⟨rfl, hb'⟩
  have hb9 := hb8.trans (hb'.mono hb8.size)
  clear hb' hb8
  go_wp2_with fail
  refine (CT0.out w9 hb9).mono ?_
  rintro e w10 ⟨rfl, hb'⟩
  have hb10 := hb9.trans (hb'.mono hb9.size)
  clear hb' hb9
  obtain ⟨b0, b1, hlt, _⟩ := lbox hb10
  have hbal : Below (w.alloc (.cells #[.int .i64 x0, .int .i64 x1] 24)).heap.size (w.alloc (.cells #[.int .i64 x0, .int .i64 x1] 24)) (w10.alloc (.cells #[.int .i64 x0, .int .i64 x1] 24)) := hb10.alloc hb10.size _
  have Hal : Hid (Sl (w10.alloc (.cells #[.int .i64 x0, .int .i64 x1] 24)) (.slice (some ⟨w10.heap.size, 0, none⟩) 1 1) #[(x0, x1)]) := one_sl w10 x0 x1
  go_wp2_with fail
  refine (CRX.out _ _ Hal.out).mono ?_
  rintro e w11 ⟨rfl, hb'⟩
  have hb11 := hbal.trans (hb'.mono hbal.size)
  clear hb' hbal Hal
  clear b0 b1 hlt
  clear hb10
  obtain ⟨b0, b1, hlt, _⟩ := lbox hb11
  go_wp2_with fail
  refine (CP.out w11 hb11).mono ?_
  rintro e w12 ⟨rfl, hb'⟩
  have hb12 := hb11.trans (hb'.mono hb11.size)
  clear hb' hb11
  clear b0 b1 hlt
  go_wp2_with fail
  refine (CE1.out w12 hb12).mono ?_
  rintro e w13 ⟨rfl, hb'⟩
  have hb13 := hb12.trans (hb'.mono hb12.size)
  clear hb' hb12
  go_wp2_with fail
  refine (CT0.out w13 hb13).mono ?_
  rintro e w14 ⟨rfl, hb'⟩
  have hb14 := hb13.trans (hb'.mono hb13.size)
  clear hb' hb13
  have hba : Below (w.alloc (.cells #[.int .i64 x0, .int .i64 x1] 24)).heap.size (w.alloc (.cells #[.int .i64 x0, .int .i64 x1] 24)) (w14.alloc (.cells #[.int .i64 0, .int .i64 0] 24)) := hb14.alloc hb14.size _
  have hA0 : (w14.alloc (.cells #[.int .i64 0, .int .i64 0] 24)).cell? ⟨w14.heap.size, 0, none⟩ = some (.int .i64 0) := by simp
  have hA1 : (w14.alloc (.cells #[.int .i64 0, .int .i64 0] 24)).cell? ⟨w14.heap.size, 1, none⟩ = some (.int .i64 0) := by simp
  have hAl : w14.heap.size < (w14.alloc (.cells #[.int .i64 0, .int .i64 0] 24)).heap.size := by simp
  have hAf0 : (w14.alloc (.cells #[.int .i64 0, .int .i64 0] 24)).frozen? ⟨w14.heap.size, 0, none⟩ = false := by simp
  have hAf1 : (w14.alloc (.cells #[.int .i64 0, .int .i64 0] 24)).frozen? ⟨w14.heap.size, 1, none⟩ = false := by simp
  have hbF : (w.alloc (.cells #[.int .i64 x0, .int .i64 x1] 24)).heap.size ≤ w14.heap.size := hb14.size
  go_wp2_with fail
  refine (CRO.out _ hba).mono ?_
  rintro e wr ⟨u4, rfl, hsl, hb'⟩
  have hbr := hba.trans (hb'.mono hba.size)
  have hgs : wr.grownBy ((wr.setCell ⟨w14.heap.size, 0, none⟩ (.int .i64 y0)).setCell ⟨w14.heap.size, 1, none⟩ (.int .i64 y1)) (some w14.heap.size) := gb_set (World.grownBy.refl _ _) _ _ _ _
  have Hu5 : Hid (HpAt ((wr.setCell ⟨w14.heap.size, 0, none⟩ (.int .i64 y0)).setCell ⟨w14.heap.size, 1, none⟩ (.int .i64 y1)) u4 R) := hsl _ _ hbF hAl hgs
  have f0 := (hb'.cell (p := ⟨w14.heap.size, 0, none⟩) hAl).trans hA0
  have f1 := (hb'.cell (p := ⟨w14.heap.size, 1, none⟩) hAl).trans hA1
  have fz0 := (World.frozen?_of_block (a := ⟨w14.heap.size, 0, none⟩) (hb'.block w14.heap.size hAl)).trans hAf0
  have fz1 := (World.frozen?_of_block (a := ⟨w14.heap.size, 1, none⟩) (hb'.block w14.heap.size hAl)).trans hAf1
  have fl : w14.heap.size < wr.heap.size := Nat.lt_of_lt_of_le hAl hb'.size
  clear hb' hA0 hA1 hAl hba hAf0 hAf1 hsl
  have hbs : Below (w.alloc (.cells #[.int .i64 x0, .int .i64 x1] 24)).heap.size (w.alloc (.cells #[.int .i64 x0, .int .i64 x1] 24)) ((wr.setCell ⟨w14.heap.size, 0, none⟩ (.int .i64 y0)).setCell ⟨w14.heap.size, 1, none⟩ (.int .i64 y1)) := below_gb hbr hgs hbF hbr.size
  have s0 : ((wr.setCell ⟨w14.heap.size, 0, none⟩ (.int .i64 y0)).setCell ⟨w14.heap.size, 1, none⟩ (.int .i64 y1)).cell? ⟨w14.heap.size, 0, none⟩ = some (.int .i64 y0) := (World.cell?_setCell_other _ _ _ _ (by simp)).trans (World.cell?_setCell_same _ _ _ f0)
  have s1 : ((wr.setCell ⟨w14.heap.size, 0, none⟩ (.int .i64 y0)).setCell ⟨w14.heap.size, 1, none⟩ (.int .i64 y1)).cell? ⟨w14.heap.size, 1, none⟩ = some (.int .i64 y1) := World.cell?_setCell_same _ _ _ ((World.cell?_setCell_other _ _ _ _ (by simp)).trans f1)
  have sl : w14.heap.size < ((wr.setCell ⟨w14.heap.size, 0, none⟩ (.int .i64 y0)).setCell ⟨w14.heap.size, 1, none⟩ (.int .i64 y1)).heap.size := by rw [size_setCell, size_setCell]; exact fl
  clear hgs hbr
  go_wp2_with fail
  clear f0 f1 fz0 fz1 fl
  generalize ((wr.setCell ⟨w14.heap.size, 0, none⟩ (.int .i64 y0)).setCell ⟨w14.heap.size, 1, none⟩ (.int .i64 y1)) = ws at hbs Hu5 s0 s1 sl ⊢
  refine (CO.out _ hbs).mono ?_
  rintro e wp ⟨u6, rfl, hsl, hb'⟩
  have hbp := hbs.trans (hb'.mono hbs.size)
  have f0 := (hb'.cell (p := ⟨w14.heap.size, 0, none⟩) sl).trans s0
  have f1 := (hb'.cell (p := ⟨w14.heap.size, 1, none⟩) sl).trans s1
  have fl : w14.heap.size < wp.heap.size := Nat.lt_of_lt_of_le sl hb'.size
  have Hg6 : Hid (HpAt wp u6 R) := hsl
  have Hu6 : Hid (HpAt wp u4 R) := Hu5.out.below hb'
  clear hb' s0 s1 sl hbs Hu5 hsl
  have hby' : Below wp.heap.size wp (wp.alloc (.cells #[.int .i64 y0, .int .i64 y1] 24)) := (Below.refl _ _).alloc (Nat.le_refl _) _
  have hby : Below (w.alloc (.cells #[.int .i64 x0, .int .i64 x1] 24)).heap.size (w.alloc (.cells #[.int .i64 x0, .int .i64 x1] 24)) (wp.alloc (.cells #[.int .i64 y0, .int .i64 y1] 24)) := hbp.alloc hbp.size _
  have e0 := (hby'.cell (p := ⟨w14.heap.size, 0, none⟩) fl).trans f0
  have e1 := (hby'.cell (p := ⟨w14.heap.size, 1, none⟩) fl).trans f1
  have q0 : (wp.alloc (.cells #[.int .i64 y0, .int .i64 y1] 24)).cell? ⟨wp.heap.size, 0, none⟩ = some (.int .i64 y0) := by simp
  have q1 : (wp.alloc (.cells #[.int .i64 y0, .int .i64 y1] 24)).cell? ⟨wp.heap.size, 1, none⟩ = some (.int .i64 y1) := by simp
  have ql : wp.heap.size < (wp.alloc (.cells #[.int .i64 y0, .int .i64 y1] 24)).heap.size := by simp
  have Hg7 : Hid (HpAt (wp.alloc (.cells #[.int .i64 y0, .int .i64 y1] 24)) u6 R) := Hg6.out.below hby'
  have Hu7 : Hid (HpAt (wp.alloc (.cells #[.int .i64 y0, .int .i64 y1] 24)) u4 R) := Hu6.out.below hby'
  clear Hg6 Hu6
  clear f0 f1 hby'
  go_wp2_with fail
  refine (CE0.out _ hby).mono ?_
  rintro e we ⟨rfl, hb'⟩
  have hbe := hby.trans (hb'.mono hby.size)
  have z0 := (hb'.cell (p := ⟨w14.heap.size, 0, none⟩) (Nat.lt_trans fl ql)).trans e0
  have z1 := (hb'.cell (p := ⟨w14.heap.size, 1, none⟩) (Nat.lt_trans fl ql)).trans e1
  have v0 := (hb'.cell (p := ⟨wp.heap.size, 0, none⟩) ql).trans q0
  have v1 := (hb'.cell (p := ⟨wp.heap.size, 1, none⟩) ql).trans q1
  have Hg8 : Hid (HpAt we u6 R) := Hg7.out.below hb'
  have Hu8 : Hid (HpAt we u4 R) := Hu7.out.below hb'
  clear Hg7 Hu7
  clear hb' e0 e1 q0 q1 hby fl ql
  go_wp2_with fail
  refine (CTR.out we u6 u4 Hg8.out Hu8.out).mono ?_
  rintro e wf ⟨rfl, hb'⟩
  have hbf := hbe.trans (hb'.mono hbe.size)
  clear hb'
  go_wp2
  go_ret
  exact ⟨rfl, (lbox hbf).2.2.2⟩

set_option maxHeartbeats 32000000 in
set_option maxRecDepth 4000 in
theorem binoSays_10 (p p' : Option Addr) (n cap n' cap' sB : Nat) (x0 x1 y0 y1 : Int) (R : List (Int × List (Int × Int))) (w : World) (hw : IntKind.i64.wrap ((60 : Int) + (sB : Int)) = (60 : Int) + (sB : Int)) (hz : (60 : Int) < (60 : Int) + (sB : Int)) (hn0 : ((n : Int) == 0) = false)
    (CE0 : Hid (∀ w1, Below (w.alloc (.cells #[.int .i64 x0, .int .i64 x1] 24)).heap.size (w.alloc (.cells #[.int .i64 x0, .int .i64 x1] 24)) w1 → Calls Tryd.prog 8 #[.nilIface, .int .i64 0] w1 fun e w' => e = .returned (.bool true) ∧ Below w1.heap.size w1 w'))
    (CT0 : Hid (∀ w1, Below (w.alloc (.cells #[.int .i64 x0, .int .i64 x1] 24)).heap.size (w.alloc (.cells #[.int .i64 x0, .int .i64 x1] 24)) w1 → Calls Tryd.prog 13 #[.slice none 0 0, .slice none 0 0] w1 fun e w' => e = .returned (.bool true) ∧ Below w1.heap.size w1 w'))
    (CRA : Hid (∀ w1, Below (w.alloc (.cells #[.int .i64 x0, .int .i64 x1] 24)).heap.size (w.alloc (.cells #[.int .i64 x0, .int .i64 x1] 24)) w1 → Calls Tryd.prog 7 #[.slice p n cap] w1 fun e w' => e = .returned (.int .i64 0) ∧ Below w1.heap.size w1 w'))
    (CK : Hid (∀ w1, Below (w.alloc (.cells #[.int .i64 x0, .int .i64 x1] 24)).heap.size (w.alloc (.cells #[.int .i64 x0, .int .i64 x1] 24)) w1 → Calls Tryd.prog 9 #[.slice p n cap] w1 fun e w' => e = .returned (.nilIface) ∧ Below w1.heap.size w1 w'))
    (CRB : Hid (∀ w1, Below (w.alloc (.cells #[.int .i64 x0, .int .i64 x1] 24)).heap.size (w.alloc (.cells #[.int .i64 x0, .int .i64 x1] 24)) w1 → Calls Tryd.prog 7 #[.slice p' n' cap'] w1 fun e w' => e = .returned (.int .i64 0) ∧ Below w1.heap.size w1 w'))
    (CE4 : Hid (∀ w1, Below (w.alloc (.cells #[.int .i64 x0, .int .i64 x1] 24)).heap.size (w.alloc (.cells #[.int .i64 x0, .int .i64 x1] 24)) w1 → Calls Tryd.prog 8 #[.iface 56 (.int .i64 4), .int .i64 4] w1 fun e w' => e = .returned (.bool true) ∧ Below w1.heap.size w1 w'))
    (CSA : Hid (∀ w1, Below (w.alloc (.cells #[.int .i64 x0, .int .i64 x1] 24)).heap.size (w.alloc (.cells #[.int .i64 x0, .int .i64 x1] 24)) w1 → Calls Tryd.prog 10 #[.slice p n cap] w1 fun e w' => e = .returned (.int .i64 (60 : Int)) ∧ Below w1.heap.size w1 w'))
    (CSB : Hid (∀ w1, Below (w.alloc (.cells #[.int .i64 x0, .int .i64 x1] 24)).heap.size (w.alloc (.cells #[.int .i64 x0, .int .i64 x1] 24)) w1 → Calls Tryd.prog 10 #[.slice p' n' cap'] w1 fun e w' => e = .returned (.int .i64 (sB : Int)) ∧ Below w1.heap.size w1 w'))
    (CM : Hid (∀ w1, Below (w.alloc (.cells #[.int .i64 x0, .int .i64 x1] 24)).heap.size (w.alloc (.cells #[.int .i64 x0, .int .i64 x1] 24)) w1 → Calls Tryd.prog 12 #[.slice p n cap, .slice p' n' cap'] w1 fun e w' => e = .returned (.tuple #[.slice none 0 0, .iface 56 (.int .i64 4)]) ∧ Below w1.heap.size w1 w'))
    (CRX : Hid (∀ w1 g, Sl w1 (.slice (some ⟨g, 0, none⟩) 1 1) #[(x0, x1)] → Calls Tryd.prog 14 #[.slice (some ⟨g, 0, none⟩) 1 1] w1 fun e w' => e = .returned (.int .i64 0) ∧ Below w1.heap.size w1 w'))
    (CP : Hid (∀ w1, Below (w.alloc (.cells #[.int .i64 x0, .int .i64 x1] 24)).heap.size (w.alloc (.cells #[.int .i64 x0, .int .i64 x1] 24)) w1 → Calls Tryd.prog 15 #[.slice p n cap, .agg #[.int .i64 x0, .int .i64 x1]] w1 fun e w' => e = .returned (.tuple #[.slice none 0 0, .iface 56 (.int .i64 4)]) ∧ Below w1.heap.size w1 w'))
    (CRO : Hid (∀ w1, Below (w.alloc (.cells #[.int .i64 x0, .int .i64 x1] 24)).heap.size (w.alloc (.cells #[.int .i64 x0, .int .i64 x1] 24)) w1 → Calls Tryd.prog 16 #[.slice p n cap] w1 fun e w' => ∃ u, e = .returned (.tuple #[.agg #[.int .i64 y0, .int .i64 y1], u]) ∧ (∀ w2 f, (w.alloc (.cells #[.int .i64 x0, .int .i64 x1] 24)).heap.size ≤ f → f < w1.heap.size → w'.grownBy w2 (some f) → HpAt w2 u R) ∧ Below w1.heap.size w1 w'))
    (CO : Hid (∀ w1, Below (w.alloc (.cells #[.int .i64 x0, .int .i64 x1] 24)).heap.size (w.alloc (.cells #[.int .i64 x0, .int .i64 x1] 24)) w1 → Calls Tryd.prog 17 #[.slice p n cap] w1 fun e w' => ∃ u, e = .returned (.tuple #[.agg #[.int .i64 y0, .int .i64 y1], u, .nilIface]) ∧ HpAt w' u R ∧ Below w1.heap.size w1 w'))
    (CTR : Hid (∀ w1 u v, HpAt w1 u R → HpAt w1 v R → Calls Tryd.prog 13 #[u, v] w1 fun e w' => e = .returned (.bool true) ∧ Below w1.heap.size w1 w')) :
    Calls Tryd.prog 3 #[.slice p n cap, .slice p' n' cap', .agg #[.int .i64 x0, .int .i64 x1]] w fun e w' => e = .returned (.bool true) ∧ Below w.heap.size w w' := by
  have ke : ∀ w, Sem.run Tryd.prog (Op.equalIn 10000 24 (.agg #[.int .i64 y0, .int .i64 y1]) (.agg #[.int .i64 y0, .int .i64 y1])) w = .ok true w := fun w => by have := equalIn_item y0 y1 y0 y1 w; simpa using this
  have kq : ∀ w, Sem.run Tryd.prog (binOp .eql 24 (.agg #[.int .i64 y0, .int .i64 y1]) (.agg #[.int .i64 y0, .int .i64 y1])) w = .ok (.bool true) w := fun w => by have := eql_item y0 y1 y0 y1 w; simpa using this
  have kg := guard_item
  go_enter Tryd.func3, Tryd.ntmps3
  have hb1 : Below (w.alloc (.cells #[.int .i64 x0, .int .i64 x1] 24)).heap.size (w.alloc (.cells #[.int .i64 x0, .int .i64 x1] 24)) (w.alloc (.cells #[.int .i64 x0, .int .i64 x1] 24)) := Below.refl _ _
  go_wp2_with fail
  refine (CRA.out (w.alloc (.cells #[.int .i64 x0, .int .i64 x1] 24)) hb1).mono ?_
  rintro e w2 ⟨rfl, hb'⟩
  have hb2 := hb1.trans (hb'.mono hb1.size)
  clear hb' hb1
  go_wp2_with fail
  refine (CK.out w2 hb2).mono ?_
  rintro e w3 ⟨rfl, hb'⟩
  have hb3 := hb2.trans (hb'.mono hb2.size)
  clear hb' hb2
  go_wp2_with fail
  refine (CE0.out w3 hb3).mono ?_
  rintro e w4 ⟨rfl, hb'⟩
  have hb4 := hb3.trans (hb'.mono hb3.size)
  clear hb' hb3
  go_wp2_with fail
  refine (CRB.out w4 hb4).mono ?_
  rintro e w5 ⟨rfl, hb'⟩
  have hb5 := hb4.trans (hb'.mono hb4.size)
  clear hb' hb4
  go_wp2_with fail
  refine (CSA.out w5 hb5).mono ?_
  rintro e w6 ⟨rfl, hb'⟩
  have hb6 := hb5.trans (hb'.mono hb5.size)
  clear hb' hb5
  go_wp2_with fail
  refine (CSB.out w6 hb6).mono ?_
  rintro e w7 ⟨rfl, hb'⟩
  have hb7 := hb6.trans (hb'.mono hb6.size)
  clear hb' hb6
  go_wp2_with fail
  refine (CM.out w7 hb7).mono ?_
  rintro e w8 ⟨rfl, hb'⟩
  have hb8 := hb7.trans (hb'.mono hb7.size)
  clear hb' hb7
  go_wp2_with fail
  refine (CE4.out w8 hb8).mono ?_
  rintro e w9 ⟨rfl, hb'⟩
  have hb9 := hb8.trans (hb'.mono hb8.size)
  clear hb' hb8
  go_wp2_with fail
  refine (CT0.out w9 hb9).mono ?_
  rintro e w10 ⟨rfl, hb'⟩
  have hb10 := hb9.trans (hb'.mono hb9.size)
  clear hb' hb9
  obtain ⟨b0, b1, hlt, _⟩ := lbox hb10
  have hbal : Below (w.alloc (.cells #[.int .i64 x0, .int .i64 x1] 24)).heap.size (w.alloc (.cells #[.int .i64 x0, .int .i64 x1] 24)) (w10.alloc (.cells #[.int .i64 x0, .int .i64 x1] 24)) := hb10.alloc hb10.size _
  have Hal : Hid (Sl (w10.alloc (.cells #[.int .i64 x0, .int .i64 x1] 24)) (.slice (some ⟨w10.heap.size, 0, none⟩) 1 1) #[(x0, x1)]) := one_sl w10 x0 x1
  go_wp2_with fail
  refine (CRX.out _ _ Hal.out).mono ?_
  rintro e w11 ⟨rfl, hb'⟩
  have hb11 := hbal.trans (hb'.mono hbal.size)
  clear hb' hbal Hal
  clear b0 b1 hlt
  clear hb10
  go_wp2_with fail
  refine (CSA.out w11 hb11).mono ?_
  rintro e w12 ⟨rfl, hb'⟩
  have hb12 := hb11.trans (hb'.mono hb11.size)
  clear hb' hb11
  obtain ⟨b0, b1, hlt, _⟩ := lbox hb12
  go_wp2_with fail
  refine (CP.out w12 hb12).mono ?_
  rintro e w13 ⟨rfl, hb'⟩
  have hb13 := hb12.trans (hb'.mono hb12.size)
  clear hb' hb12
  clear b0 b1 hlt
  go_wp2_with fail
  refine (CE4.out w13 hb13).mono ?_
  rintro e w14 ⟨rfl, hb'⟩
  have hb14 := hb13.trans (hb'.mono hb13.size)
  clear hb' hb13
  go_wp2_with fail
  refine (CT0.out w14 hb14).mono ?_
  rintro e w15 ⟨rfl, hb'⟩
  have hb15 := hb14.trans (hb'.mono hb14.size)
  clear hb' hb14
  have hba : Below (w.alloc (.cells #[.int .i64 x0, .int .i64 x1] 24)).heap.size (w.alloc (.cells #[.int .i64 x0, .int .i64 x1] 24)) (w15.alloc (.cells #[.int .i64 0, .int .i64 0] 24)) := hb15.alloc hb15.size _
  have hA0 : (w15.alloc (.cells #[.int .i64 0, .int .i64 0] 24)).cell? ⟨w15.heap.size, 0, none⟩ = some (.int .i64 0) := by simp
  have hA1 : (w15.alloc (.cells #[.int .i64 0, .int .i64 0] 24)).cell? ⟨w15.heap.size, 1, none⟩ = some (.int .i64 0) := by simp
  have hAl : w15.heap.size < (w15.alloc (.cells #[.int .i64 0, .int .i64 0] 24)).heap.size := by simp
  have hAf0 : (w15.alloc (.cells #[.int .i64 0, .int .i64 0] 24)).frozen? ⟨w15.heap.size, 0, none⟩ = false := by simp
  have hAf1 : (w15.alloc (.cells #[.int .i64 0, .int .i64 0] 24)).frozen? ⟨w15.heap.size, 1, none⟩ = false := by simp
  have hbF : (w.alloc (.cells #[.int .i64 x0, .int .i64 x1] 24)).heap.size ≤ w15.heap.size := hb15.size
  go_wp2_with fail
  refine (CRO.out _ hba).mono ?_
  rintro e wr ⟨u4, rfl, hsl, hb'⟩
  have hbr := hba.trans (hb'.mono hba.size)
  have hgs : wr.grownBy ((wr.setCell ⟨w15.heap.size, 0, none⟩ (.int .i64 y0)).setCell ⟨w15.heap.size, 1, none⟩ (.int .i64 y1)) (some w15.heap.size) := gb_set (World.grownBy.refl _ _) _ _ _ _
  have Hu5 : Hid (HpAt ((wr.setCell ⟨w15.heap.size, 0, none⟩ (.int .i64 y0)).setCell ⟨w15.heap.size, 1, none⟩ (.int .i64 y1)) u4 R) := hsl _ _ hbF hAl hgs
  have f0 := (hb'.cell (p := ⟨w15.heap.size, 0, none⟩) hAl).trans hA0
  have f1 := (hb'.cell (p := ⟨w15.heap.size, 1, none⟩) hAl).trans hA1
  have fz0 := (World.frozen?_of_block (a := ⟨w15.heap.size, 0, none⟩) (hb'.block w15.heap.size hAl)).trans hAf0
  have fz1 := (World.frozen?_of_block (a := ⟨w15.heap.size, 1, none⟩) (hb'.block w15.heap.size hAl)).trans hAf1
  have fl : w15.heap.size < wr.heap.size := Nat.lt_of_lt_of_le hAl hb'.size
  clear hb' hA0 hA1 hAl hba hAf0 hAf1 hsl
  have hbs : Below (w.alloc (.cells #[.int .i64 x0, .int .i64 x1] 24)).heap.size (w.alloc (.cells #[.int .i64 x0, .int .i64 x1] 24)) ((wr.setCell ⟨w15.heap.size, 0, none⟩ (.int .i64 y0)).setCell ⟨w15.heap.size, 1, none⟩ (.int .i64 y1)) := below_gb hbr hgs hbF hbr.size
  have s0 : ((wr.setCell ⟨w15.heap.size, 0, none⟩ (.int .i64 y0)).setCell ⟨w15.heap.size, 1, none⟩ (.int .i64 y1)).cell? ⟨w15.heap.size, 0, none⟩ = some (.int .i64 y0) := (World.cell?_setCell_other _ _ _ _ (by simp)).trans (World.cell?_setCell_same _ _ _ f0)
  have s1 : ((wr.setCell ⟨w15.heap.size, 0, none⟩ (.int .i64 y0)).setCell ⟨w15.heap.size, 1, none⟩ (.int .i64 y1)).cell? ⟨w15.heap.size, 1, none⟩ = some (.int .i64 y1) := World.cell?_setCell_same _ _ _ ((World.cell?_setCell_other _ _ _ _ (by simp)).trans f1)
  have sl : w15.heap.size < ((wr.setCell ⟨w15.heap.size, 0, none⟩ (.int .i64 y0)).setCell ⟨w15.heap.size, 1, none⟩ (.int .i64 y1)).heap.size := by rw [size_setCell, size_setCell]; exact fl
  clear hgs hbr
  go_wp2_with fail
  clear f0 f1 fz0 fz1 fl
  generalize ((wr.setCell ⟨w15.heap.size, 0, none⟩ (.int .i64 y0)).setCell ⟨w15.heap.size, 1, none⟩ (.int .i64 y1)) = ws at hbs Hu5 s0 s1 sl ⊢
  refine (CO.out _ hbs).mono ?_
  rintro e wp ⟨u6, rfl, hsl, hb'⟩
  have hbp := hbs.trans (hb'.mono hbs.size)
  have f0 := (hb'.cell (p := ⟨w15.heap.size, 0, none⟩) sl).trans s0
  have f1 := (hb'.cell (p := ⟨w15.heap.size, 1, none⟩) sl).trans s1
  have fl : w15.heap.size < wp.heap.size := Nat.lt_of_lt_of_le sl hb'.size
  have Hg6 : Hid (HpAt wp u6 R) := hsl
  have Hu6 : Hid (HpAt wp u4 R) := Hu5.out.below hb'
  clear hb' s0 s1 sl hbs Hu5 hsl
  have hby' : Below wp.heap.size wp (wp.alloc (.cells #[.int .i64 y0, .int .i64 y1] 24)) := (Below.refl _ _).alloc (Nat.le_refl _) _
  have hby : Below (w.alloc (.cells #[.int .i64 x0, .int .i64 x1] 24)).heap.size (w.alloc (.cells #[.int .i64 x0, .int .i64 x1] 24)) (wp.alloc (.cells #[.int .i64 y0, .int .i64 y1] 24)) := hbp.alloc hbp.size _
  have e0 := (hby'.cell (p := ⟨w15.heap.size, 0, none⟩) fl).trans f0
  have e1 := (hby'.cell (p := ⟨w15.heap.size, 1, none⟩) fl).trans f1
  have q0 : (wp.alloc (.cells #[.int .i64 y0, .int .i64 y1] 24)).cell? ⟨wp.heap.size, 0, none⟩ = some (.int .i64 y0) := by simp
  have q1 : (wp.alloc (.cells #[.int .i64 y0, .int .i64 y1] 24)).cell? ⟨wp.heap.size, 1, none⟩ = some (.int .i64 y1) := by simp
  have ql : wp.heap.size < (wp.alloc (.cells #[.int .i64 y0, .int .i64 y1] 24)).heap.size := by simp
  have Hg7 : Hid (HpAt (wp.alloc (.cells #[.int .i64 y0, .int .i64 y1] 24)) u6 R) := Hg6.out.below hby'
  have Hu7 : Hid (HpAt (wp.alloc (.cells #[.int .i64 y0, .int .i64 y1] 24)) u4 R) := Hu6.out.below hby'
  clear Hg6 Hu6
  clear f0 f1 hby'
  go_wp2_with fail
  refine (CE0.out _ hby).mono ?_
  rintro e we ⟨rfl, hb'⟩
  have hbe := hby.trans (hb'.mono hby.size)
  have z0 := (hb'.cell (p := ⟨w15.heap.size, 0, none⟩) (Nat.lt_trans fl ql)).trans e0
  have z1 := (hb'.cell (p := ⟨w15.heap.size, 1, none⟩) (Nat.lt_trans fl ql)).trans e1
  have v0 := (hb'.cell (p := ⟨wp.heap.size, 0, none⟩) ql).trans q0
  have v1 := (hb'.cell (p := ⟨wp.heap.size, 1, none⟩) ql).trans q1
  have Hg8 : Hid (HpAt we u6 R) := Hg7.out.below hb'
  have Hu8 : Hid (HpAt we u4 R) := Hu7.out.below hb'
  clear Hg7 Hu7
  clear hb' e0 e1 q0 q1 hby fl ql
  go_wp2_with fail
  refine (CTR.out we u6 u4 Hg8.out Hu8.out).mono ?_
  rintro e wf ⟨rfl, hb'⟩
  have hbf := hbe.trans (hb'.mono hbe.size)
  clear hb'
  go_wp2
  go_ret
  exact ⟨rfl, (lbox hbf).2.2.2⟩

set_option maxHeartbeats 32000000 in
set_option maxRecDepth 4000 in
theorem binoSays_11 (p p' : Option Addr) (n cap n' cap' sA sB : Nat) (x0 x1 y0 y1 : Int) (DP R : List (Int × List (Int × Int))) (w : World) (hw : IntKind.i64.wrap ((sA : Int) + (sB : Int)) = (sA : Int) + (sB : Int)) (hz : (60 : Int) < (sA : Int) + (sB : Int)) (hs60 : ((sA : Int) == 60) = false) (hn0 : ((n : Int) == 0) = false)
    (CE0 : Hid (∀ w1, Below (w.alloc (.cells #[.int .i64 x0, .int .i64 x1] 24)).heap.size (w.alloc (.cells #[.int .i64 x0, .int .i64 x1] 24)) w1 → Calls Tryd.prog 8 #[.nilIface, .int .i64 0] w1 fun e w' => e = .returned (.bool true) ∧ Below w1.heap.size w1 w'))
    (CT0 : Hid (∀ w1, Below (w.alloc (.cells #[.int .i64 x0, .int .i64 x1] 24)).heap.size (w.alloc (.cells #[.int .i64 x0, .int .i64 x1] 24)) w1 → Calls Tryd.prog 13 #[.slice none 0 0, .slice none 0 0] w1 fun e w' => e = .returned (.bool true) ∧ Below w1.heap.size w1 w'))
    (CRA : Hid (∀ w1, Below (w.alloc (.cells #[.int .i64 x0, .int .i64 x1] 24)).heap.size (w.alloc (.cells #[.int .i64 x0, .int .i64 x1] 24)) w1 → Calls Tryd.prog 7 #[.slice p n cap] w1 fun e w' => e = .returned (.int .i64 0) ∧ Below w1.heap.size w1 w'))
    (CK : Hid (∀ w1, Below (w.alloc (.cells #[.int .i64 x0, .int .i64 x1] 24)).heap.size (w.alloc (.cells #[.int .i64 x0, .int .i64 x1] 24)) w1 → Calls Tryd.prog 9 #[.slice p n cap] w1 fun e w' => e = .returned (.nilIface) ∧ Below w1.heap.size w1 w'))
    (CRB : Hid (∀ w1, Below (w.alloc (.cells #[.int .i64 x0, .int .i64 x1] 24)).heap.size (w.alloc (.cells #[.int .i64 x0, .int .i64 x1] 24)) w1 → Calls Tryd.prog 7 #[.slice p' n' cap'] w1 fun e w' => e = .returned (.int .i64 0) ∧ Below w1.heap.size w1 w'))
    (CE4 : Hid (∀ w1, Below (w.alloc (.cells #[.int .i64 x0, .int .i64 x1] 24)).heap.size (w.alloc (.cells #[.int .i64 x0, .int .i64 x1] 24)) w1 → Calls Tryd.prog 8 #[.iface 56 (.int .i64 4), .int .i64 4] w1 fun e w' => e = .returned (.bool true) ∧ Below w1.heap.size w1 w'))
    (CSA : Hid (∀ w1, Below (w.alloc (.cells #[.int .i64 x0, .int .i64 x1] 24)).heap.size (w.alloc (.cells #[.int .i64 x0, .int .i64 x1] 24)) w1 → Calls Tryd.prog 10 #[.slice p n cap] w1 fun e w' => e = .returned (.int .i64 (sA : Int)) ∧ Below w1.heap.size w1 w'))
    (CSB : Hid (∀ w1, Below (w.alloc (.cells #[.int .i64 x0, .int .i64 x1] 24)).heap.size (w.alloc (.cells #[.int .i64 x0, .int .i64 x1] 24)) w1 → Calls Tryd.prog 10 #[.slice p' n' cap'] w1 fun e w' => e = .returned (.int .i64 (sB : Int)) ∧ Below w1.heap.size w1 w'))
    (CM : Hid (∀ w1, Below (w.alloc (.cells #[.int .i64 x0, .int .i64 x1] 24)).heap.size (w.alloc (.cells #[.int .i64 x0, .int .i64 x1] 24)) w1 → Calls Tryd.prog 12 #[.slice p n cap, .slice p' n' cap'] w1 fun e w' => e = .returned (.tuple #[.slice none 0 0, .iface 56 (.int .i64 4)]) ∧ Below w1.heap.size w1 w'))
    (CRX : Hid (∀ w1 g, Sl w1 (.slice (some ⟨g, 0, none⟩) 1 1) #[(x0, x1)] → Calls Tryd.prog 14 #[.slice (some ⟨g, 0, none⟩) 1 1] w1 fun e w' => e = .returned (.int .i64 0) ∧ Below w1.heap.size w1 w'))
    (CRP : Hid (∀ w1 g, Below (w.alloc (.cells #[.int .i64 x0, .int .i64 x1] 24)).heap.size (w.alloc (.cells #[.int .i64 x0, .int .i64 x1] 24)) w1 → HpAt w1 (.slice (some ⟨g, 0, none⟩) 1 1) (zH (aloneH (x0, x1))) → Calls Tryd.prog 11 #[.slice p n cap, .slice (some ⟨g, 0, none⟩) 1 1] w1 fun e w' => ∃ u, e = .returned u ∧ HpAt w' u DP ∧ Below w1.heap.size w1 w'))
    (CP : Hid (∀ w1, Below (w.alloc (.cells #[.int .i64 x0, .int .i64 x1] 24)).heap.size (w.alloc (.cells #[.int .i64 x0, .int .i64 x1] 24)) w1 → Calls Tryd.prog 15 #[.slice p n cap, .agg #[.int .i64 x0, .int .i64 x1]] w1 fun e w' => ∃ u, e = .returned (.tuple #[u, .nilIface]) ∧ HpAt w' u DP ∧ Below w1.heap.size w1 w'))
    (CTP : Hid (∀ w1 u v, HpAt w1 u DP → HpAt w1 v DP → Calls Tryd.prog 13 #[u, v] w1 fun e w' => e = .returned (.bool true) ∧ Below w1.heap.size w1 w'))
    (CRO : Hid (∀ w1, Below (w.alloc (.cells #[.int .i64 x0, .int .i64 x1] 24)).heap.size (w.alloc (.cells #[.int .i64 x0, .int .i64 x1] 24)) w1 → Calls Tryd.prog 16 #[.slice p n cap] w1 fun e w' => ∃ u, e = .returned (.tuple #[.agg #[.int .i64 y0, .int .i64 y1], u]) ∧ (∀ w2 f, (w.alloc (.cells #[.int .i64 x0, .int .i64 x1] 24)).heap.size ≤ f → f < w1.heap.size → w'.grownBy w2 (some f) → HpAt w2 u R) ∧ Below w1.heap.size w1 w'))
    (CO : Hid (∀ w1, Below (w.alloc (.cells #[.int .i64 x0, .int .i64 x1] 24)).heap.size (w.alloc (.cells #[.int .i64 x0, .int .i64 x1] 24)) w1 → Calls Tryd.prog 17 #[.slice p n cap] w1 fun e w' => ∃ u, e = .returned (.tuple #[.agg #[.int .i64 y0, .int .i64 y1], u, .nilIface]) ∧ HpAt w' u R ∧ Below w1.heap.size w1 w'))
    (CTR : Hid (∀ w1 u v, HpAt w1 u R → HpAt w1 v R → Calls Tryd.prog 13 #[u, v] w1 fun e w' => e = .returned (.bool true) ∧ Below w1.heap.size w1 w')) :
    Calls Tryd.prog 3 #[.slice p n cap, .slice p' n' cap', .agg #[.int .i64 x0, .int .i64 x1]] w fun e w' => e = .returned (.bool true) ∧ Below w.heap.size w w' := by
  have ke : ∀ w, Sem.run Tryd.prog (Op.equalIn 10000 24 (.agg #[.int .i64 y0, .int .i64 y1]) (.agg #[.int .i64 y0, .int .i64 y1])) w = .ok true w := fun w => by have := equalIn_item y0 y1 y0 y1 w; simpa using this
  have kq : ∀ w, Sem.run Tryd.prog (binOp .eql 24 (.agg #[.int .i64 y0, .int .i64 y1]) (.agg #[.int .i64 y0, .int .i64 y1])) w = .ok (.bool true) w := fun w => by have := eql_item y0 y1 y0 y1 w; simpa using this
  have kg := guard_item
  go_enter Tryd.func3, Tryd.ntmps3
  have hb1 : Below (w.alloc (.cells #[.int .i64 x0, .int .i64 x1] 24)).heap.size (w.alloc (.cells #[.int .i64 x0, .int .i64 x1] 24)) (w.alloc (.cells #[.int .i64 x0, .int .i64 x1] 24)) := Below.refl _ _
  go_wp2_with fail
  refine (CRA.out (w.alloc (.cells #[.int .i64 x0, .int .i64 x1] 24)) hb1).mono ?_
  rintro e w2 ⟨rfl, hb'⟩
  have hb2 := hb1.trans (hb'.mono hb1.size)
  clear hb' hb1
  go_wp2_with fail
  refine (CK.out w2 hb2).mono ?_
  rintro e w3 ⟨rfl, hb'⟩
  have hb3 := hb2.trans (hb'.mono hb2.size)
  clear hb' hb2
  go_wp2_with fail
  refine (CE0.out w3 hb3).mono ?_
  rintro e w4 ⟨rfl, hb'⟩
  have hb4 := hb3.trans (hb'.mono hb3.size)
  clear hb' hb3
  go_wp2_with fail
  refine (CRB.out w4 hb4).mono ?_
  rintro e w5 ⟨rfl, hb'⟩
  have hb5 := hb4.trans (hb'.mono hb4.size)
  clear hb' hb4
  go_wp2_with fail
  refine (CSA.out w5 hb5).mono ?_
  rintro e w6 ⟨rfl, hb'⟩
  have hb6 := hb5.trans (hb'.mono hb5.size)
  clear hb' hb5
  go_wp2_with fail
  refine (CSB.out w6 hb6).mono ?_
  rintro e w7 ⟨rfl, hb'⟩
  have hb7 := hb6.trans (hb'.mono hb6.size)
  clear hb' hb6
  go_wp2_with fail
  refine (CM.out w7 hb7).mono ?_
  rintro e w8 ⟨rfl, hb'⟩
  have hb8 := hb7.trans (hb'.mono hb7.size)
  clear hb' hb7
  go_wp2_with fail
  refine (CE4.out w8 hb8).mono ?_
  rintro e w9 ⟨rfl, hb'⟩
  have hb9 := hb8.trans (hb'.mono hb8.size)
  clear hb' hb8
  go_wp2_with fail
  refine (CT0.out w9 hb9).mono ?_
  rintro e w10 ⟨rfl, hb'⟩
  have hb10 := hb9.trans (hb'.mono hb9.size)
  clear hb' hb9
  obtain ⟨b0, b1, hlt, _⟩ := lbox hb10
  have hbal : Below (w.alloc (.cells #[.int .i64 x0, .int .i64 x1] 24)).heap.size (w.alloc (.cells #[.int .i64 x0, .int .i64 x1] 24)) (w10.alloc (.cells #[.int .i64 x0, .int .i64 x1] 24)) := hb10.alloc hb10.size _
  have Hal : Hid (Sl (w10.alloc (.cells #[.int .i64 x0, .int .i64 x1] 24)) (.slice (some ⟨w10.heap.size, 0, none⟩) 1 1) #[(x0, x1)]) := one_sl w10 x0 x1
  go_wp2_with fail
  refine (CRX.out _ _ Hal.out).mono ?_
  rintro e w11 ⟨rfl, hb'⟩
  have hb11 := hbal.trans (hb'.mono hbal.size)
  clear hb' hbal Hal
  clear b0 b1 hlt
  clear hb10
  go_wp2_with fail
  refine (CSA.out w11 hb11).mono ?_
  rintro e w12 ⟨rfl, hb'⟩
  have hb12 := hb11.trans (hb'.mono hb11.size)
  clear hb' hb11
  obtain ⟨b0, b1, hlt, _⟩ := lbox hb12
  have hbal : Below (w.alloc (.cells #[.int .i64 x0, .int .i64 x1] 24)).heap.size (w.alloc (.cells #[.int .i64 x0, .int .i64 x1] 24)) ((w12.alloc (.cells #[.int .i64 x0, .int .i64 x1] 24)).alloc (.cells #[.int .i64 0, .slice (some ⟨w12.heap.size, 0, none⟩) 1 1] 37)) := hb12.trans ((alone2_below w12 x0 x1).mono hb12.size)
  have Hal : Hid (HpAt ((w12.alloc (.cells #[.int .i64 x0, .int .i64 x1] 24)).alloc (.cells #[.int .i64 0, .slice (some ⟨w12.heap.size, 0, none⟩) 1 1] 37)) (.slice (some ⟨w12.heap.size + 1, 0, none⟩) 1 1) (zH (aloneH (x0, x1)))) := alone2_at w12 x0 x1
  go_wp2_with fail
  refine (CRP.out _ _ hbal Hal.out).mono ?_
  rintro e w13 ⟨up, rfl, hsl, hb'⟩
  have hb13 := hbal.trans (hb'.mono hbal.size)
  have Hup13 : Hid (HpAt w13 up DP) := hsl
  clear hb' hbal Hal hsl
  clear b0 b1 hlt
  clear hb12
  obtain ⟨b0, b1, hlt, _⟩ := lbox hb13
  go_wp2_with fail
  refine (CP.out w13 hb13).mono ?_
  rintro e w14 ⟨vp, rfl, hsl, hb'⟩
  have hb14 := hb13.trans (hb'.mono hb13.size)
  have Hup14 : Hid (HpAt w14 (up) (DP)) := Hup13.out.below hb'
  clear Hup13
  have Hvp14 : Hid (HpAt w14 (vp) (DP)) := hsl
  clear hsl
  clear hb' hb13
  clear b0 b1 hlt
  go_wp2_with fail
  refine (CE0.out w14 hb14).mono ?_
  rintro e w15 ⟨rfl, hb'⟩
  have hb15 := hb14.trans (hb'.mono hb14.size)
  have Hup15 : Hid (HpAt w15 (up) (DP)) := Hup14.out.below hb'
  clear Hup14
  have Hvp15 : Hid (HpAt w15 (vp) (DP)) := Hvp14.out.below hb'
  clear Hvp14
  clear hb' hb14
  go_wp2_with fail
  refine (CTP.out w15 vp up Hvp15.out Hup15.out).mono ?_
  rintro e w16 ⟨rfl, hb'⟩
  have hb16 := hb15.trans (hb'.mono hb15.size)
  have Hup16 : Hid (HpAt w16 (up) (DP)) := Hup15.out.below hb'
  clear Hup15
  have Hvp16 : Hid (HpAt w16 (vp) (DP)) := Hvp15.out.below hb'
  clear Hvp15
  clear hb' hb15
  clear Hup16
  clear Hvp16
  have hba : Below (w.alloc (.cells #[.int .i64 x0, .int .i64 x1] 24)).heap.size (w.alloc (.cells #[.int .i64 x0, .int .i64 x1] 24)) (w16.alloc (.cells #[.int .i64 0, .int .i64 0] 24)) := hb16.alloc hb16.size _
  have hA0 : (w16.alloc (.cells #[.int .i64 0, .int .i64 0] 24)).cell? ⟨w16.heap.size, 0, none⟩ = some (.int .i64 0) := by simp
  have hA1 : (w16.alloc (.cells #[.int .i64 0, .int .i64 0] 24)).cell? ⟨w16.heap.size, 1, none⟩ = some (.int .i64 0) := by simp
  have hAl : w16.heap.size < (w16.alloc (.cells #[.int .i64 0, .int .i64 0] 24)).heap.size := by simp
  have hAf0 : (w16.alloc (.cells #[.int .i64 0, .int .i64 0] 24)).frozen? ⟨w16.heap.size, 0, none⟩ = false := by simp
  have hAf1 : (w16.alloc (.cells #[.int .i64 0, .int .i64 0] 24)).frozen? ⟨w16.heap.size, 1, none⟩ = false := by simp
  have hbF : (w.alloc (.cells #[.int .i64 x0, .int .i64 x1] 24)).heap.size ≤ w16.heap.size := hb16.size
  go_wp2_with fail
  refine (CRO.out _ hba).mono ?_
  rintro e wr ⟨u4, rfl, hsl, hb'⟩
  have hbr := hba.trans (hb'.mono hba.size)
  have hgs : wr.grownBy ((wr.setCell ⟨w16.heap.size, 0, none⟩ (.int .i64 y0)).setCell ⟨w16.heap.size, 1, none⟩ (.int .i64 y1)) (some w16.heap.size) := gb_set (World.grownBy.refl _ _) _ _ _ _
  have Hu5 : Hid (HpAt ((wr.setCell ⟨w16.heap.size, 0, none⟩ (.int .i64 y0)).setCell ⟨w16.heap.size, 1, none⟩ (.int .i64 y1)) u4 R) := hsl _ _ hbF hAl hgs
  have f0 := (hb'.cell (p := ⟨w16.heap.size, 0, none⟩) hAl).trans hA0
  have f1 := (hb'.cell (p := ⟨w16.heap.size, 1, none⟩) hAl).trans hA1
  have fz0 := (World.frozen?_of_block (a := ⟨w16.heap.size, 0, none⟩) (hb'.block w16.heap.size hAl)).trans hAf0
  have fz1 := (World.frozen?_of_block (a := ⟨w16.heap.size, 1, none⟩) (hb'.block w16.heap.size hAl)).trans hAf1
  have fl : w16.heap.size < wr.heap.size := Nat.lt_of_lt_of_le hAl hb'.size
  clear hb' hA0 hA1 hAl hba hAf0 hAf1 hsl
  have hbs : Below (w.alloc (.cells #[.int .i64 x0, .int .i64 x1] 24)).heap.size (w.alloc (.cells #[.int .i64 x0, .int .i64 x1] 24)) ((wr.setCell ⟨w16.heap.size, 0, none⟩ (.int .i64 y0)).setCell ⟨w16.heap.size, 1, none⟩ (.int .i64 y1)) := below_gb hbr hgs hbF hbr.size
  have s0 : ((wr.setCell ⟨w16.heap.size, 0, none⟩ (.int .i64 y0)).setCell ⟨w16.heap.size, 1, none⟩ (.int .i64 y1)).cell? ⟨w16.heap.size, 0, none⟩ = some (.int .i64 y0) := (World.cell?_setCell_other _ _ _ _ (by simp)).trans (World.cell?_setCell_same _ _ _ f0)
  have s1 : ((wr.setCell ⟨w16.heap.size, 0, none⟩ (.int .i64 y0)).setCell ⟨w16.heap.size, 1, none⟩ (.int .i64 y1)).cell? ⟨w16.heap.size, 1, none⟩ = some (.int .i64 y1) := World.cell?_setCell_same _ _ _ ((World.cell?_setCell_other _ _ _ _ (by simp)).trans f1)
  have sl : w16.heap.size < ((wr.setCell ⟨w16.heap.size, 0, none⟩ (.int .i64 y0)).setCell ⟨w16.heap.size, 1, none⟩ (.int .i64 y1)).heap.size := by rw [size_setCell, size_setCell]; exact fl
  clear hgs hbr
  go_wp2_with fail
  clear f0 f1 fz0 fz1 fl
  generalize ((wr.setCell ⟨w16.heap.size, 0, none⟩ (.int .i64 y0)).setCell ⟨w16.heap.size, 1, none⟩ (.int .i64 y1)) = ws at hbs Hu5 s0 s1 sl ⊢
  refine (CO.out _ hbs).mono ?_
  rintro e wp ⟨u6, rfl, hsl, hb'⟩
  have hbp := hbs.trans (hb'.mono hbs.size)
  have f0 := (hb'.cell (p := ⟨w16.heap.size, 0, none⟩) sl).trans s0
  have f1 := (hb'.cell (p := ⟨w16.heap.size, 1, none⟩) sl).trans s1
  have fl : w16.heap.size < wp.heap.size := Nat.lt_of_lt_of_le sl hb'.size
  have Hg6 : Hid (HpAt wp u6 R) := hsl
  have Hu6 : Hid (HpAt wp u4 R) := Hu5.out.below hb'
  clear hb' s0 s1 sl hbs Hu5 hsl
  have hby' : Below wp.heap.size wp (wp.alloc (.cells #[.int .i64 y0, .int .i64 y1] 24)) := (Below.refl _ _).alloc (Nat.le_refl _) _
  have hby : Below (w.alloc (.cells #[.int .i64 x0, .int .i64 x1] 24)).heap.size (w.alloc (.cells #[.int .i64 x0, .int .i64 x1] 24)) (wp.alloc (.cells #[.int .i64 y0, .int .i64 y1] 24)) := hbp.alloc hbp.size _
  have e0 := (hby'.cell (p := ⟨w16.heap.size, 0, none⟩) fl).trans f0
  have e1 := (hby'.cell (p := ⟨w16.heap.size, 1, none⟩) fl).trans f1
  have q0 : (wp.alloc (.cells #[.int .i64 y0, .int .i64 y1] 24)).cell? ⟨wp.heap.size, 0, none⟩ = some (.int .i64 y0) := by simp
  have q1 : (wp.alloc (.cells #[.int .i64 y0, .int .i64 y1] 24)).cell? ⟨wp.heap.size, 1, none⟩ = some (.int .i64 y1) := by simp
  have ql : wp.heap.size < (wp.alloc (.cells #[.int .i64 y0, .int .i64 y1] 24)).heap.size := by simp
  have Hg7 : Hid (HpAt (wp.alloc (.cells #[.int .i64 y0, .int .i64 y1] 24)) u6 R) := Hg6.out.below hby'
  have Hu7 : Hid (HpAt (wp.alloc (.cells #[.int .i64 y0, .int .i64 y1] 24)) u4 R) := Hu6.out.below hby'
  clear Hg6 Hu6
  clear f0 f1 hby'
  go_wp2_with fail
  refine (CE0.out _ hby).mono ?_
  rintro e we ⟨rfl, hb'⟩
  have hbe := hby.trans (hb'.mono hby.size)
  have z0 := (hb'.cell (p := ⟨w16.heap.size, 0, none⟩) (Nat.lt_trans fl ql)).trans e0
  have z1 := (hb'.cell (p := ⟨w16.heap.size, 1, none⟩) (Nat.lt_trans fl ql)).trans e1
  have v0 := (hb'.cell (p := ⟨wp.heap.size, 0, none⟩) ql).trans q0
  have v1 := (hb'.cell (p := ⟨wp.heap.size, 1, none⟩) ql).trans q1
  have Hg8 : Hid (HpAt we u6 R) := Hg7.out.below hb'
  have Hu8 : Hid (HpAt we u4 R) := Hu7.out.below hb'
  clear Hg7 Hu7
  clear hb' e0 e1 q0 q1 hby fl ql
  go_wp2_with fail
  refine (CTR.out we u6 u4 Hg8.out Hu8.out).mono ?_
  rintro e wf ⟨rfl, hb'⟩
  have hbf := hbe.trans (hb'.mono hbe.size)
  clear hb'
  go_wp2
  go_ret
  exact ⟨rfl, (lbox hbf).2.2.2⟩

end Go.Proofs.YtmkjalpgeljnkaaDoor
