/-
  The law HeapSays, walked: what is wrong with any list as a heap, any made one, any pushed, and any popped.
-/
import Derived.Test.YtcjfbenbdjlodaaDoorRefPs
import Derived.Test.YtcjfbenbdjlodaaDoorRefHc
import Derived.Test.YtcjfbenbdjlodaaDoorHeapO
import Derived.Test.YtcjfbenbdjlodaaDoorHeapF
import Derived.Test.YtcjfbenbdjlodaaDoorSame
import Derived.Test.YtcjfbenbdjlodaaDoorTold
namespace Go.Proofs.YtcjfbenbdjlodaaDoor
open Go.RowKit Go.Sort Go.Proofs

set_option maxHeartbeats 16000000 in
set_option maxRecDepth 4000 in
theorem heapSays_1 (p : Option Addr) (n cap k : Nat) (x0 x1 : Int) (w : World) (_hbig : n ≤ 9223372036854775807) (hk : ((k : Int) == 0) = false)
    (CRI : Hid (∀ w1, Below (w.alloc (.cells #[.int .i64 x0, .int .i64 x1] 24)).heap.size (w.alloc (.cells #[.int .i64 x0, .int .i64 x1] 24)) w1 → Calls Tryd.prog 5 #[.slice p n cap] w1 fun e w' => e = .returned (.int .i64 k) ∧ Below w1.heap.size w1 w'))
    (CMB : Hid (∀ w1, Below (w.alloc (.cells #[.int .i64 x0, .int .i64 x1] 24)).heap.size (w.alloc (.cells #[.int .i64 x0, .int .i64 x1] 24)) w1 → Calls Tryd.prog 7 #[.slice p n cap] w1 fun e w' => e = .returned (.tuple #[.slice none 0 0, .iface 44 (.int .i64 k)]) ∧ Below w1.heap.size w1 w'))
    (CEk : Hid (∀ w1, Below (w.alloc (.cells #[.int .i64 x0, .int .i64 x1] 24)).heap.size (w.alloc (.cells #[.int .i64 x0, .int .i64 x1] 24)) w1 → Calls Tryd.prog 8 #[.iface 44 (.int .i64 k), .int .i64 k] w1 fun e w' => e = .returned (.bool true) ∧ Below w1.heap.size w1 w'))
    (CI0 : Hid (∀ w1, Below (w.alloc (.cells #[.int .i64 x0, .int .i64 x1] 24)).heap.size (w.alloc (.cells #[.int .i64 x0, .int .i64 x1] 24)) w1 → Calls Tryd.prog 9 #[.slice none 0 0, .slice none 0 0] w1 fun e w' => e = .returned (.bool true) ∧ Below w1.heap.size w1 w'))
    (CRH : Hid (∀ w1, Below (w.alloc (.cells #[.int .i64 x0, .int .i64 x1] 24)).heap.size (w.alloc (.cells #[.int .i64 x0, .int .i64 x1] 24)) w1 → Calls Tryd.prog 10 #[.slice p n cap] w1 fun e w' => e = .returned (.int .i64 k) ∧ Below w1.heap.size w1 w'))
    (CK : Hid (∀ w1, Below (w.alloc (.cells #[.int .i64 x0, .int .i64 x1] 24)).heap.size (w.alloc (.cells #[.int .i64 x0, .int .i64 x1] 24)) w1 → Calls Tryd.prog 11 #[.slice p n cap] w1 fun e w' => e = .returned (.iface 44 (.int .i64 k)) ∧ Below w1.heap.size w1 w'))
    (CPB : Hid (∀ w1, Below (w.alloc (.cells #[.int .i64 x0, .int .i64 x1] 24)).heap.size (w.alloc (.cells #[.int .i64 x0, .int .i64 x1] 24)) w1 → Calls Tryd.prog 13 #[.slice p n cap, .agg #[.int .i64 x0, .int .i64 x1]] w1 fun e w' => e = .returned (.tuple #[.slice none 0 0, .iface 44 (.int .i64 k)]) ∧ Below w1.heap.size w1 w'))
    (COB : Hid (∀ w1, Below (w.alloc (.cells #[.int .i64 x0, .int .i64 x1] 24)).heap.size (w.alloc (.cells #[.int .i64 x0, .int .i64 x1] 24)) w1 → Calls Tryd.prog 15 #[.slice p n cap] w1 fun e w' => e = .returned (.tuple #[.agg #[.int .i64 0, .int .i64 0], .slice none 0 0, .iface 44 (.int .i64 k)]) ∧ Below w1.heap.size w1 w')) :
    Calls Tryd.prog 3 #[.slice p n cap, .agg #[.int .i64 x0, .int .i64 x1]] w fun e w' => e = .returned (.bool true) ∧ Below w.heap.size w w' := by
  have ke : ∀ w, Sem.run Tryd.prog (Op.equalIn 10000 24 (.agg #[.int .i64 0, .int .i64 0]) (.agg #[.int .i64 0, .int .i64 0])) w = .ok true w := fun w => by have := equalIn_item 0 0 0 0 w; simpa using this
  have kq : ∀ w, Sem.run Tryd.prog (binOp .eql 24 (.agg #[.int .i64 0, .int .i64 0]) (.agg #[.int .i64 0, .int .i64 0])) w = .ok (.bool true) w := fun w => by have := eql_item 0 0 0 0 w; simpa using this
  have kg := guard_item
  go_enter Tryd.func3, Tryd.ntmps3
  have hb1 : Below (w.alloc (.cells #[.int .i64 x0, .int .i64 x1] 24)).heap.size (w.alloc (.cells #[.int .i64 x0, .int .i64 x1] 24)) (w.alloc (.cells #[.int .i64 x0, .int .i64 x1] 24)) := Below.refl _ _
  go_wp2_with fail
  refine (CRI.out (w.alloc (.cells #[.int .i64 x0, .int .i64 x1] 24)) hb1).mono ?_
  rintro e w2 ⟨rfl, hb'⟩
  have hb2 := hb1.trans (hb'.mono hb1.size)
  clear hb'
  go_wp2_with fail
  refine (CMB.out w2 hb2).mono ?_
  rintro e w3 ⟨rfl, hb'⟩
  have hb3 := hb2.trans (hb'.mono hb2.size)
  clear hb'
  go_wp2_with fail
  refine (CEk.out w3 hb3).mono ?_
  rintro e w4 ⟨rfl, hb'⟩
  have hb4 := hb3.trans (hb'.mono hb3.size)
  clear hb'
  go_wp2_with fail
  refine (CI0.out w4 hb4).mono ?_
  rintro e w5 ⟨rfl, hb'⟩
  have hb5 := hb4.trans (hb'.mono hb4.size)
  clear hb'
  go_wp2_with fail
  refine (CRH.out w5 hb5).mono ?_
  rintro e w6 ⟨rfl, hb'⟩
  have hb6 := hb5.trans (hb'.mono hb5.size)
  clear hb'
  go_wp2_with fail
  refine (CK.out w6 hb6).mono ?_
  rintro e w7 ⟨rfl, hb'⟩
  have hb7 := hb6.trans (hb'.mono hb6.size)
  clear hb'
  go_wp2_with fail
  refine (CEk.out w7 hb7).mono ?_
  rintro e w8 ⟨rfl, hb'⟩
  have hb8 := hb7.trans (hb'.mono hb7.size)
  clear hb'
  obtain ⟨b0, b1, hlt, hbw⟩ := box_cells hb8
  go_wp2_with fail
  refine (CPB.out w8 hb8).mono ?_
  rintro e w9 ⟨rfl, hb'⟩
  have hb9 := hb8.trans (hb'.mono hb8.size)
  clear hb'
  clear b0 b1 hlt hbw
  go_wp2_with fail
  refine (CEk.out w9 hb9).mono ?_
  rintro e w10 ⟨rfl, hb'⟩
  have hb10 := hb9.trans (hb'.mono hb9.size)
  clear hb'
  go_wp2_with fail
  refine (CI0.out w10 hb10).mono ?_
  rintro e w11 ⟨rfl, hb'⟩
  have hb11 := hb10.trans (hb'.mono hb10.size)
  clear hb'
  have hba : Below (w.alloc (.cells #[.int .i64 x0, .int .i64 x1] 24)).heap.size (w.alloc (.cells #[.int .i64 x0, .int .i64 x1] 24)) (w11.alloc (.cells #[.int .i64 0, .int .i64 0] 24)) := hb11.alloc hb11.size _
  have hA0 : (w11.alloc (.cells #[.int .i64 0, .int .i64 0] 24)).cell? ⟨w11.heap.size, 0, none⟩ = some (.int .i64 0) := by simp
  have hA1 : (w11.alloc (.cells #[.int .i64 0, .int .i64 0] 24)).cell? ⟨w11.heap.size, 1, none⟩ = some (.int .i64 0) := by simp
  have hAl : w11.heap.size < (w11.alloc (.cells #[.int .i64 0, .int .i64 0] 24)).heap.size := by simp
  go_wp2_with fail
  refine (COB.out _ hba).mono ?_
  rintro e wp ⟨rfl, hb'⟩
  have hbp := hba.trans (hb'.mono hba.size)
  have f0 := (hb'.cell (p := ⟨w11.heap.size, 0, none⟩) hAl).trans hA0
  have f1 := (hb'.cell (p := ⟨w11.heap.size, 1, none⟩) hAl).trans hA1
  have fl : w11.heap.size < wp.heap.size := Nat.lt_of_lt_of_le hAl hb'.size
  clear hb' hA0 hA1 hAl hba
  have hby' : Below wp.heap.size wp (wp.alloc (.cells #[.int .i64 0, .int .i64 0] 24)) := (Below.refl _ _).alloc (Nat.le_refl _) _
  have hby : Below (w.alloc (.cells #[.int .i64 x0, .int .i64 x1] 24)).heap.size (w.alloc (.cells #[.int .i64 x0, .int .i64 x1] 24)) (wp.alloc (.cells #[.int .i64 0, .int .i64 0] 24)) := hbp.alloc hbp.size _
  have e0 := (hby'.cell (p := ⟨w11.heap.size, 0, none⟩) fl).trans f0
  have e1 := (hby'.cell (p := ⟨w11.heap.size, 1, none⟩) fl).trans f1
  have q0 : (wp.alloc (.cells #[.int .i64 0, .int .i64 0] 24)).cell? ⟨wp.heap.size, 0, none⟩ = some (.int .i64 0) := by simp
  have q1 : (wp.alloc (.cells #[.int .i64 0, .int .i64 0] 24)).cell? ⟨wp.heap.size, 1, none⟩ = some (.int .i64 0) := by simp
  have ql : wp.heap.size < (wp.alloc (.cells #[.int .i64 0, .int .i64 0] 24)).heap.size := by simp
  clear f0 f1 hby'
  go_wp2_with fail
  refine (CEk.out _ hby).mono ?_
  rintro e we ⟨rfl, hb'⟩
  have hbe := hby.trans (hb'.mono hby.size)
  have z0 := (hb'.cell (p := ⟨w11.heap.size, 0, none⟩) (Nat.lt_trans fl ql)).trans e0
  have z1 := (hb'.cell (p := ⟨w11.heap.size, 1, none⟩) (Nat.lt_trans fl ql)).trans e1
  have v0 := (hb'.cell (p := ⟨wp.heap.size, 0, none⟩) ql).trans q0
  have v1 := (hb'.cell (p := ⟨wp.heap.size, 1, none⟩) ql).trans q1
  clear hb' e0 e1 q0 q1 hby fl ql
  go_wp2_with fail
  refine (CI0.out we hbe).mono ?_
  rintro e wf ⟨rfl, hb'⟩
  have hbf := hbe.trans (hb'.mono hbe.size)
  clear hb'
  go_wp2
  go_ret
  exact ⟨rfl, (box_cells hbf).2.2.2⟩

set_option maxHeartbeats 16000000 in
set_option maxRecDepth 4000 in
theorem heapSays_2 (p : Option Addr) (n cap h : Nat) (x0 x1 : Int) (D : Array (Int × Int)) (w : World) (_hbig : n ≤ 9223372036854775807) (hh : ((h : Int) == 0) = false)
    (CRI : Hid (∀ w1, Below (w.alloc (.cells #[.int .i64 x0, .int .i64 x1] 24)).heap.size (w.alloc (.cells #[.int .i64 x0, .int .i64 x1] 24)) w1 → Calls Tryd.prog 5 #[.slice p n cap] w1 fun e w' => e = .returned (.int .i64 0) ∧ Below w1.heap.size w1 w'))
    (CRM : Hid (∀ w1, Below (w.alloc (.cells #[.int .i64 x0, .int .i64 x1] 24)).heap.size (w.alloc (.cells #[.int .i64 x0, .int .i64 x1] 24)) w1 → Calls Tryd.prog 6 #[.slice p n cap] w1 fun e w' => ∃ u, e = .returned u ∧ Sl w' u D ∧ Below w1.heap.size w1 w'))
    (CMG : Hid (∀ w1, Below (w.alloc (.cells #[.int .i64 x0, .int .i64 x1] 24)).heap.size (w.alloc (.cells #[.int .i64 x0, .int .i64 x1] 24)) w1 → Calls Tryd.prog 7 #[.slice p n cap] w1 fun e w' => ∃ g, e = .returned (.tuple #[.slice (some ⟨g, 0, none⟩) n n, .nilIface]) ∧ RdAt w' g 0 D ∧ Below w1.heap.size w1 w'))
    (CE0 : Hid (∀ w1, Below (w.alloc (.cells #[.int .i64 x0, .int .i64 x1] 24)).heap.size (w.alloc (.cells #[.int .i64 x0, .int .i64 x1] 24)) w1 → Calls Tryd.prog 8 #[.nilIface, .int .i64 0] w1 fun e w' => e = .returned (.bool true) ∧ Below w1.heap.size w1 w'))
    (CID : Hid (∀ w1 g u, RdAt w1 g 0 D → Sl w1 u D → Calls Tryd.prog 9 #[.slice (some ⟨g, 0, none⟩) n n, u] w1 fun e w' => e = .returned (.bool true) ∧ Below w1.heap.size w1 w'))
    (CRH : Hid (∀ w1, Below (w.alloc (.cells #[.int .i64 x0, .int .i64 x1] 24)).heap.size (w.alloc (.cells #[.int .i64 x0, .int .i64 x1] 24)) w1 → Calls Tryd.prog 10 #[.slice p n cap] w1 fun e w' => e = .returned (.int .i64 h) ∧ Below w1.heap.size w1 w'))
    (CK : Hid (∀ w1, Below (w.alloc (.cells #[.int .i64 x0, .int .i64 x1] 24)).heap.size (w.alloc (.cells #[.int .i64 x0, .int .i64 x1] 24)) w1 → Calls Tryd.prog 11 #[.slice p n cap] w1 fun e w' => e = .returned (.iface 44 (.int .i64 h)) ∧ Below w1.heap.size w1 w'))
    (CEh : Hid (∀ w1, Below (w.alloc (.cells #[.int .i64 x0, .int .i64 x1] 24)).heap.size (w.alloc (.cells #[.int .i64 x0, .int .i64 x1] 24)) w1 → Calls Tryd.prog 8 #[.iface 44 (.int .i64 h), .int .i64 h] w1 fun e w' => e = .returned (.bool true) ∧ Below w1.heap.size w1 w'))
    (CI0 : Hid (∀ w1, Below (w.alloc (.cells #[.int .i64 x0, .int .i64 x1] 24)).heap.size (w.alloc (.cells #[.int .i64 x0, .int .i64 x1] 24)) w1 → Calls Tryd.prog 9 #[.slice none 0 0, .slice none 0 0] w1 fun e w' => e = .returned (.bool true) ∧ Below w1.heap.size w1 w'))
    (CPB : Hid (∀ w1, Below (w.alloc (.cells #[.int .i64 x0, .int .i64 x1] 24)).heap.size (w.alloc (.cells #[.int .i64 x0, .int .i64 x1] 24)) w1 → Calls Tryd.prog 13 #[.slice p n cap, .agg #[.int .i64 x0, .int .i64 x1]] w1 fun e w' => e = .returned (.tuple #[.slice none 0 0, .iface 44 (.int .i64 h)]) ∧ Below w1.heap.size w1 w'))
    (COB : Hid (∀ w1, Below (w.alloc (.cells #[.int .i64 x0, .int .i64 x1] 24)).heap.size (w.alloc (.cells #[.int .i64 x0, .int .i64 x1] 24)) w1 → Calls Tryd.prog 15 #[.slice p n cap] w1 fun e w' => e = .returned (.tuple #[.agg #[.int .i64 0, .int .i64 0], .slice none 0 0, .iface 44 (.int .i64 h)]) ∧ Below w1.heap.size w1 w')) :
    Calls Tryd.prog 3 #[.slice p n cap, .agg #[.int .i64 x0, .int .i64 x1]] w fun e w' => e = .returned (.bool true) ∧ Below w.heap.size w w' := by
  have ke : ∀ w, Sem.run Tryd.prog (Op.equalIn 10000 24 (.agg #[.int .i64 0, .int .i64 0]) (.agg #[.int .i64 0, .int .i64 0])) w = .ok true w := fun w => by have := equalIn_item 0 0 0 0 w; simpa using this
  have kq : ∀ w, Sem.run Tryd.prog (binOp .eql 24 (.agg #[.int .i64 0, .int .i64 0]) (.agg #[.int .i64 0, .int .i64 0])) w = .ok (.bool true) w := fun w => by have := eql_item 0 0 0 0 w; simpa using this
  have kg := guard_item
  go_enter Tryd.func3, Tryd.ntmps3
  have hb1 : Below (w.alloc (.cells #[.int .i64 x0, .int .i64 x1] 24)).heap.size (w.alloc (.cells #[.int .i64 x0, .int .i64 x1] 24)) (w.alloc (.cells #[.int .i64 x0, .int .i64 x1] 24)) := Below.refl _ _
  go_wp2_with fail
  refine (CRI.out (w.alloc (.cells #[.int .i64 x0, .int .i64 x1] 24)) hb1).mono ?_
  rintro e w2 ⟨rfl, hb'⟩
  have hb2 := hb1.trans (hb'.mono hb1.size)
  clear hb'
  go_wp2_with fail
  refine (CRM.out w2 hb2).mono ?_
  rintro e w3 ⟨u, rfl, hsl, hb'⟩
  have hb3 := hb2.trans (hb'.mono hb2.size)
  have Hu3 : Hid (Sl w3 u D) := hsl
  clear hsl
  clear hb'
  go_wp2_with fail
  refine (CMG.out w3 hb3).mono ?_
  rintro e w4 ⟨g, rfl, hrd, hb'⟩
  have hb4 := hb3.trans (hb'.mono hb3.size)
  have Hu4 : Hid (Sl w4 u D) := Hu3.out.below hb'
  have Hg4 : Hid (RdAt w4 g 0 D) := hrd
  clear hrd
  clear hb'
  go_wp2_with fail
  refine (CE0.out w4 hb4).mono ?_
  rintro e w5 ⟨rfl, hb'⟩
  have hb5 := hb4.trans (hb'.mono hb4.size)
  have Hg5 : Hid (RdAt w5 g 0 D) := Hg4.out.below hb' Hg4.out.1
  have Hu5 : Hid (Sl w5 u D) := Hu4.out.below hb'
  clear hb'
  go_wp2_with fail
  refine (CID.out w5 g u Hg5.out Hu5.out).mono ?_
  rintro e w6 ⟨rfl, hb'⟩
  have hb6 := hb5.trans (hb'.mono hb5.size)
  have Hg6 : Hid (RdAt w6 g 0 D) := Hg5.out.below hb' Hg5.out.1
  have Hu6 : Hid (Sl w6 u D) := Hu5.out.below hb'
  clear hb'
  go_wp2_with fail
  refine (CRH.out w6 hb6).mono ?_
  rintro e w7 ⟨rfl, hb'⟩
  have hb7 := hb6.trans (hb'.mono hb6.size)
  clear hb'
  go_wp2_with fail
  refine (CK.out w7 hb7).mono ?_
  rintro e w8 ⟨rfl, hb'⟩
  have hb8 := hb7.trans (hb'.mono hb7.size)
  clear hb'
  go_wp2_with fail
  refine (CEh.out w8 hb8).mono ?_
  rintro e w9 ⟨rfl, hb'⟩
  have hb9 := hb8.trans (hb'.mono hb8.size)
  clear hb'
  obtain ⟨b0, b1, hlt, hbw⟩ := box_cells hb9
  go_wp2_with fail
  refine (CPB.out w9 hb9).mono ?_
  rintro e w10 ⟨rfl, hb'⟩
  have hb10 := hb9.trans (hb'.mono hb9.size)
  clear hb'
  clear b0 b1 hlt hbw
  go_wp2_with fail
  refine (CEh.out w10 hb10).mono ?_
  rintro e w11 ⟨rfl, hb'⟩
  have hb11 := hb10.trans (hb'.mono hb10.size)
  clear hb'
  go_wp2_with fail
  refine (CI0.out w11 hb11).mono ?_
  rintro e w12 ⟨rfl, hb'⟩
  have hb12 := hb11.trans (hb'.mono hb11.size)
  clear hb'
  have hba : Below (w.alloc (.cells #[.int .i64 x0, .int .i64 x1] 24)).heap.size (w.alloc (.cells #[.int .i64 x0, .int .i64 x1] 24)) (w12.alloc (.cells #[.int .i64 0, .int .i64 0] 24)) := hb12.alloc hb12.size _
  have hA0 : (w12.alloc (.cells #[.int .i64 0, .int .i64 0] 24)).cell? ⟨w12.heap.size, 0, none⟩ = some (.int .i64 0) := by simp
  have hA1 : (w12.alloc (.cells #[.int .i64 0, .int .i64 0] 24)).cell? ⟨w12.heap.size, 1, none⟩ = some (.int .i64 0) := by simp
  have hAl : w12.heap.size < (w12.alloc (.cells #[.int .i64 0, .int .i64 0] 24)).heap.size := by simp
  go_wp2_with fail
  refine (COB.out _ hba).mono ?_
  rintro e wp ⟨rfl, hb'⟩
  have hbp := hba.trans (hb'.mono hba.size)
  have f0 := (hb'.cell (p := ⟨w12.heap.size, 0, none⟩) hAl).trans hA0
  have f1 := (hb'.cell (p := ⟨w12.heap.size, 1, none⟩) hAl).trans hA1
  have fl : w12.heap.size < wp.heap.size := Nat.lt_of_lt_of_le hAl hb'.size
  clear hb' hA0 hA1 hAl hba
  have hby' : Below wp.heap.size wp (wp.alloc (.cells #[.int .i64 0, .int .i64 0] 24)) := (Below.refl _ _).alloc (Nat.le_refl _) _
  have hby : Below (w.alloc (.cells #[.int .i64 x0, .int .i64 x1] 24)).heap.size (w.alloc (.cells #[.int .i64 x0, .int .i64 x1] 24)) (wp.alloc (.cells #[.int .i64 0, .int .i64 0] 24)) := hbp.alloc hbp.size _
  have e0 := (hby'.cell (p := ⟨w12.heap.size, 0, none⟩) fl).trans f0
  have e1 := (hby'.cell (p := ⟨w12.heap.size, 1, none⟩) fl).trans f1
  have q0 : (wp.alloc (.cells #[.int .i64 0, .int .i64 0] 24)).cell? ⟨wp.heap.size, 0, none⟩ = some (.int .i64 0) := by simp
  have q1 : (wp.alloc (.cells #[.int .i64 0, .int .i64 0] 24)).cell? ⟨wp.heap.size, 1, none⟩ = some (.int .i64 0) := by simp
  have ql : wp.heap.size < (wp.alloc (.cells #[.int .i64 0, .int .i64 0] 24)).heap.size := by simp
  clear f0 f1 hby'
  go_wp2_with fail
  refine (CEh.out _ hby).mono ?_
  rintro e we ⟨rfl, hb'⟩
  have hbe := hby.trans (hb'.mono hby.size)
  have z0 := (hb'.cell (p := ⟨w12.heap.size, 0, none⟩) (Nat.lt_trans fl ql)).trans e0
  have z1 := (hb'.cell (p := ⟨w12.heap.size, 1, none⟩) (Nat.lt_trans fl ql)).trans e1
  have v0 := (hb'.cell (p := ⟨wp.heap.size, 0, none⟩) ql).trans q0
  have v1 := (hb'.cell (p := ⟨wp.heap.size, 1, none⟩) ql).trans q1
  clear hb' e0 e1 q0 q1 hby fl ql
  go_wp2_with fail
  refine (CI0.out we hbe).mono ?_
  rintro e wf ⟨rfl, hb'⟩
  have hbf := hbe.trans (hb'.mono hbe.size)
  clear hb'
  go_wp2
  go_ret
  exact ⟨rfl, (box_cells hbf).2.2.2⟩

set_option maxHeartbeats 16000000 in
set_option maxRecDepth 4000 in
theorem heapSays_3 (p : Option Addr) (cap c : Nat) (x0 x1 : Int) (D : Array (Int × Int)) (w : World) (hc : ((c : Int) == 0) = false)
    (CRI : Hid (∀ w1, Below (w.alloc (.cells #[.int .i64 x0, .int .i64 x1] 24)).heap.size (w.alloc (.cells #[.int .i64 x0, .int .i64 x1] 24)) w1 → Calls Tryd.prog 5 #[.slice p 0 cap] w1 fun e w' => e = .returned (.int .i64 0) ∧ Below w1.heap.size w1 w'))
    (CRM : Hid (∀ w1, Below (w.alloc (.cells #[.int .i64 x0, .int .i64 x1] 24)).heap.size (w.alloc (.cells #[.int .i64 x0, .int .i64 x1] 24)) w1 → Calls Tryd.prog 6 #[.slice p 0 cap] w1 fun e w' => ∃ u, e = .returned u ∧ Sl w' u D ∧ Below w1.heap.size w1 w'))
    (CMG : Hid (∀ w1, Below (w.alloc (.cells #[.int .i64 x0, .int .i64 x1] 24)).heap.size (w.alloc (.cells #[.int .i64 x0, .int .i64 x1] 24)) w1 → Calls Tryd.prog 7 #[.slice p 0 cap] w1 fun e w' => ∃ g, e = .returned (.tuple #[.slice (some ⟨g, 0, none⟩) 0 0, .nilIface]) ∧ RdAt w' g 0 D ∧ Below w1.heap.size w1 w'))
    (CE0 : Hid (∀ w1, Below (w.alloc (.cells #[.int .i64 x0, .int .i64 x1] 24)).heap.size (w.alloc (.cells #[.int .i64 x0, .int .i64 x1] 24)) w1 → Calls Tryd.prog 8 #[.nilIface, .int .i64 0] w1 fun e w' => e = .returned (.bool true) ∧ Below w1.heap.size w1 w'))
    (CID : Hid (∀ w1 g u, RdAt w1 g 0 D → Sl w1 u D → Calls Tryd.prog 9 #[.slice (some ⟨g, 0, none⟩) 0 0, u] w1 fun e w' => e = .returned (.bool true) ∧ Below w1.heap.size w1 w'))
    (CRH : Hid (∀ w1, Below (w.alloc (.cells #[.int .i64 x0, .int .i64 x1] 24)).heap.size (w.alloc (.cells #[.int .i64 x0, .int .i64 x1] 24)) w1 → Calls Tryd.prog 10 #[.slice p 0 cap] w1 fun e w' => e = .returned (.int .i64 0) ∧ Below w1.heap.size w1 w'))
    (CK : Hid (∀ w1, Below (w.alloc (.cells #[.int .i64 x0, .int .i64 x1] 24)).heap.size (w.alloc (.cells #[.int .i64 x0, .int .i64 x1] 24)) w1 → Calls Tryd.prog 11 #[.slice p 0 cap] w1 fun e w' => e = .returned (.nilIface) ∧ Below w1.heap.size w1 w'))
    (CRX : Hid (∀ w1 : World, Calls Tryd.prog 5 #[.slice (some ⟨w1.heap.size, 0, none⟩) 1 1] (w1.alloc (.cells #[.int .i64 x0, .int .i64 x1] 24)) fun e w' => e = .returned (.int .i64 c) ∧ Below w1.heap.size w1 w'))
    (CPB : Hid (∀ w1, Below (w.alloc (.cells #[.int .i64 x0, .int .i64 x1] 24)).heap.size (w.alloc (.cells #[.int .i64 x0, .int .i64 x1] 24)) w1 → Calls Tryd.prog 13 #[.slice p 0 cap, .agg #[.int .i64 x0, .int .i64 x1]] w1 fun e w' => e = .returned (.tuple #[.slice none 0 0, .iface 44 (.int .i64 c)]) ∧ Below w1.heap.size w1 w'))
    (CEc : Hid (∀ w1, Below (w.alloc (.cells #[.int .i64 x0, .int .i64 x1] 24)).heap.size (w.alloc (.cells #[.int .i64 x0, .int .i64 x1] 24)) w1 → Calls Tryd.prog 8 #[.iface 44 (.int .i64 c), .int .i64 c] w1 fun e w' => e = .returned (.bool true) ∧ Below w1.heap.size w1 w'))
    (CI0 : Hid (∀ w1, Below (w.alloc (.cells #[.int .i64 x0, .int .i64 x1] 24)).heap.size (w.alloc (.cells #[.int .i64 x0, .int .i64 x1] 24)) w1 → Calls Tryd.prog 9 #[.slice none 0 0, .slice none 0 0] w1 fun e w' => e = .returned (.bool true) ∧ Below w1.heap.size w1 w'))
    (COB : Hid (∀ w1, Below (w.alloc (.cells #[.int .i64 x0, .int .i64 x1] 24)).heap.size (w.alloc (.cells #[.int .i64 x0, .int .i64 x1] 24)) w1 → Calls Tryd.prog 15 #[.slice p 0 cap] w1 fun e w' => e = .returned (.tuple #[.agg #[.int .i64 0, .int .i64 0], .slice none 0 0, .iface 44 (.int .i64 5)]) ∧ Below w1.heap.size w1 w'))
    (CE5 : Hid (∀ w1, Below (w.alloc (.cells #[.int .i64 x0, .int .i64 x1] 24)).heap.size (w.alloc (.cells #[.int .i64 x0, .int .i64 x1] 24)) w1 → Calls Tryd.prog 8 #[.iface 44 (.int .i64 5), .int .i64 5] w1 fun e w' => e = .returned (.bool true) ∧ Below w1.heap.size w1 w')) :
    Calls Tryd.prog 3 #[.slice p 0 cap, .agg #[.int .i64 x0, .int .i64 x1]] w fun e w' => e = .returned (.bool true) ∧ Below w.heap.size w w' := by
  have ke : ∀ w, Sem.run Tryd.prog (Op.equalIn 10000 24 (.agg #[.int .i64 0, .int .i64 0]) (.agg #[.int .i64 0, .int .i64 0])) w = .ok true w := fun w => by have := equalIn_item 0 0 0 0 w; simpa using this
  have kq : ∀ w, Sem.run Tryd.prog (binOp .eql 24 (.agg #[.int .i64 0, .int .i64 0]) (.agg #[.int .i64 0, .int .i64 0])) w = .ok (.bool true) w := fun w => by have := eql_item 0 0 0 0 w; simpa using this
  have kg := guard_item
  go_enter Tryd.func3, Tryd.ntmps3
  have hb1 : Below (w.alloc (.cells #[.int .i64 x0, .int .i64 x1] 24)).heap.size (w.alloc (.cells #[.int .i64 x0, .int .i64 x1] 24)) (w.alloc (.cells #[.int .i64 x0, .int .i64 x1] 24)) := Below.refl _ _
  go_wp2_with fail
  refine (CRI.out (w.alloc (.cells #[.int .i64 x0, .int .i64 x1] 24)) hb1).mono ?_
  rintro e w2 ⟨rfl, hb'⟩
  have hb2 := hb1.trans (hb'.mono hb1.size)
  clear hb'
  go_wp2_with fail
  refine (CRM.out w2 hb2).mono ?_
  rintro e w3 ⟨u, rfl, hsl, hb'⟩
  have hb3 := hb2.trans (hb'.mono hb2.size)
  have Hu3 : Hid (Sl w3 u D) := hsl
  clear hsl
  clear hb'
  go_wp2_with fail
  refine (CMG.out w3 hb3).mono ?_
  rintro e w4 ⟨g, rfl, hrd, hb'⟩
  have hb4 := hb3.trans (hb'.mono hb3.size)
  have Hu4 : Hid (Sl w4 u D) := Hu3.out.below hb'
  have Hg4 : Hid (RdAt w4 g 0 D) := hrd
  clear hrd
  clear hb'
  go_wp2_with fail
  refine (CE0.out w4 hb4).mono ?_
  rintro e w5 ⟨rfl, hb'⟩
  have hb5 := hb4.trans (hb'.mono hb4.size)
  have Hg5 : Hid (RdAt w5 g 0 D) := Hg4.out.below hb' Hg4.out.1
  have Hu5 : Hid (Sl w5 u D) := Hu4.out.below hb'
  clear hb'
  go_wp2_with fail
  refine (CID.out w5 g u Hg5.out Hu5.out).mono ?_
  rintro e w6 ⟨rfl, hb'⟩
  have hb6 := hb5.trans (hb'.mono hb5.size)
  have Hg6 : Hid (RdAt w6 g 0 D) := Hg5.out.below hb' Hg5.out.1
  have Hu6 : Hid (Sl w6 u D) := Hu5.out.below hb'
  clear hb'
  go_wp2_with fail
  refine (CRH.out w6 hb6).mono ?_
  rintro e w7 ⟨rfl, hb'⟩
  have hb7 := hb6.trans (hb'.mono hb6.size)
  clear hb'
  go_wp2_with fail
  refine (CK.out w7 hb7).mono ?_
  rintro e w8 ⟨rfl, hb'⟩
  have hb8 := hb7.trans (hb'.mono hb7.size)
  clear hb'
  go_wp2_with fail
  refine (CE0.out w8 hb8).mono ?_
  rintro e w9 ⟨rfl, hb'⟩
  have hb9 := hb8.trans (hb'.mono hb8.size)
  clear hb'
  obtain ⟨b0, b1, hlt, hbw⟩ := box_cells hb9
  go_wp2_with fail
  refine (CRX.out w9).mono ?_
  rintro e w10 ⟨rfl, hb'⟩
  have hb10 := hb9.trans (hb'.mono hb9.size)
  clear hb'
  clear b0 b1 hlt hbw
  obtain ⟨b0, b1, hlt, hbw⟩ := box_cells hb10
  go_wp2_with fail
  refine (CPB.out w10 hb10).mono ?_
  rintro e w11 ⟨rfl, hb'⟩
  have hb11 := hb10.trans (hb'.mono hb10.size)
  clear hb'
  clear b0 b1 hlt hbw
  go_wp2_with fail
  refine (CEc.out w11 hb11).mono ?_
  rintro e w12 ⟨rfl, hb'⟩
  have hb12 := hb11.trans (hb'.mono hb11.size)
  clear hb'
  go_wp2_with fail
  refine (CI0.out w12 hb12).mono ?_
  rintro e w13 ⟨rfl, hb'⟩
  have hb13 := hb12.trans (hb'.mono hb12.size)
  clear hb'
  have hba : Below (w.alloc (.cells #[.int .i64 x0, .int .i64 x1] 24)).heap.size (w.alloc (.cells #[.int .i64 x0, .int .i64 x1] 24)) (w13.alloc (.cells #[.int .i64 0, .int .i64 0] 24)) := hb13.alloc hb13.size _
  have hA0 : (w13.alloc (.cells #[.int .i64 0, .int .i64 0] 24)).cell? ⟨w13.heap.size, 0, none⟩ = some (.int .i64 0) := by simp
  have hA1 : (w13.alloc (.cells #[.int .i64 0, .int .i64 0] 24)).cell? ⟨w13.heap.size, 1, none⟩ = some (.int .i64 0) := by simp
  have hAl : w13.heap.size < (w13.alloc (.cells #[.int .i64 0, .int .i64 0] 24)).heap.size := by simp
  go_wp2_with fail
  refine (COB.out _ hba).mono ?_
  rintro e wp ⟨rfl, hb'⟩
  have hbp := hba.trans (hb'.mono hba.size)
  have f0 := (hb'.cell (p := ⟨w13.heap.size, 0, none⟩) hAl).trans hA0
  have f1 := (hb'.cell (p := ⟨w13.heap.size, 1, none⟩) hAl).trans hA1
  have fl : w13.heap.size < wp.heap.size := Nat.lt_of_lt_of_le hAl hb'.size
  clear hb' hA0 hA1 hAl hba
  have hby' : Below wp.heap.size wp (wp.alloc (.cells #[.int .i64 0, .int .i64 0] 24)) := (Below.refl _ _).alloc (Nat.le_refl _) _
  have hby : Below (w.alloc (.cells #[.int .i64 x0, .int .i64 x1] 24)).heap.size (w.alloc (.cells #[.int .i64 x0, .int .i64 x1] 24)) (wp.alloc (.cells #[.int .i64 0, .int .i64 0] 24)) := hbp.alloc hbp.size _
  have e0 := (hby'.cell (p := ⟨w13.heap.size, 0, none⟩) fl).trans f0
  have e1 := (hby'.cell (p := ⟨w13.heap.size, 1, none⟩) fl).trans f1
  have q0 : (wp.alloc (.cells #[.int .i64 0, .int .i64 0] 24)).cell? ⟨wp.heap.size, 0, none⟩ = some (.int .i64 0) := by simp
  have q1 : (wp.alloc (.cells #[.int .i64 0, .int .i64 0] 24)).cell? ⟨wp.heap.size, 1, none⟩ = some (.int .i64 0) := by simp
  have ql : wp.heap.size < (wp.alloc (.cells #[.int .i64 0, .int .i64 0] 24)).heap.size := by simp
  clear f0 f1 hby'
  go_wp2_with fail
  refine (CE5.out _ hby).mono ?_
  rintro e we ⟨rfl, hb'⟩
  have hbe := hby.trans (hb'.mono hby.size)
  have z0 := (hb'.cell (p := ⟨w13.heap.size, 0, none⟩) (Nat.lt_trans fl ql)).trans e0
  have z1 := (hb'.cell (p := ⟨w13.heap.size, 1, none⟩) (Nat.lt_trans fl ql)).trans e1
  have v0 := (hb'.cell (p := ⟨wp.heap.size, 0, none⟩) ql).trans q0
  have v1 := (hb'.cell (p := ⟨wp.heap.size, 1, none⟩) ql).trans q1
  clear hb' e0 e1 q0 q1 hby fl ql
  go_wp2_with fail
  refine (CI0.out we hbe).mono ?_
  rintro e wf ⟨rfl, hb'⟩
  have hbf := hbe.trans (hb'.mono hbe.size)
  clear hb'
  go_wp2
  go_ret
  exact ⟨rfl, (box_cells hbf).2.2.2⟩

set_option maxHeartbeats 16000000 in
set_option maxRecDepth 4000 in
theorem heapSays_4 (n cap c nR blk off : Nat) (x0 x1 y0 y1 : Int) (D R : Array (Int × Int)) (w : World) (_hbig : n ≤ 9223372036854775807) (hc : ((c : Int) == 0) = false) (hn0 : 0 < n) (HL : Hid (∀ w1, Below (w.alloc (.cells #[.int .i64 x0, .int .i64 x1] 24)).heap.size (w.alloc (.cells #[.int .i64 x0, .int .i64 x1] 24)) w1 → w1.cell? ⟨blk, off, none⟩ = some (.int .i64 y0) ∧ w1.cell? ⟨blk, off + 1, none⟩ = some (.int .i64 y1)))
    (CRI : Hid (∀ w1, Below (w.alloc (.cells #[.int .i64 x0, .int .i64 x1] 24)).heap.size (w.alloc (.cells #[.int .i64 x0, .int .i64 x1] 24)) w1 → Calls Tryd.prog 5 #[.slice (some ⟨blk, off, none⟩) n cap] w1 fun e w' => e = .returned (.int .i64 0) ∧ Below w1.heap.size w1 w'))
    (CRM : Hid (∀ w1, Below (w.alloc (.cells #[.int .i64 x0, .int .i64 x1] 24)).heap.size (w.alloc (.cells #[.int .i64 x0, .int .i64 x1] 24)) w1 → Calls Tryd.prog 6 #[.slice (some ⟨blk, off, none⟩) n cap] w1 fun e w' => ∃ u, e = .returned u ∧ Sl w' u D ∧ Below w1.heap.size w1 w'))
    (CMG : Hid (∀ w1, Below (w.alloc (.cells #[.int .i64 x0, .int .i64 x1] 24)).heap.size (w.alloc (.cells #[.int .i64 x0, .int .i64 x1] 24)) w1 → Calls Tryd.prog 7 #[.slice (some ⟨blk, off, none⟩) n cap] w1 fun e w' => ∃ g, e = .returned (.tuple #[.slice (some ⟨g, 0, none⟩) n n, .nilIface]) ∧ RdAt w' g 0 D ∧ Below w1.heap.size w1 w'))
    (CE0 : Hid (∀ w1, Below (w.alloc (.cells #[.int .i64 x0, .int .i64 x1] 24)).heap.size (w.alloc (.cells #[.int .i64 x0, .int .i64 x1] 24)) w1 → Calls Tryd.prog 8 #[.nilIface, .int .i64 0] w1 fun e w' => e = .returned (.bool true) ∧ Below w1.heap.size w1 w'))
    (CID : Hid (∀ w1 g u, RdAt w1 g 0 D → Sl w1 u D → Calls Tryd.prog 9 #[.slice (some ⟨g, 0, none⟩) n n, u] w1 fun e w' => e = .returned (.bool true) ∧ Below w1.heap.size w1 w'))
    (CRH : Hid (∀ w1, Below (w.alloc (.cells #[.int .i64 x0, .int .i64 x1] 24)).heap.size (w.alloc (.cells #[.int .i64 x0, .int .i64 x1] 24)) w1 → Calls Tryd.prog 10 #[.slice (some ⟨blk, off, none⟩) n cap] w1 fun e w' => e = .returned (.int .i64 0) ∧ Below w1.heap.size w1 w'))
    (CK : Hid (∀ w1, Below (w.alloc (.cells #[.int .i64 x0, .int .i64 x1] 24)).heap.size (w.alloc (.cells #[.int .i64 x0, .int .i64 x1] 24)) w1 → Calls Tryd.prog 11 #[.slice (some ⟨blk, off, none⟩) n cap] w1 fun e w' => e = .returned (.nilIface) ∧ Below w1.heap.size w1 w'))
    (CRX : Hid (∀ w1 : World, Calls Tryd.prog 5 #[.slice (some ⟨w1.heap.size, 0, none⟩) 1 1] (w1.alloc (.cells #[.int .i64 x0, .int .i64 x1] 24)) fun e w' => e = .returned (.int .i64 c) ∧ Below w1.heap.size w1 w'))
    (CPB : Hid (∀ w1, Below (w.alloc (.cells #[.int .i64 x0, .int .i64 x1] 24)).heap.size (w.alloc (.cells #[.int .i64 x0, .int .i64 x1] 24)) w1 → Calls Tryd.prog 13 #[.slice (some ⟨blk, off, none⟩) n cap, .agg #[.int .i64 x0, .int .i64 x1]] w1 fun e w' => e = .returned (.tuple #[.slice none 0 0, .iface 44 (.int .i64 c)]) ∧ Below w1.heap.size w1 w'))
    (CEc : Hid (∀ w1, Below (w.alloc (.cells #[.int .i64 x0, .int .i64 x1] 24)).heap.size (w.alloc (.cells #[.int .i64 x0, .int .i64 x1] 24)) w1 → Calls Tryd.prog 8 #[.iface 44 (.int .i64 c), .int .i64 c] w1 fun e w' => e = .returned (.bool true) ∧ Below w1.heap.size w1 w'))
    (CI0 : Hid (∀ w1, Below (w.alloc (.cells #[.int .i64 x0, .int .i64 x1] 24)).heap.size (w.alloc (.cells #[.int .i64 x0, .int .i64 x1] 24)) w1 → Calls Tryd.prog 9 #[.slice none 0 0, .slice none 0 0] w1 fun e w' => e = .returned (.bool true) ∧ Below w1.heap.size w1 w'))
    (CRO : Hid (∀ w1, Below (w.alloc (.cells #[.int .i64 x0, .int .i64 x1] 24)).heap.size (w.alloc (.cells #[.int .i64 x0, .int .i64 x1] 24)) w1 → Calls Tryd.prog 14 #[.slice (some ⟨blk, off, none⟩) n cap] w1 fun e w' => ∃ u, e = .returned u ∧ SlF w' w1.heap.size u R ∧ Below w1.heap.size w1 w'))
    (COG : Hid (∀ w1, Below (w.alloc (.cells #[.int .i64 x0, .int .i64 x1] 24)).heap.size (w.alloc (.cells #[.int .i64 x0, .int .i64 x1] 24)) w1 → Calls Tryd.prog 15 #[.slice (some ⟨blk, off, none⟩) n cap] w1 fun e w' => ∃ g, e = .returned (.tuple #[.agg #[.int .i64 y0, .int .i64 y1], .slice (some ⟨g, 0, none⟩) nR nR, .nilIface]) ∧ RdAt w' g 0 R ∧ Below w1.heap.size w1 w'))
    (CIR : Hid (∀ w1 g u, RdAt w1 g 0 R → Sl w1 u R → Calls Tryd.prog 9 #[.slice (some ⟨g, 0, none⟩) nR nR, u] w1 fun e w' => e = .returned (.bool true) ∧ Below w1.heap.size w1 w')) :
    Calls Tryd.prog 3 #[.slice (some ⟨blk, off, none⟩) n cap, .agg #[.int .i64 x0, .int .i64 x1]] w fun e w' => e = .returned (.bool true) ∧ Below w.heap.size w w' := by
  have ke : ∀ w, Sem.run Tryd.prog (Op.equalIn 10000 24 (.agg #[.int .i64 y0, .int .i64 y1]) (.agg #[.int .i64 y0, .int .i64 y1])) w = .ok true w := fun w => by have := equalIn_item y0 y1 y0 y1 w; simpa using this
  have kq : ∀ w, Sem.run Tryd.prog (binOp .eql 24 (.agg #[.int .i64 y0, .int .i64 y1]) (.agg #[.int .i64 y0, .int .i64 y1])) w = .ok (.bool true) w := fun w => by have := eql_item y0 y1 y0 y1 w; simpa using this
  have kg := guard_item
  have hnq : ((n : Int) == 0) = false := beq_eq_false_iff_ne.2 (by omega)
  have hnz : (0 : Int) < (n : Int) := by omega
  go_enter Tryd.func3, Tryd.ntmps3
  have hb1 : Below (w.alloc (.cells #[.int .i64 x0, .int .i64 x1] 24)).heap.size (w.alloc (.cells #[.int .i64 x0, .int .i64 x1] 24)) (w.alloc (.cells #[.int .i64 x0, .int .i64 x1] 24)) := Below.refl _ _
  go_wp2_with fail
  refine (CRI.out (w.alloc (.cells #[.int .i64 x0, .int .i64 x1] 24)) hb1).mono ?_
  rintro e w2 ⟨rfl, hb'⟩
  have hb2 := hb1.trans (hb'.mono hb1.size)
  clear hb'
  go_wp2_with fail
  refine (CRM.out w2 hb2).mono ?_
  rintro e w3 ⟨u, rfl, hsl, hb'⟩
  have hb3 := hb2.trans (hb'.mono hb2.size)
  have Hu3 : Hid (Sl w3 u D) := hsl
  clear hsl
  clear hb'
  go_wp2_with fail
  refine (CMG.out w3 hb3).mono ?_
  rintro e w4 ⟨g, rfl, hrd, hb'⟩
  have hb4 := hb3.trans (hb'.mono hb3.size)
  have Hu4 : Hid (Sl w4 u D) := Hu3.out.below hb'
  have Hg4 : Hid (RdAt w4 g 0 D) := hrd
  clear hrd
  clear hb'
  go_wp2_with fail
  refine (CE0.out w4 hb4).mono ?_
  rintro e w5 ⟨rfl, hb'⟩
  have hb5 := hb4.trans (hb'.mono hb4.size)
  have Hg5 : Hid (RdAt w5 g 0 D) := Hg4.out.below hb' Hg4.out.1
  have Hu5 : Hid (Sl w5 u D) := Hu4.out.below hb'
  clear hb'
  go_wp2_with fail
  refine (CID.out w5 g u Hg5.out Hu5.out).mono ?_
  rintro e w6 ⟨rfl, hb'⟩
  have hb6 := hb5.trans (hb'.mono hb5.size)
  have Hg6 : Hid (RdAt w6 g 0 D) := Hg5.out.below hb' Hg5.out.1
  have Hu6 : Hid (Sl w6 u D) := Hu5.out.below hb'
  clear hb'
  go_wp2_with fail
  refine (CRH.out w6 hb6).mono ?_
  rintro e w7 ⟨rfl, hb'⟩
  have hb7 := hb6.trans (hb'.mono hb6.size)
  clear hb'
  go_wp2_with fail
  refine (CK.out w7 hb7).mono ?_
  rintro e w8 ⟨rfl, hb'⟩
  have hb8 := hb7.trans (hb'.mono hb7.size)
  clear hb'
  go_wp2_with fail
  refine (CE0.out w8 hb8).mono ?_
  rintro e w9 ⟨rfl, hb'⟩
  have hb9 := hb8.trans (hb'.mono hb8.size)
  clear hb'
  obtain ⟨b0, b1, hlt, hbw⟩ := box_cells hb9
  go_wp2_with fail
  refine (CRX.out w9).mono ?_
  rintro e w10 ⟨rfl, hb'⟩
  have hb10 := hb9.trans (hb'.mono hb9.size)
  clear hb'
  clear b0 b1 hlt hbw
  obtain ⟨b0, b1, hlt, hbw⟩ := box_cells hb10
  go_wp2_with fail
  refine (CPB.out w10 hb10).mono ?_
  rintro e w11 ⟨rfl, hb'⟩
  have hb11 := hb10.trans (hb'.mono hb10.size)
  clear hb'
  clear b0 b1 hlt hbw
  go_wp2_with fail
  refine (CEc.out w11 hb11).mono ?_
  rintro e w12 ⟨rfl, hb'⟩
  have hb12 := hb11.trans (hb'.mono hb11.size)
  clear hb'
  go_wp2_with fail
  refine (CI0.out w12 hb12).mono ?_
  rintro e w13 ⟨rfl, hb'⟩
  have hb13 := hb12.trans (hb'.mono hb12.size)
  clear hb'
  have hba : Below (w.alloc (.cells #[.int .i64 x0, .int .i64 x1] 24)).heap.size (w.alloc (.cells #[.int .i64 x0, .int .i64 x1] 24)) (w13.alloc (.cells #[.int .i64 0, .int .i64 0] 24)) := hb13.alloc hb13.size _
  have hA0 : (w13.alloc (.cells #[.int .i64 0, .int .i64 0] 24)).cell? ⟨w13.heap.size, 0, none⟩ = some (.int .i64 0) := by simp
  have hA1 : (w13.alloc (.cells #[.int .i64 0, .int .i64 0] 24)).cell? ⟨w13.heap.size, 1, none⟩ = some (.int .i64 0) := by simp
  have hAl : w13.heap.size < (w13.alloc (.cells #[.int .i64 0, .int .i64 0] 24)).heap.size := by simp
  have hAf0 : (w13.alloc (.cells #[.int .i64 0, .int .i64 0] 24)).frozen? ⟨w13.heap.size, 0, none⟩ = false := by simp
  have hAf1 : (w13.alloc (.cells #[.int .i64 0, .int .i64 0] 24)).frozen? ⟨w13.heap.size, 1, none⟩ = false := by simp
  go_wp2_with fail
  refine (CRO.out _ hba).mono ?_
  rintro e wr ⟨u4, rfl, hsl, hb'⟩
  have hbr := hba.trans (hb'.mono hba.size)
  have Hu4 : Hid (SlF wr (w13.alloc (.cells #[.int .i64 0, .int .i64 0] 24)).heap.size u4 R) := hsl
  have f0 := (hb'.cell (p := ⟨w13.heap.size, 0, none⟩) hAl).trans hA0
  have f1 := (hb'.cell (p := ⟨w13.heap.size, 1, none⟩) hAl).trans hA1
  have fz0 := (World.frozen?_of_block (a := ⟨w13.heap.size, 0, none⟩) (hb'.block w13.heap.size hAl)).trans hAf0
  have fz1 := (World.frozen?_of_block (a := ⟨w13.heap.size, 1, none⟩) (hb'.block w13.heap.size hAl)).trans hAf1
  have fl : w13.heap.size < wr.heap.size := Nat.lt_of_lt_of_le hAl hb'.size
  have HF : Hid (w13.heap.size < (w13.alloc (.cells #[.int .i64 0, .int .i64 0] 24)).heap.size) := hAl
  have hbF : (w.alloc (.cells #[.int .i64 x0, .int .i64 x1] 24)).heap.size ≤ w13.heap.size := hb13.size
  obtain ⟨l0, l1⟩ := HL.out wr hbr
  clear hb' hA0 hA1 hAl hba hAf0 hAf1 hsl
  have hgs : wr.grownBy ((wr.setCell ⟨w13.heap.size, 0, none⟩ (.int .i64 y0)).setCell ⟨w13.heap.size, 1, none⟩ (.int .i64 y1)) (some w13.heap.size) := gb_set (World.grownBy.refl _ _) _ _ _ _
  have hbs : Below (w.alloc (.cells #[.int .i64 x0, .int .i64 x1] 24)).heap.size (w.alloc (.cells #[.int .i64 x0, .int .i64 x1] 24)) ((wr.setCell ⟨w13.heap.size, 0, none⟩ (.int .i64 y0)).setCell ⟨w13.heap.size, 1, none⟩ (.int .i64 y1)) := below_gb hbr hgs hbF hbr.size
  have Hu5 : Hid (Sl ((wr.setCell ⟨w13.heap.size, 0, none⟩ (.int .i64 y0)).setCell ⟨w13.heap.size, 1, none⟩ (.int .i64 y1)) u4 R) := Hu4.out.kept hgs HF.out
  have s0 : ((wr.setCell ⟨w13.heap.size, 0, none⟩ (.int .i64 y0)).setCell ⟨w13.heap.size, 1, none⟩ (.int .i64 y1)).cell? ⟨w13.heap.size, 0, none⟩ = some (.int .i64 y0) := by rw [World.cell?_setCell_other _ _ _ _ (by simp), World.cell?_setCell_same _ _ _ f0]
  have s1 : ((wr.setCell ⟨w13.heap.size, 0, none⟩ (.int .i64 y0)).setCell ⟨w13.heap.size, 1, none⟩ (.int .i64 y1)).cell? ⟨w13.heap.size, 1, none⟩ = some (.int .i64 y1) := World.cell?_setCell_same _ _ _ ((World.cell?_setCell_other _ _ _ _ (by simp)).trans f1)
  have sl : w13.heap.size < ((wr.setCell ⟨w13.heap.size, 0, none⟩ (.int .i64 y0)).setCell ⟨w13.heap.size, 1, none⟩ (.int .i64 y1)).heap.size := by rw [size_setCell, size_setCell]; exact fl
  clear hgs Hu4 HF
  go_wp2_with fail
  clear f0 f1 fz0 fz1 fl l0 l1 hbr
  generalize ((wr.setCell ⟨w13.heap.size, 0, none⟩ (.int .i64 y0)).setCell ⟨w13.heap.size, 1, none⟩ (.int .i64 y1)) = ws at hbs Hu5 s0 s1 sl ⊢
  refine (COG.out _ hbs).mono ?_
  rintro e wp ⟨g6, rfl, hrd, hb'⟩
  have hbp := hbs.trans (hb'.mono hbs.size)
  have f0 := (hb'.cell (p := ⟨w13.heap.size, 0, none⟩) sl).trans s0
  have f1 := (hb'.cell (p := ⟨w13.heap.size, 1, none⟩) sl).trans s1
  have fl : w13.heap.size < wp.heap.size := Nat.lt_of_lt_of_le sl hb'.size
  have Hg6 : Hid (RdAt wp g6 0 R) := hrd
  have Hu6 : Hid (Sl wp u4 R) := Hu5.out.below hb'
  clear hb' s0 s1 sl hbs Hu5 hrd
  have hby' : Below wp.heap.size wp (wp.alloc (.cells #[.int .i64 y0, .int .i64 y1] 24)) := (Below.refl _ _).alloc (Nat.le_refl _) _
  have hby : Below (w.alloc (.cells #[.int .i64 x0, .int .i64 x1] 24)).heap.size (w.alloc (.cells #[.int .i64 x0, .int .i64 x1] 24)) (wp.alloc (.cells #[.int .i64 y0, .int .i64 y1] 24)) := hbp.alloc hbp.size _
  have e0 := (hby'.cell (p := ⟨w13.heap.size, 0, none⟩) fl).trans f0
  have e1 := (hby'.cell (p := ⟨w13.heap.size, 1, none⟩) fl).trans f1
  have q0 : (wp.alloc (.cells #[.int .i64 y0, .int .i64 y1] 24)).cell? ⟨wp.heap.size, 0, none⟩ = some (.int .i64 y0) := by simp
  have q1 : (wp.alloc (.cells #[.int .i64 y0, .int .i64 y1] 24)).cell? ⟨wp.heap.size, 1, none⟩ = some (.int .i64 y1) := by simp
  have ql : wp.heap.size < (wp.alloc (.cells #[.int .i64 y0, .int .i64 y1] 24)).heap.size := by simp
  have Hg7 : Hid (RdAt (wp.alloc (.cells #[.int .i64 y0, .int .i64 y1] 24)) g6 0 R) := Hg6.out.below hby' Hg6.out.1
  have Hu7 : Hid (Sl (wp.alloc (.cells #[.int .i64 y0, .int .i64 y1] 24)) u4 R) := Hu6.out.below hby'
  clear Hg6 Hu6
  clear f0 f1 hby'
  go_wp2_with fail
  refine (CE0.out _ hby).mono ?_
  rintro e we ⟨rfl, hb'⟩
  have hbe := hby.trans (hb'.mono hby.size)
  have z0 := (hb'.cell (p := ⟨w13.heap.size, 0, none⟩) (Nat.lt_trans fl ql)).trans e0
  have z1 := (hb'.cell (p := ⟨w13.heap.size, 1, none⟩) (Nat.lt_trans fl ql)).trans e1
  have v0 := (hb'.cell (p := ⟨wp.heap.size, 0, none⟩) ql).trans q0
  have v1 := (hb'.cell (p := ⟨wp.heap.size, 1, none⟩) ql).trans q1
  have Hg8 : Hid (RdAt we g6 0 R) := Hg7.out.below hb' Hg7.out.1
  have Hu8 : Hid (Sl we u4 R) := Hu7.out.below hb'
  clear Hg7 Hu7
  clear hb' e0 e1 q0 q1 hby fl ql
  go_wp2_with fail
  refine (CIR.out we g6 u4 Hg8.out Hu8.out).mono ?_
  rintro e wf ⟨rfl, hb'⟩
  have hbf := hbe.trans (hb'.mono hbe.size)
  clear hb'
  go_wp2
  go_ret
  exact ⟨rfl, (box_cells hbf).2.2.2⟩

set_option maxHeartbeats 16000000 in
set_option maxRecDepth 4000 in
theorem heapSays_5 (cap nR blk off : Nat) (x0 x1 y0 y1 : Int) (D R : Array (Int × Int)) (w : World) (HL : Hid (∀ w1, Below (w.alloc (.cells #[.int .i64 x0, .int .i64 x1] 24)).heap.size (w.alloc (.cells #[.int .i64 x0, .int .i64 x1] 24)) w1 → w1.cell? ⟨blk, off, none⟩ = some (.int .i64 y0) ∧ w1.cell? ⟨blk, off + 1, none⟩ = some (.int .i64 y1)))
    (CRI : Hid (∀ w1, Below (w.alloc (.cells #[.int .i64 x0, .int .i64 x1] 24)).heap.size (w.alloc (.cells #[.int .i64 x0, .int .i64 x1] 24)) w1 → Calls Tryd.prog 5 #[.slice (some ⟨blk, off, none⟩) 60 cap] w1 fun e w' => e = .returned (.int .i64 0) ∧ Below w1.heap.size w1 w'))
    (CRM : Hid (∀ w1, Below (w.alloc (.cells #[.int .i64 x0, .int .i64 x1] 24)).heap.size (w.alloc (.cells #[.int .i64 x0, .int .i64 x1] 24)) w1 → Calls Tryd.prog 6 #[.slice (some ⟨blk, off, none⟩) 60 cap] w1 fun e w' => ∃ u, e = .returned u ∧ Sl w' u D ∧ Below w1.heap.size w1 w'))
    (CMG : Hid (∀ w1, Below (w.alloc (.cells #[.int .i64 x0, .int .i64 x1] 24)).heap.size (w.alloc (.cells #[.int .i64 x0, .int .i64 x1] 24)) w1 → Calls Tryd.prog 7 #[.slice (some ⟨blk, off, none⟩) 60 cap] w1 fun e w' => ∃ g, e = .returned (.tuple #[.slice (some ⟨g, 0, none⟩) 60 60, .nilIface]) ∧ RdAt w' g 0 D ∧ Below w1.heap.size w1 w'))
    (CE0 : Hid (∀ w1, Below (w.alloc (.cells #[.int .i64 x0, .int .i64 x1] 24)).heap.size (w.alloc (.cells #[.int .i64 x0, .int .i64 x1] 24)) w1 → Calls Tryd.prog 8 #[.nilIface, .int .i64 0] w1 fun e w' => e = .returned (.bool true) ∧ Below w1.heap.size w1 w'))
    (CID : Hid (∀ w1 g u, RdAt w1 g 0 D → Sl w1 u D → Calls Tryd.prog 9 #[.slice (some ⟨g, 0, none⟩) 60 60, u] w1 fun e w' => e = .returned (.bool true) ∧ Below w1.heap.size w1 w'))
    (CRH : Hid (∀ w1, Below (w.alloc (.cells #[.int .i64 x0, .int .i64 x1] 24)).heap.size (w.alloc (.cells #[.int .i64 x0, .int .i64 x1] 24)) w1 → Calls Tryd.prog 10 #[.slice (some ⟨blk, off, none⟩) 60 cap] w1 fun e w' => e = .returned (.int .i64 0) ∧ Below w1.heap.size w1 w'))
    (CK : Hid (∀ w1, Below (w.alloc (.cells #[.int .i64 x0, .int .i64 x1] 24)).heap.size (w.alloc (.cells #[.int .i64 x0, .int .i64 x1] 24)) w1 → Calls Tryd.prog 11 #[.slice (some ⟨blk, off, none⟩) 60 cap] w1 fun e w' => e = .returned (.nilIface) ∧ Below w1.heap.size w1 w'))
    (CRX : Hid (∀ w1 : World, Calls Tryd.prog 5 #[.slice (some ⟨w1.heap.size, 0, none⟩) 1 1] (w1.alloc (.cells #[.int .i64 x0, .int .i64 x1] 24)) fun e w' => e = .returned (.int .i64 0) ∧ Below w1.heap.size w1 w'))
    (CPB : Hid (∀ w1, Below (w.alloc (.cells #[.int .i64 x0, .int .i64 x1] 24)).heap.size (w.alloc (.cells #[.int .i64 x0, .int .i64 x1] 24)) w1 → Calls Tryd.prog 13 #[.slice (some ⟨blk, off, none⟩) 60 cap, .agg #[.int .i64 x0, .int .i64 x1]] w1 fun e w' => e = .returned (.tuple #[.slice none 0 0, .iface 44 (.int .i64 4)]) ∧ Below w1.heap.size w1 w'))
    (CE4 : Hid (∀ w1, Below (w.alloc (.cells #[.int .i64 x0, .int .i64 x1] 24)).heap.size (w.alloc (.cells #[.int .i64 x0, .int .i64 x1] 24)) w1 → Calls Tryd.prog 8 #[.iface 44 (.int .i64 4), .int .i64 4] w1 fun e w' => e = .returned (.bool true) ∧ Below w1.heap.size w1 w'))
    (CI0 : Hid (∀ w1, Below (w.alloc (.cells #[.int .i64 x0, .int .i64 x1] 24)).heap.size (w.alloc (.cells #[.int .i64 x0, .int .i64 x1] 24)) w1 → Calls Tryd.prog 9 #[.slice none 0 0, .slice none 0 0] w1 fun e w' => e = .returned (.bool true) ∧ Below w1.heap.size w1 w'))
    (CRO : Hid (∀ w1, Below (w.alloc (.cells #[.int .i64 x0, .int .i64 x1] 24)).heap.size (w.alloc (.cells #[.int .i64 x0, .int .i64 x1] 24)) w1 → Calls Tryd.prog 14 #[.slice (some ⟨blk, off, none⟩) 60 cap] w1 fun e w' => ∃ u, e = .returned u ∧ SlF w' w1.heap.size u R ∧ Below w1.heap.size w1 w'))
    (COG : Hid (∀ w1, Below (w.alloc (.cells #[.int .i64 x0, .int .i64 x1] 24)).heap.size (w.alloc (.cells #[.int .i64 x0, .int .i64 x1] 24)) w1 → Calls Tryd.prog 15 #[.slice (some ⟨blk, off, none⟩) 60 cap] w1 fun e w' => ∃ g, e = .returned (.tuple #[.agg #[.int .i64 y0, .int .i64 y1], .slice (some ⟨g, 0, none⟩) nR nR, .nilIface]) ∧ RdAt w' g 0 R ∧ Below w1.heap.size w1 w'))
    (CIR : Hid (∀ w1 g u, RdAt w1 g 0 R → Sl w1 u R → Calls Tryd.prog 9 #[.slice (some ⟨g, 0, none⟩) nR nR, u] w1 fun e w' => e = .returned (.bool true) ∧ Below w1.heap.size w1 w')) :
    Calls Tryd.prog 3 #[.slice (some ⟨blk, off, none⟩) 60 cap, .agg #[.int .i64 x0, .int .i64 x1]] w fun e w' => e = .returned (.bool true) ∧ Below w.heap.size w w' := by
  have ke : ∀ w, Sem.run Tryd.prog (Op.equalIn 10000 24 (.agg #[.int .i64 y0, .int .i64 y1]) (.agg #[.int .i64 y0, .int .i64 y1])) w = .ok true w := fun w => by have := equalIn_item y0 y1 y0 y1 w; simpa using this
  have kq : ∀ w, Sem.run Tryd.prog (binOp .eql 24 (.agg #[.int .i64 y0, .int .i64 y1]) (.agg #[.int .i64 y0, .int .i64 y1])) w = .ok (.bool true) w := fun w => by have := eql_item y0 y1 y0 y1 w; simpa using this
  have kg := guard_item
  go_enter Tryd.func3, Tryd.ntmps3
  have hb1 : Below (w.alloc (.cells #[.int .i64 x0, .int .i64 x1] 24)).heap.size (w.alloc (.cells #[.int .i64 x0, .int .i64 x1] 24)) (w.alloc (.cells #[.int .i64 x0, .int .i64 x1] 24)) := Below.refl _ _
  go_wp2_with fail
  refine (CRI.out (w.alloc (.cells #[.int .i64 x0, .int .i64 x1] 24)) hb1).mono ?_
  rintro e w2 ⟨rfl, hb'⟩
  have hb2 := hb1.trans (hb'.mono hb1.size)
  clear hb'
  go_wp2_with fail
  refine (CRM.out w2 hb2).mono ?_
  rintro e w3 ⟨u, rfl, hsl, hb'⟩
  have hb3 := hb2.trans (hb'.mono hb2.size)
  have Hu3 : Hid (Sl w3 u D) := hsl
  clear hsl
  clear hb'
  go_wp2_with fail
  refine (CMG.out w3 hb3).mono ?_
  rintro e w4 ⟨g, rfl, hrd, hb'⟩
  have hb4 := hb3.trans (hb'.mono hb3.size)
  have Hu4 : Hid (Sl w4 u D) := Hu3.out.below hb'
  have Hg4 : Hid (RdAt w4 g 0 D) := hrd
  clear hrd
  clear hb'
  go_wp2_with fail
  refine (CE0.out w4 hb4).mono ?_
  rintro e w5 ⟨rfl, hb'⟩
  have hb5 := hb4.trans (hb'.mono hb4.size)
  have Hg5 : Hid (RdAt w5 g 0 D) := Hg4.out.below hb' Hg4.out.1
  have Hu5 : Hid (Sl w5 u D) := Hu4.out.below hb'
  clear hb'
  go_wp2_with fail
  refine (CID.out w5 g u Hg5.out Hu5.out).mono ?_
  rintro e w6 ⟨rfl, hb'⟩
  have hb6 := hb5.trans (hb'.mono hb5.size)
  have Hg6 : Hid (RdAt w6 g 0 D) := Hg5.out.below hb' Hg5.out.1
  have Hu6 : Hid (Sl w6 u D) := Hu5.out.below hb'
  clear hb'
  go_wp2_with fail
  refine (CRH.out w6 hb6).mono ?_
  rintro e w7 ⟨rfl, hb'⟩
  have hb7 := hb6.trans (hb'.mono hb6.size)
  clear hb'
  go_wp2_with fail
  refine (CK.out w7 hb7).mono ?_
  rintro e w8 ⟨rfl, hb'⟩
  have hb8 := hb7.trans (hb'.mono hb7.size)
  clear hb'
  go_wp2_with fail
  refine (CE0.out w8 hb8).mono ?_
  rintro e w9 ⟨rfl, hb'⟩
  have hb9 := hb8.trans (hb'.mono hb8.size)
  clear hb'
  obtain ⟨b0, b1, hlt, hbw⟩ := box_cells hb9
  go_wp2_with fail
  refine (CRX.out w9).mono ?_
  rintro e w10 ⟨rfl, hb'⟩
  have hb10 := hb9.trans (hb'.mono hb9.size)
  clear hb'
  clear b0 b1 hlt hbw
  obtain ⟨b0, b1, hlt, hbw⟩ := box_cells hb10
  go_wp2_with fail
  refine (CPB.out w10 hb10).mono ?_
  rintro e w11 ⟨rfl, hb'⟩
  have hb11 := hb10.trans (hb'.mono hb10.size)
  clear hb'
  clear b0 b1 hlt hbw
  go_wp2_with fail
  refine (CE4.out w11 hb11).mono ?_
  rintro e w12 ⟨rfl, hb'⟩
  have hb12 := hb11.trans (hb'.mono hb11.size)
  clear hb'
  go_wp2_with fail
  refine (CI0.out w12 hb12).mono ?_
  rintro e w13 ⟨rfl, hb'⟩
  have hb13 := hb12.trans (hb'.mono hb12.size)
  clear hb'
  have hba : Below (w.alloc (.cells #[.int .i64 x0, .int .i64 x1] 24)).heap.size (w.alloc (.cells #[.int .i64 x0, .int .i64 x1] 24)) (w13.alloc (.cells #[.int .i64 0, .int .i64 0] 24)) := hb13.alloc hb13.size _
  have hA0 : (w13.alloc (.cells #[.int .i64 0, .int .i64 0] 24)).cell? ⟨w13.heap.size, 0, none⟩ = some (.int .i64 0) := by simp
  have hA1 : (w13.alloc (.cells #[.int .i64 0, .int .i64 0] 24)).cell? ⟨w13.heap.size, 1, none⟩ = some (.int .i64 0) := by simp
  have hAl : w13.heap.size < (w13.alloc (.cells #[.int .i64 0, .int .i64 0] 24)).heap.size := by simp
  have hAf0 : (w13.alloc (.cells #[.int .i64 0, .int .i64 0] 24)).frozen? ⟨w13.heap.size, 0, none⟩ = false := by simp
  have hAf1 : (w13.alloc (.cells #[.int .i64 0, .int .i64 0] 24)).frozen? ⟨w13.heap.size, 1, none⟩ = false := by simp
  go_wp2_with fail
  refine (CRO.out _ hba).mono ?_
  rintro e wr ⟨u4, rfl, hsl, hb'⟩
  have hbr := hba.trans (hb'.mono hba.size)
  have Hu4 : Hid (SlF wr (w13.alloc (.cells #[.int .i64 0, .int .i64 0] 24)).heap.size u4 R) := hsl
  have f0 := (hb'.cell (p := ⟨w13.heap.size, 0, none⟩) hAl).trans hA0
  have f1 := (hb'.cell (p := ⟨w13.heap.size, 1, none⟩) hAl).trans hA1
  have fz0 := (World.frozen?_of_block (a := ⟨w13.heap.size, 0, none⟩) (hb'.block w13.heap.size hAl)).trans hAf0
  have fz1 := (World.frozen?_of_block (a := ⟨w13.heap.size, 1, none⟩) (hb'.block w13.heap.size hAl)).trans hAf1
  have fl : w13.heap.size < wr.heap.size := Nat.lt_of_lt_of_le hAl hb'.size
  have HF : Hid (w13.heap.size < (w13.alloc (.cells #[.int .i64 0, .int .i64 0] 24)).heap.size) := hAl
  have hbF : (w.alloc (.cells #[.int .i64 x0, .int .i64 x1] 24)).heap.size ≤ w13.heap.size := hb13.size
  obtain ⟨l0, l1⟩ := HL.out wr hbr
  clear hb' hA0 hA1 hAl hba hAf0 hAf1 hsl
  have hgs : wr.grownBy ((wr.setCell ⟨w13.heap.size, 0, none⟩ (.int .i64 y0)).setCell ⟨w13.heap.size, 1, none⟩ (.int .i64 y1)) (some w13.heap.size) := gb_set (World.grownBy.refl _ _) _ _ _ _
  have hbs : Below (w.alloc (.cells #[.int .i64 x0, .int .i64 x1] 24)).heap.size (w.alloc (.cells #[.int .i64 x0, .int .i64 x1] 24)) ((wr.setCell ⟨w13.heap.size, 0, none⟩ (.int .i64 y0)).setCell ⟨w13.heap.size, 1, none⟩ (.int .i64 y1)) := below_gb hbr hgs hbF hbr.size
  have Hu5 : Hid (Sl ((wr.setCell ⟨w13.heap.size, 0, none⟩ (.int .i64 y0)).setCell ⟨w13.heap.size, 1, none⟩ (.int .i64 y1)) u4 R) := Hu4.out.kept hgs HF.out
  have s0 : ((wr.setCell ⟨w13.heap.size, 0, none⟩ (.int .i64 y0)).setCell ⟨w13.heap.size, 1, none⟩ (.int .i64 y1)).cell? ⟨w13.heap.size, 0, none⟩ = some (.int .i64 y0) := by rw [World.cell?_setCell_other _ _ _ _ (by simp), World.cell?_setCell_same _ _ _ f0]
  have s1 : ((wr.setCell ⟨w13.heap.size, 0, none⟩ (.int .i64 y0)).setCell ⟨w13.heap.size, 1, none⟩ (.int .i64 y1)).cell? ⟨w13.heap.size, 1, none⟩ = some (.int .i64 y1) := World.cell?_setCell_same _ _ _ ((World.cell?_setCell_other _ _ _ _ (by simp)).trans f1)
  have sl : w13.heap.size < ((wr.setCell ⟨w13.heap.size, 0, none⟩ (.int .i64 y0)).setCell ⟨w13.heap.size, 1, none⟩ (.int .i64 y1)).heap.size := by rw [size_setCell, size_setCell]; exact fl
  clear hgs Hu4 HF
  go_wp2_with fail
  clear f0 f1 fz0 fz1 fl l0 l1 hbr
  generalize ((wr.setCell ⟨w13.heap.size, 0, none⟩ (.int .i64 y0)).setCell ⟨w13.heap.size, 1, none⟩ (.int .i64 y1)) = ws at hbs Hu5 s0 s1 sl ⊢
  refine (COG.out _ hbs).mono ?_
  rintro e wp ⟨g6, rfl, hrd, hb'⟩
  have hbp := hbs.trans (hb'.mono hbs.size)
  have f0 := (hb'.cell (p := ⟨w13.heap.size, 0, none⟩) sl).trans s0
  have f1 := (hb'.cell (p := ⟨w13.heap.size, 1, none⟩) sl).trans s1
  have fl : w13.heap.size < wp.heap.size := Nat.lt_of_lt_of_le sl hb'.size
  have Hg6 : Hid (RdAt wp g6 0 R) := hrd
  have Hu6 : Hid (Sl wp u4 R) := Hu5.out.below hb'
  clear hb' s0 s1 sl hbs Hu5 hrd
  have hby' : Below wp.heap.size wp (wp.alloc (.cells #[.int .i64 y0, .int .i64 y1] 24)) := (Below.refl _ _).alloc (Nat.le_refl _) _
  have hby : Below (w.alloc (.cells #[.int .i64 x0, .int .i64 x1] 24)).heap.size (w.alloc (.cells #[.int .i64 x0, .int .i64 x1] 24)) (wp.alloc (.cells #[.int .i64 y0, .int .i64 y1] 24)) := hbp.alloc hbp.size _
  have e0 := (hby'.cell (p := ⟨w13.heap.size, 0, none⟩) fl).trans f0
  have e1 := (hby'.cell (p := ⟨w13.heap.size, 1, none⟩) fl).trans f1
  have q0 : (wp.alloc (.cells #[.int .i64 y0, .int .i64 y1] 24)).cell? ⟨wp.heap.size, 0, none⟩ = some (.int .i64 y0) := by simp
  have q1 : (wp.alloc (.cells #[.int .i64 y0, .int .i64 y1] 24)).cell? ⟨wp.heap.size, 1, none⟩ = some (.int .i64 y1) := by simp
  have ql : wp.heap.size < (wp.alloc (.cells #[.int .i64 y0, .int .i64 y1] 24)).heap.size := by simp
  have Hg7 : Hid (RdAt (wp.alloc (.cells #[.int .i64 y0, .int .i64 y1] 24)) g6 0 R) := Hg6.out.below hby' Hg6.out.1
  have Hu7 : Hid (Sl (wp.alloc (.cells #[.int .i64 y0, .int .i64 y1] 24)) u4 R) := Hu6.out.below hby'
  clear Hg6 Hu6
  clear f0 f1 hby'
  go_wp2_with fail
  refine (CE0.out _ hby).mono ?_
  rintro e we ⟨rfl, hb'⟩
  have hbe := hby.trans (hb'.mono hby.size)
  have z0 := (hb'.cell (p := ⟨w13.heap.size, 0, none⟩) (Nat.lt_trans fl ql)).trans e0
  have z1 := (hb'.cell (p := ⟨w13.heap.size, 1, none⟩) (Nat.lt_trans fl ql)).trans e1
  have v0 := (hb'.cell (p := ⟨wp.heap.size, 0, none⟩) ql).trans q0
  have v1 := (hb'.cell (p := ⟨wp.heap.size, 1, none⟩) ql).trans q1
  have Hg8 : Hid (RdAt we g6 0 R) := Hg7.out.below hb' Hg7.out.1
  have Hu8 : Hid (Sl we u4 R) := Hu7.out.below hb'
  clear Hg7 Hu7
  clear hb' e0 e1 q0 q1 hby fl ql
  go_wp2_with fail
  refine (CIR.out we g6 u4 Hg8.out Hu8.out).mono ?_
  rintro e wf ⟨rfl, hb'⟩
  have hbf := hbe.trans (hb'.mono hbe.size)
  clear hb'
  go_wp2
  go_ret
  exact ⟨rfl, (box_cells hbf).2.2.2⟩

set_option maxHeartbeats 16000000 in
set_option maxRecDepth 4000 in
theorem heapSays_6 (p : Option Addr) (cap nP : Nat) (x0 x1 : Int) (D DP : Array (Int × Int)) (w : World)
    (CRI : Hid (∀ w1, Below (w.alloc (.cells #[.int .i64 x0, .int .i64 x1] 24)).heap.size (w.alloc (.cells #[.int .i64 x0, .int .i64 x1] 24)) w1 → Calls Tryd.prog 5 #[.slice p 0 cap] w1 fun e w' => e = .returned (.int .i64 0) ∧ Below w1.heap.size w1 w'))
    (CRM : Hid (∀ w1, Below (w.alloc (.cells #[.int .i64 x0, .int .i64 x1] 24)).heap.size (w.alloc (.cells #[.int .i64 x0, .int .i64 x1] 24)) w1 → Calls Tryd.prog 6 #[.slice p 0 cap] w1 fun e w' => ∃ u, e = .returned u ∧ Sl w' u D ∧ Below w1.heap.size w1 w'))
    (CMG : Hid (∀ w1, Below (w.alloc (.cells #[.int .i64 x0, .int .i64 x1] 24)).heap.size (w.alloc (.cells #[.int .i64 x0, .int .i64 x1] 24)) w1 → Calls Tryd.prog 7 #[.slice p 0 cap] w1 fun e w' => ∃ g, e = .returned (.tuple #[.slice (some ⟨g, 0, none⟩) 0 0, .nilIface]) ∧ RdAt w' g 0 D ∧ Below w1.heap.size w1 w'))
    (CE0 : Hid (∀ w1, Below (w.alloc (.cells #[.int .i64 x0, .int .i64 x1] 24)).heap.size (w.alloc (.cells #[.int .i64 x0, .int .i64 x1] 24)) w1 → Calls Tryd.prog 8 #[.nilIface, .int .i64 0] w1 fun e w' => e = .returned (.bool true) ∧ Below w1.heap.size w1 w'))
    (CID : Hid (∀ w1 g u, RdAt w1 g 0 D → Sl w1 u D → Calls Tryd.prog 9 #[.slice (some ⟨g, 0, none⟩) 0 0, u] w1 fun e w' => e = .returned (.bool true) ∧ Below w1.heap.size w1 w'))
    (CRH : Hid (∀ w1, Below (w.alloc (.cells #[.int .i64 x0, .int .i64 x1] 24)).heap.size (w.alloc (.cells #[.int .i64 x0, .int .i64 x1] 24)) w1 → Calls Tryd.prog 10 #[.slice p 0 cap] w1 fun e w' => e = .returned (.int .i64 0) ∧ Below w1.heap.size w1 w'))
    (CK : Hid (∀ w1, Below (w.alloc (.cells #[.int .i64 x0, .int .i64 x1] 24)).heap.size (w.alloc (.cells #[.int .i64 x0, .int .i64 x1] 24)) w1 → Calls Tryd.prog 11 #[.slice p 0 cap] w1 fun e w' => e = .returned (.nilIface) ∧ Below w1.heap.size w1 w'))
    (CRX : Hid (∀ w1 : World, Calls Tryd.prog 5 #[.slice (some ⟨w1.heap.size, 0, none⟩) 1 1] (w1.alloc (.cells #[.int .i64 x0, .int .i64 x1] 24)) fun e w' => e = .returned (.int .i64 0) ∧ Below w1.heap.size w1 w'))
    (CRP : Hid (∀ w1, Below (w.alloc (.cells #[.int .i64 x0, .int .i64 x1] 24)).heap.size (w.alloc (.cells #[.int .i64 x0, .int .i64 x1] 24)) w1 → Calls Tryd.prog 12 #[.slice p 0 cap, .agg #[.int .i64 x0, .int .i64 x1]] w1 fun e w' => ∃ u, e = .returned u ∧ Sl w' u DP ∧ Below w1.heap.size w1 w'))
    (CPG : Hid (∀ w1, Below (w.alloc (.cells #[.int .i64 x0, .int .i64 x1] 24)).heap.size (w.alloc (.cells #[.int .i64 x0, .int .i64 x1] 24)) w1 → Calls Tryd.prog 13 #[.slice p 0 cap, .agg #[.int .i64 x0, .int .i64 x1]] w1 fun e w' => ∃ g, e = .returned (.tuple #[.slice (some ⟨g, 0, none⟩) nP nP, .nilIface]) ∧ RdAt w' g 0 DP ∧ Below w1.heap.size w1 w'))
    (CIP : Hid (∀ w1 g u, RdAt w1 g 0 DP → Sl w1 u DP → Calls Tryd.prog 9 #[.slice (some ⟨g, 0, none⟩) nP nP, u] w1 fun e w' => e = .returned (.bool true) ∧ Below w1.heap.size w1 w'))
    (COB : Hid (∀ w1, Below (w.alloc (.cells #[.int .i64 x0, .int .i64 x1] 24)).heap.size (w.alloc (.cells #[.int .i64 x0, .int .i64 x1] 24)) w1 → Calls Tryd.prog 15 #[.slice p 0 cap] w1 fun e w' => e = .returned (.tuple #[.agg #[.int .i64 0, .int .i64 0], .slice none 0 0, .iface 44 (.int .i64 5)]) ∧ Below w1.heap.size w1 w'))
    (CE5 : Hid (∀ w1, Below (w.alloc (.cells #[.int .i64 x0, .int .i64 x1] 24)).heap.size (w.alloc (.cells #[.int .i64 x0, .int .i64 x1] 24)) w1 → Calls Tryd.prog 8 #[.iface 44 (.int .i64 5), .int .i64 5] w1 fun e w' => e = .returned (.bool true) ∧ Below w1.heap.size w1 w'))
    (CI0 : Hid (∀ w1, Below (w.alloc (.cells #[.int .i64 x0, .int .i64 x1] 24)).heap.size (w.alloc (.cells #[.int .i64 x0, .int .i64 x1] 24)) w1 → Calls Tryd.prog 9 #[.slice none 0 0, .slice none 0 0] w1 fun e w' => e = .returned (.bool true) ∧ Below w1.heap.size w1 w')) :
    Calls Tryd.prog 3 #[.slice p 0 cap, .agg #[.int .i64 x0, .int .i64 x1]] w fun e w' => e = .returned (.bool true) ∧ Below w.heap.size w w' := by
  have ke : ∀ w, Sem.run Tryd.prog (Op.equalIn 10000 24 (.agg #[.int .i64 0, .int .i64 0]) (.agg #[.int .i64 0, .int .i64 0])) w = .ok true w := fun w => by have := equalIn_item 0 0 0 0 w; simpa using this
  have kq : ∀ w, Sem.run Tryd.prog (binOp .eql 24 (.agg #[.int .i64 0, .int .i64 0]) (.agg #[.int .i64 0, .int .i64 0])) w = .ok (.bool true) w := fun w => by have := eql_item 0 0 0 0 w; simpa using this
  have kg := guard_item
  go_enter Tryd.func3, Tryd.ntmps3
  have hb1 : Below (w.alloc (.cells #[.int .i64 x0, .int .i64 x1] 24)).heap.size (w.alloc (.cells #[.int .i64 x0, .int .i64 x1] 24)) (w.alloc (.cells #[.int .i64 x0, .int .i64 x1] 24)) := Below.refl _ _
  go_wp2_with fail
  refine (CRI.out (w.alloc (.cells #[.int .i64 x0, .int .i64 x1] 24)) hb1).mono ?_
  rintro e w2 ⟨rfl, hb'⟩
  have hb2 := hb1.trans (hb'.mono hb1.size)
  clear hb'
  go_wp2_with fail
  refine (CRM.out w2 hb2).mono ?_
  rintro e w3 ⟨u, rfl, hsl, hb'⟩
  have hb3 := hb2.trans (hb'.mono hb2.size)
  have Hu3 : Hid (Sl w3 u D) := hsl
  clear hsl
  clear hb'
  go_wp2_with fail
  refine (CMG.out w3 hb3).mono ?_
  rintro e w4 ⟨g, rfl, hrd, hb'⟩
  have hb4 := hb3.trans (hb'.mono hb3.size)
  have Hu4 : Hid (Sl w4 u D) := Hu3.out.below hb'
  have Hg4 : Hid (RdAt w4 g 0 D) := hrd
  clear hrd
  clear hb'
  go_wp2_with fail
  refine (CE0.out w4 hb4).mono ?_
  rintro e w5 ⟨rfl, hb'⟩
  have hb5 := hb4.trans (hb'.mono hb4.size)
  have Hg5 : Hid (RdAt w5 g 0 D) := Hg4.out.below hb' Hg4.out.1
  have Hu5 : Hid (Sl w5 u D) := Hu4.out.below hb'
  clear hb'
  go_wp2_with fail
  refine (CID.out w5 g u Hg5.out Hu5.out).mono ?_
  rintro e w6 ⟨rfl, hb'⟩
  have hb6 := hb5.trans (hb'.mono hb5.size)
  have Hg6 : Hid (RdAt w6 g 0 D) := Hg5.out.below hb' Hg5.out.1
  have Hu6 : Hid (Sl w6 u D) := Hu5.out.below hb'
  clear hb'
  go_wp2_with fail
  refine (CRH.out w6 hb6).mono ?_
  rintro e w7 ⟨rfl, hb'⟩
  have hb7 := hb6.trans (hb'.mono hb6.size)
  clear hb'
  go_wp2_with fail
  refine (CK.out w7 hb7).mono ?_
  rintro e w8 ⟨rfl, hb'⟩
  have hb8 := hb7.trans (hb'.mono hb7.size)
  clear hb'
  go_wp2_with fail
  refine (CE0.out w8 hb8).mono ?_
  rintro e w9 ⟨rfl, hb'⟩
  have hb9 := hb8.trans (hb'.mono hb8.size)
  clear hb'
  obtain ⟨b0, b1, hlt, hbw⟩ := box_cells hb9
  go_wp2_with fail
  refine (CRX.out w9).mono ?_
  rintro e w10 ⟨rfl, hb'⟩
  have hb10 := hb9.trans (hb'.mono hb9.size)
  clear hb'
  clear b0 b1 hlt hbw
  obtain ⟨b0, b1, hlt, hbw⟩ := box_cells hb10
  go_wp2_with fail
  refine (CRP.out w10 hb10).mono ?_
  rintro e w11 ⟨u3, rfl, hsl, hb'⟩
  have hb11 := hb10.trans (hb'.mono hb10.size)
  have Hu311 : Hid (Sl w11 u3 DP) := hsl
  clear hsl
  clear hb'
  clear b0 b1 hlt hbw
  obtain ⟨b0, b1, hlt, hbw⟩ := box_cells hb11
  go_wp2_with fail
  refine (CPG.out w11 hb11).mono ?_
  rintro e w12 ⟨g3, rfl, hrd, hb'⟩
  have hb12 := hb11.trans (hb'.mono hb11.size)
  have Hu312 : Hid (Sl w12 u3 DP) := Hu311.out.below hb'
  have Hg312 : Hid (RdAt w12 g3 0 DP) := hrd
  clear hrd
  clear hb'
  clear b0 b1 hlt hbw
  go_wp2_with fail
  refine (CE0.out w12 hb12).mono ?_
  rintro e w13 ⟨rfl, hb'⟩
  have hb13 := hb12.trans (hb'.mono hb12.size)
  have Hg313 : Hid (RdAt w13 g3 0 DP) := Hg312.out.below hb' Hg312.out.1
  have Hu313 : Hid (Sl w13 u3 DP) := Hu312.out.below hb'
  clear hb'
  go_wp2_with fail
  refine (CIP.out w13 g3 u3 Hg313.out Hu313.out).mono ?_
  rintro e w14 ⟨rfl, hb'⟩
  have hb14 := hb13.trans (hb'.mono hb13.size)
  have Hg314 : Hid (RdAt w14 g3 0 DP) := Hg313.out.below hb' Hg313.out.1
  have Hu314 : Hid (Sl w14 u3 DP) := Hu313.out.below hb'
  clear hb'
  have hba : Below (w.alloc (.cells #[.int .i64 x0, .int .i64 x1] 24)).heap.size (w.alloc (.cells #[.int .i64 x0, .int .i64 x1] 24)) (w14.alloc (.cells #[.int .i64 0, .int .i64 0] 24)) := hb14.alloc hb14.size _
  have hA0 : (w14.alloc (.cells #[.int .i64 0, .int .i64 0] 24)).cell? ⟨w14.heap.size, 0, none⟩ = some (.int .i64 0) := by simp
  have hA1 : (w14.alloc (.cells #[.int .i64 0, .int .i64 0] 24)).cell? ⟨w14.heap.size, 1, none⟩ = some (.int .i64 0) := by simp
  have hAl : w14.heap.size < (w14.alloc (.cells #[.int .i64 0, .int .i64 0] 24)).heap.size := by simp
  go_wp2_with fail
  refine (COB.out _ hba).mono ?_
  rintro e wp ⟨rfl, hb'⟩
  have hbp := hba.trans (hb'.mono hba.size)
  have f0 := (hb'.cell (p := ⟨w14.heap.size, 0, none⟩) hAl).trans hA0
  have f1 := (hb'.cell (p := ⟨w14.heap.size, 1, none⟩) hAl).trans hA1
  have fl : w14.heap.size < wp.heap.size := Nat.lt_of_lt_of_le hAl hb'.size
  clear hb' hA0 hA1 hAl hba
  have hby' : Below wp.heap.size wp (wp.alloc (.cells #[.int .i64 0, .int .i64 0] 24)) := (Below.refl _ _).alloc (Nat.le_refl _) _
  have hby : Below (w.alloc (.cells #[.int .i64 x0, .int .i64 x1] 24)).heap.size (w.alloc (.cells #[.int .i64 x0, .int .i64 x1] 24)) (wp.alloc (.cells #[.int .i64 0, .int .i64 0] 24)) := hbp.alloc hbp.size _
  have e0 := (hby'.cell (p := ⟨w14.heap.size, 0, none⟩) fl).trans f0
  have e1 := (hby'.cell (p := ⟨w14.heap.size, 1, none⟩) fl).trans f1
  have q0 : (wp.alloc (.cells #[.int .i64 0, .int .i64 0] 24)).cell? ⟨wp.heap.size, 0, none⟩ = some (.int .i64 0) := by simp
  have q1 : (wp.alloc (.cells #[.int .i64 0, .int .i64 0] 24)).cell? ⟨wp.heap.size, 1, none⟩ = some (.int .i64 0) := by simp
  have ql : wp.heap.size < (wp.alloc (.cells #[.int .i64 0, .int .i64 0] 24)).heap.size := by simp
  clear f0 f1 hby'
  go_wp2_with fail
  refine (CE5.out _ hby).mono ?_
  rintro e we ⟨rfl, hb'⟩
  have hbe := hby.trans (hb'.mono hby.size)
  have z0 := (hb'.cell (p := ⟨w14.heap.size, 0, none⟩) (Nat.lt_trans fl ql)).trans e0
  have z1 := (hb'.cell (p := ⟨w14.heap.size, 1, none⟩) (Nat.lt_trans fl ql)).trans e1
  have v0 := (hb'.cell (p := ⟨wp.heap.size, 0, none⟩) ql).trans q0
  have v1 := (hb'.cell (p := ⟨wp.heap.size, 1, none⟩) ql).trans q1
  clear hb' e0 e1 q0 q1 hby fl ql
  go_wp2_with fail
  refine (CI0.out we hbe).mono ?_
  rintro e wf ⟨rfl, hb'⟩
  have hbf := hbe.trans (hb'.mono hbe.size)
  clear hb'
  go_wp2
  go_ret
  exact ⟨rfl, (box_cells hbf).2.2.2⟩

set_option maxHeartbeats 16000000 in
set_option maxRecDepth 4000 in
theorem heapSays_7 (n cap nP nR blk off : Nat) (x0 x1 y0 y1 : Int) (D DP R : Array (Int × Int)) (w : World) (_hbig : n ≤ 9223372036854775807) (hn60 : ((n : Int) == 60) = false) (hn0 : 0 < n) (HL : Hid (∀ w1, Below (w.alloc (.cells #[.int .i64 x0, .int .i64 x1] 24)).heap.size (w.alloc (.cells #[.int .i64 x0, .int .i64 x1] 24)) w1 → w1.cell? ⟨blk, off, none⟩ = some (.int .i64 y0) ∧ w1.cell? ⟨blk, off + 1, none⟩ = some (.int .i64 y1)))
    (CRI : Hid (∀ w1, Below (w.alloc (.cells #[.int .i64 x0, .int .i64 x1] 24)).heap.size (w.alloc (.cells #[.int .i64 x0, .int .i64 x1] 24)) w1 → Calls Tryd.prog 5 #[.slice (some ⟨blk, off, none⟩) n cap] w1 fun e w' => e = .returned (.int .i64 0) ∧ Below w1.heap.size w1 w'))
    (CRM : Hid (∀ w1, Below (w.alloc (.cells #[.int .i64 x0, .int .i64 x1] 24)).heap.size (w.alloc (.cells #[.int .i64 x0, .int .i64 x1] 24)) w1 → Calls Tryd.prog 6 #[.slice (some ⟨blk, off, none⟩) n cap] w1 fun e w' => ∃ u, e = .returned u ∧ Sl w' u D ∧ Below w1.heap.size w1 w'))
    (CMG : Hid (∀ w1, Below (w.alloc (.cells #[.int .i64 x0, .int .i64 x1] 24)).heap.size (w.alloc (.cells #[.int .i64 x0, .int .i64 x1] 24)) w1 → Calls Tryd.prog 7 #[.slice (some ⟨blk, off, none⟩) n cap] w1 fun e w' => ∃ g, e = .returned (.tuple #[.slice (some ⟨g, 0, none⟩) n n, .nilIface]) ∧ RdAt w' g 0 D ∧ Below w1.heap.size w1 w'))
    (CE0 : Hid (∀ w1, Below (w.alloc (.cells #[.int .i64 x0, .int .i64 x1] 24)).heap.size (w.alloc (.cells #[.int .i64 x0, .int .i64 x1] 24)) w1 → Calls Tryd.prog 8 #[.nilIface, .int .i64 0] w1 fun e w' => e = .returned (.bool true) ∧ Below w1.heap.size w1 w'))
    (CID : Hid (∀ w1 g u, RdAt w1 g 0 D → Sl w1 u D → Calls Tryd.prog 9 #[.slice (some ⟨g, 0, none⟩) n n, u] w1 fun e w' => e = .returned (.bool true) ∧ Below w1.heap.size w1 w'))
    (CRH : Hid (∀ w1, Below (w.alloc (.cells #[.int .i64 x0, .int .i64 x1] 24)).heap.size (w.alloc (.cells #[.int .i64 x0, .int .i64 x1] 24)) w1 → Calls Tryd.prog 10 #[.slice (some ⟨blk, off, none⟩) n cap] w1 fun e w' => e = .returned (.int .i64 0) ∧ Below w1.heap.size w1 w'))
    (CK : Hid (∀ w1, Below (w.alloc (.cells #[.int .i64 x0, .int .i64 x1] 24)).heap.size (w.alloc (.cells #[.int .i64 x0, .int .i64 x1] 24)) w1 → Calls Tryd.prog 11 #[.slice (some ⟨blk, off, none⟩) n cap] w1 fun e w' => e = .returned (.nilIface) ∧ Below w1.heap.size w1 w'))
    (CRX : Hid (∀ w1 : World, Calls Tryd.prog 5 #[.slice (some ⟨w1.heap.size, 0, none⟩) 1 1] (w1.alloc (.cells #[.int .i64 x0, .int .i64 x1] 24)) fun e w' => e = .returned (.int .i64 0) ∧ Below w1.heap.size w1 w'))
    (CRP : Hid (∀ w1, Below (w.alloc (.cells #[.int .i64 x0, .int .i64 x1] 24)).heap.size (w.alloc (.cells #[.int .i64 x0, .int .i64 x1] 24)) w1 → Calls Tryd.prog 12 #[.slice (some ⟨blk, off, none⟩) n cap, .agg #[.int .i64 x0, .int .i64 x1]] w1 fun e w' => ∃ u, e = .returned u ∧ Sl w' u DP ∧ Below w1.heap.size w1 w'))
    (CPG : Hid (∀ w1, Below (w.alloc (.cells #[.int .i64 x0, .int .i64 x1] 24)).heap.size (w.alloc (.cells #[.int .i64 x0, .int .i64 x1] 24)) w1 → Calls Tryd.prog 13 #[.slice (some ⟨blk, off, none⟩) n cap, .agg #[.int .i64 x0, .int .i64 x1]] w1 fun e w' => ∃ g, e = .returned (.tuple #[.slice (some ⟨g, 0, none⟩) nP nP, .nilIface]) ∧ RdAt w' g 0 DP ∧ Below w1.heap.size w1 w'))
    (CIP : Hid (∀ w1 g u, RdAt w1 g 0 DP → Sl w1 u DP → Calls Tryd.prog 9 #[.slice (some ⟨g, 0, none⟩) nP nP, u] w1 fun e w' => e = .returned (.bool true) ∧ Below w1.heap.size w1 w'))
    (CRO : Hid (∀ w1, Below (w.alloc (.cells #[.int .i64 x0, .int .i64 x1] 24)).heap.size (w.alloc (.cells #[.int .i64 x0, .int .i64 x1] 24)) w1 → Calls Tryd.prog 14 #[.slice (some ⟨blk, off, none⟩) n cap] w1 fun e w' => ∃ u, e = .returned u ∧ SlF w' w1.heap.size u R ∧ Below w1.heap.size w1 w'))
    (COG : Hid (∀ w1, Below (w.alloc (.cells #[.int .i64 x0, .int .i64 x1] 24)).heap.size (w.alloc (.cells #[.int .i64 x0, .int .i64 x1] 24)) w1 → Calls Tryd.prog 15 #[.slice (some ⟨blk, off, none⟩) n cap] w1 fun e w' => ∃ g, e = .returned (.tuple #[.agg #[.int .i64 y0, .int .i64 y1], .slice (some ⟨g, 0, none⟩) nR nR, .nilIface]) ∧ RdAt w' g 0 R ∧ Below w1.heap.size w1 w'))
    (CIR : Hid (∀ w1 g u, RdAt w1 g 0 R → Sl w1 u R → Calls Tryd.prog 9 #[.slice (some ⟨g, 0, none⟩) nR nR, u] w1 fun e w' => e = .returned (.bool true) ∧ Below w1.heap.size w1 w')) :
    Calls Tryd.prog 3 #[.slice (some ⟨blk, off, none⟩) n cap, .agg #[.int .i64 x0, .int .i64 x1]] w fun e w' => e = .returned (.bool true) ∧ Below w.heap.size w w' := by
  have ke : ∀ w, Sem.run Tryd.prog (Op.equalIn 10000 24 (.agg #[.int .i64 y0, .int .i64 y1]) (.agg #[.int .i64 y0, .int .i64 y1])) w = .ok true w := fun w => by have := equalIn_item y0 y1 y0 y1 w; simpa using this
  have kq : ∀ w, Sem.run Tryd.prog (binOp .eql 24 (.agg #[.int .i64 y0, .int .i64 y1]) (.agg #[.int .i64 y0, .int .i64 y1])) w = .ok (.bool true) w := fun w => by have := eql_item y0 y1 y0 y1 w; simpa using this
  have kg := guard_item
  have hnq : ((n : Int) == 0) = false := beq_eq_false_iff_ne.2 (by omega)
  have hnz : (0 : Int) < (n : Int) := by omega
  go_enter Tryd.func3, Tryd.ntmps3
  have hb1 : Below (w.alloc (.cells #[.int .i64 x0, .int .i64 x1] 24)).heap.size (w.alloc (.cells #[.int .i64 x0, .int .i64 x1] 24)) (w.alloc (.cells #[.int .i64 x0, .int .i64 x1] 24)) := Below.refl _ _
  go_wp2_with fail
  refine (CRI.out (w.alloc (.cells #[.int .i64 x0, .int .i64 x1] 24)) hb1).mono ?_
  rintro e w2 ⟨rfl, hb'⟩
  have hb2 := hb1.trans (hb'.mono hb1.size)
  clear hb'
  go_wp2_with fail
  refine (CRM.out w2 hb2).mono ?_
  rintro e w3 ⟨u, rfl, hsl, hb'⟩
  have hb3 := hb2.trans (hb'.mono hb2.size)
  have Hu3 : Hid (Sl w3 u D) := hsl
  clear hsl
  clear hb'
  go_wp2_with fail
  refine (CMG.out w3 hb3).mono ?_
  rintro e w4 ⟨g, rfl, hrd, hb'⟩
  have hb4 := hb3.trans (hb'.mono hb3.size)
  have Hu4 : Hid (Sl w4 u D) := Hu3.out.below hb'
  have Hg4 : Hid (RdAt w4 g 0 D) := hrd
  clear hrd
  clear hb'
  go_wp2_with fail
  refine (CE0.out w4 hb4).mono ?_
  rintro e w5 ⟨rfl, hb'⟩
  have hb5 := hb4.trans (hb'.mono hb4.size)
  have Hg5 : Hid (RdAt w5 g 0 D) := Hg4.out.below hb' Hg4.out.1
  have Hu5 : Hid (Sl w5 u D) := Hu4.out.below hb'
  clear hb'
  go_wp2_with fail
  refine (CID.out w5 g u Hg5.out Hu5.out).mono ?_
  rintro e w6 ⟨rfl, hb'⟩
  have hb6 := hb5.trans (hb'.mono hb5.size)
  have Hg6 : Hid (RdAt w6 g 0 D) := Hg5.out.below hb' Hg5.out.1
  have Hu6 : Hid (Sl w6 u D) := Hu5.out.below hb'
  clear hb'
  go_wp2_with fail
  refine (CRH.out w6 hb6).mono ?_
  rintro e w7 ⟨rfl, hb'⟩
  have hb7 := hb6.trans (hb'.mono hb6.size)
  clear hb'
  go_wp2_with fail
  refine (CK.out w7 hb7).mono ?_
  rintro e w8 ⟨rfl, hb'⟩
  have hb8 := hb7.trans (hb'.mono hb7.size)
  clear hb'
  go_wp2_with fail
  refine (CE0.out w8 hb8).mono ?_
  rintro e w9 ⟨rfl, hb'⟩
  have hb9 := hb8.trans (hb'.mono hb8.size)
  clear hb'
  obtain ⟨b0, b1, hlt, hbw⟩ := box_cells hb9
  go_wp2_with fail
  refine (CRX.out w9).mono ?_
  rintro e w10 ⟨rfl, hb'⟩
  have hb10 := hb9.trans (hb'.mono hb9.size)
  clear hb'
  clear b0 b1 hlt hbw
  obtain ⟨b0, b1, hlt, hbw⟩ := box_cells hb10
  go_wp2_with fail
  refine (CRP.out w10 hb10).mono ?_
  rintro e w11 ⟨u3, rfl, hsl, hb'⟩
  have hb11 := hb10.trans (hb'.mono hb10.size)
  have Hu311 : Hid (Sl w11 u3 DP) := hsl
  clear hsl
  clear hb'
  clear b0 b1 hlt hbw
  obtain ⟨b0, b1, hlt, hbw⟩ := box_cells hb11
  go_wp2_with fail
  refine (CPG.out w11 hb11).mono ?_
  rintro e w12 ⟨g3, rfl, hrd, hb'⟩
  have hb12 := hb11.trans (hb'.mono hb11.size)
  have Hu312 : Hid (Sl w12 u3 DP) := Hu311.out.below hb'
  have Hg312 : Hid (RdAt w12 g3 0 DP) := hrd
  clear hrd
  clear hb'
  clear b0 b1 hlt hbw
  go_wp2_with fail
  refine (CE0.out w12 hb12).mono ?_
  rintro e w13 ⟨rfl, hb'⟩
  have hb13 := hb12.trans (hb'.mono hb12.size)
  have Hg313 : Hid (RdAt w13 g3 0 DP) := Hg312.out.below hb' Hg312.out.1
  have Hu313 : Hid (Sl w13 u3 DP) := Hu312.out.below hb'
  clear hb'
  go_wp2_with fail
  refine (CIP.out w13 g3 u3 Hg313.out Hu313.out).mono ?_
  rintro e w14 ⟨rfl, hb'⟩
  have hb14 := hb13.trans (hb'.mono hb13.size)
  have Hg314 : Hid (RdAt w14 g3 0 DP) := Hg313.out.below hb' Hg313.out.1
  have Hu314 : Hid (Sl w14 u3 DP) := Hu313.out.below hb'
  clear hb'
  have hba : Below (w.alloc (.cells #[.int .i64 x0, .int .i64 x1] 24)).heap.size (w.alloc (.cells #[.int .i64 x0, .int .i64 x1] 24)) (w14.alloc (.cells #[.int .i64 0, .int .i64 0] 24)) := hb14.alloc hb14.size _
  have hA0 : (w14.alloc (.cells #[.int .i64 0, .int .i64 0] 24)).cell? ⟨w14.heap.size, 0, none⟩ = some (.int .i64 0) := by simp
  have hA1 : (w14.alloc (.cells #[.int .i64 0, .int .i64 0] 24)).cell? ⟨w14.heap.size, 1, none⟩ = some (.int .i64 0) := by simp
  have hAl : w14.heap.size < (w14.alloc (.cells #[.int .i64 0, .int .i64 0] 24)).heap.size := by simp
  have hAf0 : (w14.alloc (.cells #[.int .i64 0, .int .i64 0] 24)).frozen? ⟨w14.heap.size, 0, none⟩ = false := by simp
  have hAf1 : (w14.alloc (.cells #[.int .i64 0, .int .i64 0] 24)).frozen? ⟨w14.heap.size, 1, none⟩ = false := by simp
  go_wp2_with fail
  refine (CRO.out _ hba).mono ?_
  rintro e wr ⟨u4, rfl, hsl, hb'⟩
  have hbr := hba.trans (hb'.mono hba.size)
  have Hu4 : Hid (SlF wr (w14.alloc (.cells #[.int .i64 0, .int .i64 0] 24)).heap.size u4 R) := hsl
  have f0 := (hb'.cell (p := ⟨w14.heap.size, 0, none⟩) hAl).trans hA0
  have f1 := (hb'.cell (p := ⟨w14.heap.size, 1, none⟩) hAl).trans hA1
  have fz0 := (World.frozen?_of_block (a := ⟨w14.heap.size, 0, none⟩) (hb'.block w14.heap.size hAl)).trans hAf0
  have fz1 := (World.frozen?_of_block (a := ⟨w14.heap.size, 1, none⟩) (hb'.block w14.heap.size hAl)).trans hAf1
  have fl : w14.heap.size < wr.heap.size := Nat.lt_of_lt_of_le hAl hb'.size
  have HF : Hid (w14.heap.size < (w14.alloc (.cells #[.int .i64 0, .int .i64 0] 24)).heap.size) := hAl
  have hbF : (w.alloc (.cells #[.int .i64 x0, .int .i64 x1] 24)).heap.size ≤ w14.heap.size := hb14.size
  obtain ⟨l0, l1⟩ := HL.out wr hbr
  clear hb' hA0 hA1 hAl hba hAf0 hAf1 hsl
  have hgs : wr.grownBy ((wr.setCell ⟨w14.heap.size, 0, none⟩ (.int .i64 y0)).setCell ⟨w14.heap.size, 1, none⟩ (.int .i64 y1)) (some w14.heap.size) := gb_set (World.grownBy.refl _ _) _ _ _ _
  have hbs : Below (w.alloc (.cells #[.int .i64 x0, .int .i64 x1] 24)).heap.size (w.alloc (.cells #[.int .i64 x0, .int .i64 x1] 24)) ((wr.setCell ⟨w14.heap.size, 0, none⟩ (.int .i64 y0)).setCell ⟨w14.heap.size, 1, none⟩ (.int .i64 y1)) := below_gb hbr hgs hbF hbr.size
  have Hu5 : Hid (Sl ((wr.setCell ⟨w14.heap.size, 0, none⟩ (.int .i64 y0)).setCell ⟨w14.heap.size, 1, none⟩ (.int .i64 y1)) u4 R) := Hu4.out.kept hgs HF.out
  have s0 : ((wr.setCell ⟨w14.heap.size, 0, none⟩ (.int .i64 y0)).setCell ⟨w14.heap.size, 1, none⟩ (.int .i64 y1)).cell? ⟨w14.heap.size, 0, none⟩ = some (.int .i64 y0) := by rw [World.cell?_setCell_other _ _ _ _ (by simp), World.cell?_setCell_same _ _ _ f0]
  have s1 : ((wr.setCell ⟨w14.heap.size, 0, none⟩ (.int .i64 y0)).setCell ⟨w14.heap.size, 1, none⟩ (.int .i64 y1)).cell? ⟨w14.heap.size, 1, none⟩ = some (.int .i64 y1) := World.cell?_setCell_same _ _ _ ((World.cell?_setCell_other _ _ _ _ (by simp)).trans f1)
  have sl : w14.heap.size < ((wr.setCell ⟨w14.heap.size, 0, none⟩ (.int .i64 y0)).setCell ⟨w14.heap.size, 1, none⟩ (.int .i64 y1)).heap.size := by rw [size_setCell, size_setCell]; exact fl
  clear hgs Hu4 HF
  go_wp2_with fail
  clear f0 f1 fz0 fz1 fl l0 l1 hbr
  generalize ((wr.setCell ⟨w14.heap.size, 0, none⟩ (.int .i64 y0)).setCell ⟨w14.heap.size, 1, none⟩ (.int .i64 y1)) = ws at hbs Hu5 s0 s1 sl ⊢
  refine (COG.out _ hbs).mono ?_
  rintro e wp ⟨g6, rfl, hrd, hb'⟩
  have hbp := hbs.trans (hb'.mono hbs.size)
  have f0 := (hb'.cell (p := ⟨w14.heap.size, 0, none⟩) sl).trans s0
  have f1 := (hb'.cell (p := ⟨w14.heap.size, 1, none⟩) sl).trans s1
  have fl : w14.heap.size < wp.heap.size := Nat.lt_of_lt_of_le sl hb'.size
  have Hg6 : Hid (RdAt wp g6 0 R) := hrd
  have Hu6 : Hid (Sl wp u4 R) := Hu5.out.below hb'
  clear hb' s0 s1 sl hbs Hu5 hrd
  have hby' : Below wp.heap.size wp (wp.alloc (.cells #[.int .i64 y0, .int .i64 y1] 24)) := (Below.refl _ _).alloc (Nat.le_refl _) _
  have hby : Below (w.alloc (.cells #[.int .i64 x0, .int .i64 x1] 24)).heap.size (w.alloc (.cells #[.int .i64 x0, .int .i64 x1] 24)) (wp.alloc (.cells #[.int .i64 y0, .int .i64 y1] 24)) := hbp.alloc hbp.size _
  have e0 := (hby'.cell (p := ⟨w14.heap.size, 0, none⟩) fl).trans f0
  have e1 := (hby'.cell (p := ⟨w14.heap.size, 1, none⟩) fl).trans f1
  have q0 : (wp.alloc (.cells #[.int .i64 y0, .int .i64 y1] 24)).cell? ⟨wp.heap.size, 0, none⟩ = some (.int .i64 y0) := by simp
  have q1 : (wp.alloc (.cells #[.int .i64 y0, .int .i64 y1] 24)).cell? ⟨wp.heap.size, 1, none⟩ = some (.int .i64 y1) := by simp
  have ql : wp.heap.size < (wp.alloc (.cells #[.int .i64 y0, .int .i64 y1] 24)).heap.size := by simp
  have Hg7 : Hid (RdAt (wp.alloc (.cells #[.int .i64 y0, .int .i64 y1] 24)) g6 0 R) := Hg6.out.below hby' Hg6.out.1
  have Hu7 : Hid (Sl (wp.alloc (.cells #[.int .i64 y0, .int .i64 y1] 24)) u4 R) := Hu6.out.below hby'
  clear Hg6 Hu6
  clear f0 f1 hby'
  go_wp2_with fail
  refine (CE0.out _ hby).mono ?_
  rintro e we ⟨rfl, hb'⟩
  have hbe := hby.trans (hb'.mono hby.size)
  have z0 := (hb'.cell (p := ⟨w14.heap.size, 0, none⟩) (Nat.lt_trans fl ql)).trans e0
  have z1 := (hb'.cell (p := ⟨w14.heap.size, 1, none⟩) (Nat.lt_trans fl ql)).trans e1
  have v0 := (hb'.cell (p := ⟨wp.heap.size, 0, none⟩) ql).trans q0
  have v1 := (hb'.cell (p := ⟨wp.heap.size, 1, none⟩) ql).trans q1
  have Hg8 : Hid (RdAt we g6 0 R) := Hg7.out.below hb' Hg7.out.1
  have Hu8 : Hid (Sl we u4 R) := Hu7.out.below hb'
  clear Hg7 Hu7
  clear hb' e0 e1 q0 q1 hby fl ql
  go_wp2_with fail
  refine (CIR.out we g6 u4 Hg8.out Hu8.out).mono ?_
  rintro e wf ⟨rfl, hb'⟩
  have hbf := hbe.trans (hb'.mono hbe.size)
  clear hb'
  go_wp2
  go_ret
  exact ⟨rfl, (box_cells hbf).2.2.2⟩

theorem of_same {w w' : World} {P : Prop} (h : P ∧ w' = w) : P ∧ Below w.heap.size w w' := ⟨h.1, by rw [h.2]; exact Below.refl _ _⟩
theorem of_drew {w w' : World} {P : Prop} (h : P ∧ ∃ q, w' = w.drewN q) : P ∧ Below w.heap.size w w' := by
  obtain ⟨a, q, b⟩ := h
  exact ⟨a, by rw [b]; exact below_drewN (Below.refl _ _) q⟩
theorem slOf {w : World} {g n : Nat} {D : Array (Int × Int)} (hs : D.size = n) (h : RdAt w g 0 D) : Sl w (.slice (some ⟨g, 0, none⟩) n n) D := by
  rw [← hs]; exact Sl.of_rd h (Nat.le_refl _)
theorem nat_ne {k : Nat} (h : k ≠ 0) : ((k : Int) == 0) = false := beq_eq_false_iff_ne.2 (by omega)

set_option maxHeartbeats 1000000 in
theorem heapSays_any (v : Value) (x0 x1 : Int) (xs : Array (Int × Int)) (w : World) (h : Sl w v xs) (hbig : xs.size ≤ 9223372036854775807) (hgl : Glob w) :
    Calls Tryd.prog 3 #[v, .agg #[.int .i64 x0, .int .i64 x1]] w fun e w' => e = .returned (.bool true) ∧ Below w.heap.size w w' := by
  obtain ⟨p, cap, rfl, hcap, hp⟩ := id h
  obtain ⟨B, hB⟩ : ∃ B, w.alloc (.cells #[.int .i64 x0, .int .i64 x1] 24) = B := ⟨_, rfl⟩
  have hb0 : Below w.heap.size w B := by rw [← hB]; exact (Below.refl _ _).alloc (Nat.le_refl _) _
  have hs0 := h.below hb0
  have hgl0 := hgl.below hb0
  have cRI := fun w1 (hb : Below B.heap.size B w1) => (refItems_any _ xs w1 (hs0.below hb) hbig).mono fun _ _ q => of_same q
  have cE := fun (k : Nat) w1 (hb : Below B.heap.size B w1) => error_any k k w1 (hgl0.below hb)
  have cE0 := fun w1 (hb : Below B.heap.size B w1) => error_any 0 0 w1 (hgl0.below hb)
  have cI0 : ∀ w1, Below B.heap.size B w1 → Calls Tryd.prog 9 #[.slice none 0 0, .slice none 0 0] w1 fun e w' => e = .returned (.bool true) ∧ Below w1.heap.size w1 w' :=
    fun w1 _ => (items_none none none 0 0 w1).mono fun _ _ q => of_drew q
  have cI : ∀ (A : Array (Int × Int)) (n : Nat), A.size = n → n ≤ 1000 → ∀ w1 g u, RdAt w1 g 0 A → Sl w1 u A → Calls Tryd.prog 9 #[.slice (some ⟨g, 0, none⟩) n n, u] w1 fun e w' => e = .returned (.bool true) ∧ Below w1.heap.size w1 w' :=
    fun A n hn hl w1 g u hr hu => by
      have c := (items_any _ u A A w1 (slOf hn hr) hu (by omega)).mono fun _ _ q => of_drew q
      rw [decide_eq_true rfl] at c
      exact c
  have cRH := fun w1 (hb : Below B.heap.size B w1) => refHeap_any _ xs w1 (hs0.below hb) hbig
  have cK := fun w1 (hb : Below B.heap.size B w1) => heapCheck_any _ xs w1 (hs0.below hb) hbig
  have cRX : ∀ w1 : World, Calls Tryd.prog 5 #[.slice (some ⟨w1.heap.size, 0, none⟩) 1 1] (w1.alloc (.cells #[.int .i64 x0, .int .i64 x1] 24)) fun e w' => e = .returned (.int .i64 (wrong #[(x0, x1)] : Nat)) ∧ Below w1.heap.size w1 w' :=
    fun w1 => (refItems_any _ #[(x0, x1)] _ (Sl.of_rd (cap := 1) (rd_one w1 x0 x1) (by simp)) (by simp)).mono fun e w' ⟨a, b⟩ => ⟨a, by rw [b]; exact (Below.refl _ _).alloc (Nat.le_refl _) _⟩
  have cPB := fun (hk : wrongP xs (x0, x1) ≠ 0) w1 (hb : Below B.heap.size B w1) => heapPush_bad p cap x0 x1 xs w1 (hs0.below hb) hbig hk
  have cOB := fun (hk : wrongO xs ≠ 0) w1 (hb : Below B.heap.size B w1) => heapPop_bad p cap xs w1 (hs0.below hb) hbig hk
  simp only [beq_self_eq_true] at cE cE0
  by_cases h0 : wrong xs = 0
  · have h60 := wrong_le h0
    have hDs := hmake_size xs
    have cRM := fun w1 (hb : Below B.heap.size B w1) => refMake_any _ xs w1 (hs0.below hb) h60
    have cMG := fun w1 (hb : Below B.heap.size B w1) => heapMake_good _ xs w1 (hs0.below hb) h0
    have cID := cI (hmake xs) xs.size hDs (by omega)
    rw [h0] at cRI
    by_cases hh : wrongH xs = 0
    · rw [hh] at cRH cK
      by_cases hc : wrong #[(x0, x1)] = 0
      · rw [hc] at cRX
        by_cases hf : xs.size < 60
        · have hP : wrongP xs (x0, x1) = 0 := by unfold wrongP; rw [if_pos hh, if_pos hc, if_pos hf]
          have hPs : (hpush xs (x0, x1)).size = xs.size + 1 := hpush_size _ _
          have cRP := fun w1 (hb : Below B.heap.size B w1) => refPush_any _ x0 x1 xs w1 (hs0.below hb) hf
          have cPG := fun w1 (hb : Below B.heap.size B w1) => heapPush_good p cap x0 x1 xs w1 (hs0.below hb) hP
          have cIP := cI (hpush xs (x0, x1)) (xs.size + 1) hPs (by omega)
          rcases Nat.eq_zero_or_pos xs.size with hn | hn
          · have hO : wrongO xs = 5 := by unfold wrongO; rw [if_pos hh, if_pos hn]
            have cO := cOB (by rw [hO]; decide)
            rw [hO] at cO
            rw [hn] at cRI cRM cMG cID cRH cK cRP cPG cIP cO ⊢
            subst hB
            exact heapSays_6 p cap _ x0 x1 (hmake xs) (hpush xs (x0, x1)) w cRI cRM cMG cE0 cID cRH cK cRX cRP cPG cIP cO (cE 5) cI0
          · rcases hp with hp | ⟨blk, off, rfl, hr⟩
            · omega
            · have hO : wrongO xs = 0 := by unfold wrongO; rw [if_pos hh, if_neg (by omega)]
              have cRO := fun w1 (hb : Below B.heap.size B w1) => refPop_any _ xs w1 (hs0.below hb) h60
              have cOG := fun w1 (hb : Below B.heap.size B w1) => heapPop_good (some ⟨blk, off, none⟩) cap xs w1 (hs0.below hb) hO
              have cIR := cI (hpop xs) (xs.size - 1) (hpop_size xs) (by omega)
              have hL : ∀ w1, Below B.heap.size B w1 → w1.cell? ⟨blk, off, none⟩ = some (.int .i64 xs[0]!.1) ∧ w1.cell? ⟨blk, off + 1, none⟩ = some (.int .i64 xs[0]!.2) := fun w1 hb => by
                have := ((hr.below hb0 hr.1).below hb (Nat.lt_of_lt_of_le hr.1 hb0.size)).2 0 hn
                simpa using this
              subst hB
              exact heapSays_7 xs.size cap _ _ blk off x0 x1 _ _ (hmake xs) (hpush xs (x0, x1)) (hpop xs) w hbig (beq_eq_false_iff_ne.2 (by omega)) hn hL cRI cRM cMG cE0 cID cRH cK cRX cRP cPG cIP cRO cOG cIR
        · have hn : xs.size = 60 := by omega
          have hP : wrongP xs (x0, x1) = 4 := by unfold wrongP; rw [if_pos hh, if_pos hc, if_neg hf]
          have cP := cPB (by rw [hP]; decide)
          rw [hP] at cP
          rcases hp with hp | ⟨blk, off, rfl, hr⟩
          · omega
          · have hO : wrongO xs = 0 := by unfold wrongO; rw [if_pos hh, if_neg (by omega)]
            have cRO := fun w1 (hb : Below B.heap.size B w1) => refPop_any _ xs w1 (hs0.below hb) h60
            have cOG := fun w1 (hb : Below B.heap.size B w1) => heapPop_good (some ⟨blk, off, none⟩) cap xs w1 (hs0.below hb) hO
            have cIR := cI (hpop xs) (xs.size - 1) (hpop_size xs) (by omega)
            have hL : ∀ w1, Below B.heap.size B w1 → w1.cell? ⟨blk, off, none⟩ = some (.int .i64 xs[0]!.1) ∧ w1.cell? ⟨blk, off + 1, none⟩ = some (.int .i64 xs[0]!.2) := fun w1 hb => by
              have := ((hr.below hb0 hr.1).below hb (Nat.lt_of_lt_of_le hr.1 hb0.size)).2 0 (by omega)
              simpa using this
            rw [hn] at cRI cRM cMG cID cRH cK cP cRO cOG cIR ⊢
            subst hB
            exact heapSays_5 cap _ blk off x0 x1 _ _ (hmake xs) (hpop xs) w hL cRI cRM cMG cE0 cID cRH cK cRX cP (cE 4) cI0 cRO cOG cIR
      · have hP : wrongP xs (x0, x1) = wrong #[(x0, x1)] := by unfold wrongP; rw [if_pos hh, if_neg hc]
        have cP := cPB (by rw [hP]; exact hc)
        have cEc := cE (wrong #[(x0, x1)])
        rw [errV_pos hc] at cEc
        rw [hP] at cP
        rcases Nat.eq_zero_or_pos xs.size with hn | hn
        · have hO : wrongO xs = 5 := by unfold wrongO; rw [if_pos hh, if_pos hn]
          have cO := cOB (by rw [hO]; decide)
          rw [hO] at cO
          rw [hn] at cRI cRM cMG cID cRH cK cP cO ⊢
          subst hB
          exact heapSays_3 p cap _ x0 x1 (hmake xs) w (nat_ne hc) cRI cRM cMG cE0 cID cRH cK cRX cP cEc cI0 cO (cE 5)
        · rcases hp with hp | ⟨blk, off, rfl, hr⟩
          · omega
          · have hO : wrongO xs = 0 := by unfold wrongO; rw [if_pos hh, if_neg (by omega)]
            have cRO := fun w1 (hb : Below B.heap.size B w1) => refPop_any _ xs w1 (hs0.below hb) h60
            have cOG := fun w1 (hb : Below B.heap.size B w1) => heapPop_good (some ⟨blk, off, none⟩) cap xs w1 (hs0.below hb) hO
            have cIR := cI (hpop xs) (xs.size - 1) (hpop_size xs) (by omega)
            have hL : ∀ w1, Below B.heap.size B w1 → w1.cell? ⟨blk, off, none⟩ = some (.int .i64 xs[0]!.1) ∧ w1.cell? ⟨blk, off + 1, none⟩ = some (.int .i64 xs[0]!.2) := fun w1 hb => by
              have := ((hr.below hb0 hr.1).below hb (Nat.lt_of_lt_of_le hr.1 hb0.size)).2 0 hn
              simpa using this
            subst hB
            exact heapSays_4 xs.size cap _ _ blk off x0 x1 _ _ (hmake xs) (hpop xs) w hbig (nat_ne hc) hn hL cRI cRM cMG cE0 cID cRH cK cRX cP cEc cI0 cRO cOG cIR
    · have hP : wrongP xs (x0, x1) = wrongH xs := by unfold wrongP; rw [if_neg hh]
      have hO : wrongO xs = wrongH xs := by unfold wrongO; rw [if_neg hh]
      have cP := cPB (by rw [hP]; exact hh)
      have cO := cOB (by rw [hO]; exact hh)
      have cEh := cE (wrongH xs)
      rw [hP] at cP
      rw [hO] at cO
      rw [errV_pos hh] at cEh cK
      subst hB
      exact heapSays_2 p xs.size cap _ x0 x1 (hmake xs) w hbig (nat_ne hh) cRI cRM cMG cE0 cID cRH cK cEh cI0 cP cO
  · have hH : wrongH xs = wrong xs := by unfold wrongH; rw [if_neg h0]
    have hh : wrongH xs ≠ 0 := by rw [hH]; exact h0
    have hP : wrongP xs (x0, x1) = wrong xs := by unfold wrongP; rw [if_neg hh, hH]
    have hO : wrongO xs = wrong xs := by unfold wrongO; rw [if_neg hh, hH]
    have cMB := fun w1 (hb : Below B.heap.size B w1) => heapMake_bad _ xs w1 (hs0.below hb) hbig _ rfl h0
    have cP := cPB (by rw [hP]; exact h0)
    have cO := cOB (by rw [hO]; exact h0)
    have cEk := cE (wrong xs)
    rw [hP] at cP
    rw [hO] at cO
    rw [hH] at cRH cK
    rw [errV_pos h0] at cEk cK
    subst hB
    exact heapSays_1 p xs.size cap _ x0 x1 w hbig (nat_ne h0) cRI cMB cEk cI0 cRH cK cP cO
#print axioms heapSays_any
end Go.Proofs.YtcjfbenbdjlodaaDoor
