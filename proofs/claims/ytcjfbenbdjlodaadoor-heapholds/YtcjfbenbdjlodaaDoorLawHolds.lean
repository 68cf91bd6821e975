/-
  The law HeapHolds, walked: a heap stays a heap; what is made, pushed and popped is one, with all its items.
-/
import Derived.Test.YtcjfbenbdjlodaaDoorHeapP
import Derived.Test.YtcjfbenbdjlodaaDoorHeapO
import Derived.Test.YtcjfbenbdjlodaaDoorHeapF
import Derived.Test.YtcjfbenbdjlodaaDoorWithW
import Derived.Test.YtcjfbenbdjlodaaDoorSame
import Derived.Test.YtcjfbenbdjlodaaDoorTold
namespace Go.Proofs.YtcjfbenbdjlodaaDoor
open Go.RowKit Go.Sort Go.Proofs

set_option maxHeartbeats 4000000 in
theorem heapHolds_A (p : Option Addr) (n cap k : Nat) (x0 x1 : Int) (w : World) (C1 : Hid (∀ w1, Below w.heap.size w w1 → Calls Tryd.prog 7 #[.slice p n cap] w1 fun e w' => e = .returned (.tuple #[.slice none 0 0, .iface 44 (.int .i64 k)]) ∧ Below w1.heap.size w1 w')) :
    Calls Tryd.prog 4 #[.slice p n cap, .agg #[.int .i64 x0, .int .i64 x1]] w fun e w' => e = .returned (.bool true) ∧ Below w.heap.size w w' := by
  have c0 := heapFact_any (w.alloc (.cells #[.int .i64 x0, .int .i64 x1] 24))
  go_enter Tryd.func4, Tryd.ntmps4
  go_wp2_with fail
  refine c0.mono ?_
  rintro e w1 ⟨rfl, hb1'⟩
  have hb1 := (box_cells hb1').2.2.2
  clear hb1' c0
  go_wp2_with fail
  refine (C1.out w1 hb1).mono ?_
  rintro e w2 ⟨rfl, hb2'⟩
  have hb2 := hb1.trans (hb2'.mono hb1.size)
  go_wp2
  go_ret
  exact ⟨rfl, hb2⟩

set_option maxHeartbeats 8000000 in
set_option maxRecDepth 4000 in
theorem heapHolds_PS (p : Option Addr) (n cap nP nR : Nat) (x0 x1 y0 y1 : Int) (D DP XW R RW : Array (Int × Int)) (w : World) (hn : 0 < n) (hn60 : n ≤ 60)
    (CM1 : Hid (∀ w1, Below (w.alloc (.cells #[.int .i64 x0, .int .i64 x1] 24)).heap.size (w.alloc (.cells #[.int .i64 x0, .int .i64 x1] 24)) w1 → Calls Tryd.prog 7 #[.slice p n cap] w1 fun e w' => ∃ g, e = .returned (.tuple #[.slice (some ⟨g, 0, none⟩) n n, .nilIface]) ∧ RdAt w' g 0 D ∧ Below w1.heap.size w1 w'))
    (CK1 : Hid (∀ w1 g, RdAt w1 g 0 D → Calls Tryd.prog 11 #[.slice (some ⟨g, 0, none⟩) n n] w1 fun e w' => e = .returned .nilIface ∧ Below w1.heap.size w1 w'))
    (CB1 : Hid (∀ w1 g, Below (w.alloc (.cells #[.int .i64 x0, .int .i64 x1] 24)).heap.size (w.alloc (.cells #[.int .i64 x0, .int .i64 x1] 24)) w1 → RdAt w1 g 0 D → Calls Tryd.prog 17 #[.slice (some ⟨g, 0, none⟩) n n, .slice p n cap] w1 fun e w' => e = .returned (.bool true) ∧ Below w1.heap.size w1 w'))
    (CM2 : Hid (∀ w1 g, RdAt w1 g 0 D → Calls Tryd.prog 7 #[.slice (some ⟨g, 0, none⟩) n n] w1 fun e w' => ∃ g2, e = .returned (.tuple #[.slice (some ⟨g2, 0, none⟩) n n, .nilIface]) ∧ RdAt w' g2 0 D ∧ Below w1.heap.size w1 w'))
    (CI1 : Hid (∀ w1 g g2, RdAt w1 g 0 D → RdAt w1 g2 0 D → Calls Tryd.prog 9 #[.slice (some ⟨g2, 0, none⟩) n n, .slice (some ⟨g, 0, none⟩) n n] w1 fun e w' => e = .returned (.bool true) ∧ Below w1.heap.size w1 w'))
    (CPG : Hid (∀ w1 g, RdAt w1 g 0 D → Calls Tryd.prog 13 #[.slice (some ⟨g, 0, none⟩) n n, .agg #[.int .i64 x0, .int .i64 x1]] w1 fun e w' => ∃ g3, e = .returned (.tuple #[.slice (some ⟨g3, 0, none⟩) nP nP, .nilIface]) ∧ RdAt w' g3 0 DP ∧ Below w1.heap.size w1 w'))
    (CK2 : Hid (∀ w1 g, RdAt w1 g 0 DP → Calls Tryd.prog 11 #[.slice (some ⟨g, 0, none⟩) nP nP] w1 fun e w' => e = .returned .nilIface ∧ Below w1.heap.size w1 w'))
    (CW1 : Hid (∀ w1, Below (w.alloc (.cells #[.int .i64 x0, .int .i64 x1] 24)).heap.size (w.alloc (.cells #[.int .i64 x0, .int .i64 x1] 24)) w1 → Calls Tryd.prog 18 #[.slice p n cap, .agg #[.int .i64 x0, .int .i64 x1]] w1 fun e w' => ∃ u, e = .returned u ∧ Sl w' u XW ∧ Below w1.heap.size w1 w'))
    (CB2 : Hid (∀ w1 g u, RdAt w1 g 0 DP → Sl w1 u XW → Calls Tryd.prog 17 #[.slice (some ⟨g, 0, none⟩) nP nP, u] w1 fun e w' => e = .returned (.bool true) ∧ Below w1.heap.size w1 w'))
    (COG : Hid (∀ w1 g, RdAt w1 g 0 D → Calls Tryd.prog 15 #[.slice (some ⟨g, 0, none⟩) n n] w1 fun e w' => ∃ g4, e = .returned (.tuple #[.agg #[.int .i64 y0, .int .i64 y1], .slice (some ⟨g4, 0, none⟩) nR nR, .nilIface]) ∧ RdAt w' g4 0 R ∧ Below w1.heap.size w1 w'))
    (CK3 : Hid (∀ w1 g, RdAt w1 g 0 R → Calls Tryd.prog 11 #[.slice (some ⟨g, 0, none⟩) nR nR] w1 fun e w' => e = .returned .nilIface ∧ Below w1.heap.size w1 w'))
    (CW2 : Hid (∀ w1 g, RdAt w1 g 0 R → Calls Tryd.prog 18 #[.slice (some ⟨g, 0, none⟩) nR nR, .agg #[.int .i64 y0, .int .i64 y1]] w1 fun e w' => ∃ u, e = .returned u ∧ Sl w' u RW ∧ Below w1.heap.size w1 w'))
    (CB3 : Hid (∀ w1 u, Below (w.alloc (.cells #[.int .i64 x0, .int .i64 x1] 24)).heap.size (w.alloc (.cells #[.int .i64 x0, .int .i64 x1] 24)) w1 → Sl w1 u RW → Calls Tryd.prog 17 #[u, .slice p n cap] w1 fun e w' => e = .returned (.bool true) ∧ Below w1.heap.size w1 w')) :
    Calls Tryd.prog 4 #[.slice p n cap, .agg #[.int .i64 x0, .int .i64 x1]] w fun e w' => e = .returned (.bool true) ∧ Below w.heap.size w w' := by
  have hq : ((n : Int) == 0) = false := beq_eq_false_iff_ne.2 (by omega)
  have c0 := heapFact_any (w.alloc (.cells #[.int .i64 x0, .int .i64 x1] 24))
  go_enter Tryd.func4, Tryd.ntmps4
  go_wp2_with fail
  refine c0.mono ?_
  rintro e w1 ⟨rfl, hb1⟩
  clear c0
  go_wp2_with fail
  refine (CM1.out w1 hb1).mono ?_
  rintro e w2 ⟨g, rfl, hrd, hb'⟩
  have hb2 := hb1.trans (hb'.mono hb1.size)
  have Hg2 : Hid (RdAt w2 g 0 D) := hrd
  clear hrd
  clear hb'
  go_wp2_with fail
  refine (CK1.out w2 g Hg2.out).mono ?_
  rintro e w3 ⟨rfl, hb'⟩
  have hb3 := hb2.trans (hb'.mono hb2.size)
  have Hg3 : Hid (RdAt w3 g 0 D) := Hg2.out.below hb' Hg2.out.1
  clear hb'
  go_wp2_with fail
  refine (CB1.out w3 g hb3 Hg3.out).mono ?_
  rintro e w4 ⟨rfl, hb'⟩
  have hb4 := hb3.trans (hb'.mono hb3.size)
  have Hg4 : Hid (RdAt w4 g 0 D) := Hg3.out.below hb' Hg3.out.1
  clear hb'
  go_wp2_with fail
  refine (CM2.out w4 g Hg4.out).mono ?_
  rintro e w5 ⟨g2, rfl, hrd, hb'⟩
  have hb5 := hb4.trans (hb'.mono hb4.size)
  have Hg5 : Hid (RdAt w5 g 0 D) := Hg4.out.below hb' Hg4.out.1
  have Hg25 : Hid (RdAt w5 g2 0 D) := hrd
  clear hrd
  clear hb'
  go_wp2_with fail
  refine (CI1.out w5 g g2 Hg5.out Hg25.out).mono ?_
  rintro e w6 ⟨rfl, hb'⟩
  have hb6 := hb5.trans (hb'.mono hb5.size)
  have Hg6 : Hid (RdAt w6 g 0 D) := Hg5.out.below hb' Hg5.out.1
  have Hg26 : Hid (RdAt w6 g2 0 D) := Hg25.out.below hb' Hg25.out.1
  clear hb'
  obtain ⟨b0, b1, hlt, hbw⟩ := box_cells hb6
  go_wp2_with fail
  refine (CPG.out w6 g Hg6.out).mono ?_
  rintro e w7 ⟨g3, rfl, hrd, hb'⟩
  have hb7 := hb6.trans (hb'.mono hb6.size)
  have Hg7 : Hid (RdAt w7 g 0 D) := Hg6.out.below hb' Hg6.out.1
  have Hg37 : Hid (RdAt w7 g3 0 DP) := hrd
  clear hrd
  clear hb'
  clear b0 b1 hlt hbw
  go_wp2_with fail
  refine (CK2.out w7 g3 Hg37.out).mono ?_
  rintro e w8 ⟨rfl, hb'⟩
  have hb8 := hb7.trans (hb'.mono hb7.size)
  have Hg8 : Hid (RdAt w8 g 0 D) := Hg7.out.below hb' Hg7.out.1
  have Hg38 : Hid (RdAt w8 g3 0 DP) := Hg37.out.below hb' Hg37.out.1
  clear hb'
  obtain ⟨b0, b1, hlt, hbw⟩ := box_cells hb8
  go_wp2_with fail
  refine (CW1.out w8 hb8).mono ?_
  rintro e w9 ⟨u, rfl, hsl, hb'⟩
  have hb9 := hb8.trans (hb'.mono hb8.size)
  have Hg9 : Hid (RdAt w9 g 0 D) := Hg8.out.below hb' Hg8.out.1
  have Hg39 : Hid (RdAt w9 g3 0 DP) := Hg38.out.below hb' Hg38.out.1
  have Hu9 : Hid (Sl w9 u XW) := hsl
  clear hsl
  clear hb'
  clear b0 b1 hlt hbw
  go_wp2_with fail
  refine (CB2.out w9 g3 u Hg39.out Hu9.out).mono ?_
  rintro e w10 ⟨rfl, hb'⟩
  have hb10 := hb9.trans (hb'.mono hb9.size)
  have Hg10 : Hid (RdAt w10 g 0 D) := Hg9.out.below hb' Hg9.out.1
  have Hg310 : Hid (RdAt w10 g3 0 DP) := Hg39.out.below hb' Hg39.out.1
  have Hu10 : Hid (Sl w10 u XW) := Hu9.out.below hb'
  clear hb'
  go_wp2_with fail
  refine (COG.out w10 g Hg10.out).mono ?_
  rintro e w11 ⟨g4, rfl, hrd, hb'⟩
  have hb11 := hb10.trans (hb'.mono hb10.size)
  have Hg11 : Hid (RdAt w11 g 0 D) := Hg10.out.below hb' Hg10.out.1
  have Hg411 : Hid (RdAt w11 g4 0 R) := hrd
  clear hrd
  clear hb'
  have hbx : Below (w.alloc (.cells #[.int .i64 x0, .int .i64 x1] 24)).heap.size (w.alloc (.cells #[.int .i64 x0, .int .i64 x1] 24)) (w11.alloc (.cells #[.int .i64 y0, .int .i64 y1] 24)) := hb11.alloc hb11.size _
  have Hg4x : Hid (RdAt (w11.alloc (.cells #[.int .i64 y0, .int .i64 y1] 24)) g4 0 R) := Hg411.out.below ((Below.refl w11.heap.size w11).alloc (Nat.le_refl _) _) Hg411.out.1
  have ky0 : (w11.alloc (.cells #[.int .i64 y0, .int .i64 y1] 24)).cell? ⟨w11.heap.size, 0, none⟩ = some (.int .i64 y0) := by simp
  have ky1 : (w11.alloc (.cells #[.int .i64 y0, .int .i64 y1] 24)).cell? ⟨w11.heap.size, 1, none⟩ = some (.int .i64 y1) := by simp
  have kyl : w11.heap.size < (w11.alloc (.cells #[.int .i64 y0, .int .i64 y1] 24)).heap.size := by simp
  go_wp2_with fail
  refine (CK3.out _ g4 Hg4x.out).mono ?_
  rintro e wk ⟨rfl, hb'⟩
  have hbk := hbx.trans (hb'.mono hbx.size)
  have Hg4k : Hid (RdAt wk g4 0 R) := Hg4x.out.below hb' Hg4x.out.1
  have cy0 := (hb'.cell (p := ⟨w11.heap.size, 0, none⟩) kyl).trans ky0
  have cy1 := (hb'.cell (p := ⟨w11.heap.size, 1, none⟩) kyl).trans ky1
  clear hb' ky0 ky1 kyl Hg4x hbx
  go_wp2_with fail
  refine (CW2.out wk g4 Hg4k.out).mono ?_
  rintro e wl ⟨u5, rfl, hsl, hb'⟩
  have hbl := hbk.trans (hb'.mono hbk.size)
  have Hu5 : Hid (Sl wl u5 RW) := hsl
  clear hsl hb' cy0 cy1
  go_wp2_with fail
  refine (CB3.out wl u5 hbl Hu5.out).mono ?_
  rintro e wm ⟨rfl, hb'⟩
  have hbm := hbl.trans (hb'.mono hbl.size)
  clear hb'
  go_wp2
  go_ret
  exact ⟨rfl, (box_cells hbm).2.2.2⟩

set_option maxHeartbeats 8000000 in
set_option maxRecDepth 4000 in
theorem heapHolds_PN (p : Option Addr) (n cap nP : Nat) (x0 x1 : Int) (D DP XW : Array (Int × Int)) (w : World) (hn : n = 0) (hn60 : n ≤ 60)
    (CM1 : Hid (∀ w1, Below (w.alloc (.cells #[.int .i64 x0, .int .i64 x1] 24)).heap.size (w.alloc (.cells #[.int .i64 x0, .int .i64 x1] 24)) w1 → Calls Tryd.prog 7 #[.slice p n cap] w1 fun e w' => ∃ g, e = .returned (.tuple #[.slice (some ⟨g, 0, none⟩) n n, .nilIface]) ∧ RdAt w' g 0 D ∧ Below w1.heap.size w1 w'))
    (CK1 : Hid (∀ w1 g, RdAt w1 g 0 D → Calls Tryd.prog 11 #[.slice (some ⟨g, 0, none⟩) n n] w1 fun e w' => e = .returned .nilIface ∧ Below w1.heap.size w1 w'))
    (CB1 : Hid (∀ w1 g, Below (w.alloc (.cells #[.int .i64 x0, .int .i64 x1] 24)).heap.size (w.alloc (.cells #[.int .i64 x0, .int .i64 x1] 24)) w1 → RdAt w1 g 0 D → Calls Tryd.prog 17 #[.slice (some ⟨g, 0, none⟩) n n, .slice p n cap] w1 fun e w' => e = .returned (.bool true) ∧ Below w1.heap.size w1 w'))
    (CM2 : Hid (∀ w1 g, RdAt w1 g 0 D → Calls Tryd.prog 7 #[.slice (some ⟨g, 0, none⟩) n n] w1 fun e w' => ∃ g2, e = .returned (.tuple #[.slice (some ⟨g2, 0, none⟩) n n, .nilIface]) ∧ RdAt w' g2 0 D ∧ Below w1.heap.size w1 w'))
    (CI1 : Hid (∀ w1 g g2, RdAt w1 g 0 D → RdAt w1 g2 0 D → Calls Tryd.prog 9 #[.slice (some ⟨g2, 0, none⟩) n n, .slice (some ⟨g, 0, none⟩) n n] w1 fun e w' => e = .returned (.bool true) ∧ Below w1.heap.size w1 w'))
    (CPG : Hid (∀ w1 g, RdAt w1 g 0 D → Calls Tryd.prog 13 #[.slice (some ⟨g, 0, none⟩) n n, .agg #[.int .i64 x0, .int .i64 x1]] w1 fun e w' => ∃ g3, e = .returned (.tuple #[.slice (some ⟨g3, 0, none⟩) nP nP, .nilIface]) ∧ RdAt w' g3 0 DP ∧ Below w1.heap.size w1 w'))
    (CK2 : Hid (∀ w1 g, RdAt w1 g 0 DP → Calls Tryd.prog 11 #[.slice (some ⟨g, 0, none⟩) nP nP] w1 fun e w' => e = .returned .nilIface ∧ Below w1.heap.size w1 w'))
    (CW1 : Hid (∀ w1, Below (w.alloc (.cells #[.int .i64 x0, .int .i64 x1] 24)).heap.size (w.alloc (.cells #[.int .i64 x0, .int .i64 x1] 24)) w1 → Calls Tryd.prog 18 #[.slice p n cap, .agg #[.int .i64 x0, .int .i64 x1]] w1 fun e w' => ∃ u, e = .returned u ∧ Sl w' u XW ∧ Below w1.heap.size w1 w'))
    (CB2 : Hid (∀ w1 g u, RdAt w1 g 0 DP → Sl w1 u XW → Calls Tryd.prog 17 #[.slice (some ⟨g, 0, none⟩) nP nP, u] w1 fun e w' => e = .returned (.bool true) ∧ Below w1.heap.size w1 w'))
    (COB : Hid (∀ w1 g, RdAt w1 g 0 D → Calls Tryd.prog 15 #[.slice (some ⟨g, 0, none⟩) n n] w1 fun e w' => e = .returned (.tuple #[.agg #[.int .i64 0, .int .i64 0], .slice none 0 0, .iface 44 (.int .i64 5)]) ∧ Below w1.heap.size w1 w'))
    (CE1 : Hid (∀ w1, Below (w.alloc (.cells #[.int .i64 x0, .int .i64 x1] 24)).heap.size (w.alloc (.cells #[.int .i64 x0, .int .i64 x1] 24)) w1 → Calls Tryd.prog 8 #[.iface 44 (.int .i64 5), .int .i64 5] w1 fun e w' => e = .returned (.bool true) ∧ Below w1.heap.size w1 w')) :
    Calls Tryd.prog 4 #[.slice p n cap, .agg #[.int .i64 x0, .int .i64 x1]] w fun e w' => e = .returned (.bool true) ∧ Below w.heap.size w w' := by
  subst hn
  have c0 := heapFact_any (w.alloc (.cells #[.int .i64 x0, .int .i64 x1] 24))
  go_enter Tryd.func4, Tryd.ntmps4
  go_wp2_with fail
  refine c0.mono ?_
  rintro e w1 ⟨rfl, hb1⟩
  clear c0
  go_wp2_with fail
  refine (CM1.out w1 hb1).mono ?_
  rintro e w2 ⟨g, rfl, hrd, hb'⟩
  have hb2 := hb1.trans (hb'.mono hb1.size)
  have Hg2 : Hid (RdAt w2 g 0 D) := hrd
  clear hrd
  clear hb'
  go_wp2_with fail
  refine (CK1.out w2 g Hg2.out).mono ?_
  rintro e w3 ⟨rfl, hb'⟩
  have hb3 := hb2.trans (hb'.mono hb2.size)
  have Hg3 : Hid (RdAt w3 g 0 D) := Hg2.out.below hb' Hg2.out.1
  clear hb'
  go_wp2_with fail
  refine (CB1.out w3 g hb3 Hg3.out).mono ?_
  rintro e w4 ⟨rfl, hb'⟩
  have hb4 := hb3.trans (hb'.mono hb3.size)
  have Hg4 : Hid (RdAt w4 g 0 D) := Hg3.out.below hb' Hg3.out.1
  clear hb'
  go_wp2_with fail
  refine (CM2.out w4 g Hg4.out).mono ?_
  rintro e w5 ⟨g2, rfl, hrd, hb'⟩
  have hb5 := hb4.trans (hb'.mono hb4.size)
  have Hg5 : Hid (RdAt w5 g 0 D) := Hg4.out.below hb' Hg4.out.1
  have Hg25 : Hid (RdAt w5 g2 0 D) := hrd
  clear hrd
  clear hb'
  go_wp2_with fail
  refine (CI1.out w5 g g2 Hg5.out Hg25.out).mono ?_
  rintro e w6 ⟨rfl, hb'⟩
  have hb6 := hb5.trans (hb'.mono hb5.size)
  have Hg6 : Hid (RdAt w6 g 0 D) := Hg5.out.below hb' Hg5.out.1
  have Hg26 : Hid (RdAt w6 g2 0 D) := Hg25.out.below hb' Hg25.out.1
  clear hb'
  obtain ⟨b0, b1, hlt, hbw⟩ := box_cells hb6
  go_wp2_with fail
  refine (CPG.out w6 g Hg6.out).mono ?_
  rintro e w7 ⟨g3, rfl, hrd, hb'⟩
  have hb7 := hb6.trans (hb'.mono hb6.size)
  have Hg7 : Hid (RdAt w7 g 0 D) := Hg6.out.below hb' Hg6.out.1
  have Hg37 : Hid (RdAt w7 g3 0 DP) := hrd
  clear hrd
  clear hb'
  clear b0 b1 hlt hbw
  go_wp2_with fail
  refine (CK2.out w7 g3 Hg37.out).mono ?_
  rintro e w8 ⟨rfl, hb'⟩
  have hb8 := hb7.trans (hb'.mono hb7.size)
  have Hg8 : Hid (RdAt w8 g 0 D) := Hg7.out.below hb' Hg7.out.1
  have Hg38 : Hid (RdAt w8 g3 0 DP) := Hg37.out.below hb' Hg37.out.1
  clear hb'
  obtain ⟨b0, b1, hlt, hbw⟩ := box_cells hb8
  go_wp2_with fail
  refine (CW1.out w8 hb8).mono ?_
  rintro e w9 ⟨u, rfl, hsl, hb'⟩
  have hb9 := hb8.trans (hb'.mono hb8.size)
  have Hg9 : Hid (RdAt w9 g 0 D) := Hg8.out.below hb' Hg8.out.1
  have Hg39 : Hid (RdAt w9 g3 0 DP) := Hg38.out.below hb' Hg38.out.1
  have Hu9 : Hid (Sl w9 u XW) := hsl
  clear hsl
  clear hb'
  clear b0 b1 hlt hbw
  go_wp2_with fail
  refine (CB2.out w9 g3 u Hg39.out Hu9.out).mono ?_
  rintro e w10 ⟨rfl, hb'⟩
  have hb10 := hb9.trans (hb'.mono hb9.size)
  have Hg10 : Hid (RdAt w10 g 0 D) := Hg9.out.below hb' Hg9.out.1
  have Hg310 : Hid (RdAt w10 g3 0 DP) := Hg39.out.below hb' Hg39.out.1
  have Hu10 : Hid (Sl w10 u XW) := Hu9.out.below hb'
  clear hb'
  go_wp2_with fail
  refine (COB.out w10 g Hg10.out).mono ?_
  rintro e w11 ⟨rfl, hb'⟩
  have hb11 := hb10.trans (hb'.mono hb10.size)
  have Hg11 : Hid (RdAt w11 g 0 D) := Hg10.out.below hb' Hg10.out.1
  clear hb'
  have hbx : Below (w.alloc (.cells #[.int .i64 x0, .int .i64 x1] 24)).heap.size (w.alloc (.cells #[.int .i64 x0, .int .i64 x1] 24)) (w11.alloc (.cells #[.int .i64 0, .int .i64 0] 24)) := hb11.alloc hb11.size _
  go_wp2_with fail
  refine (CE1.out _ hbx).mono ?_
  rintro e wk ⟨rfl, hb'⟩
  have hbk := hbx.trans (hb'.mono hbx.size)
  clear hb'
  go_wp2
  go_ret
  exact ⟨rfl, (box_cells hbk).2.2.2⟩

set_option maxHeartbeats 8000000 in
set_option maxRecDepth 4000 in
theorem heapHolds_QS (p : Option Addr) (n cap k nR : Nat) (x0 x1 y0 y1 : Int) (D R RW : Array (Int × Int)) (w : World) (hn : 0 < n) (hn60 : n ≤ 60)
    (CM1 : Hid (∀ w1, Below (w.alloc (.cells #[.int .i64 x0, .int .i64 x1] 24)).heap.size (w.alloc (.cells #[.int .i64 x0, .int .i64 x1] 24)) w1 → Calls Tryd.prog 7 #[.slice p n cap] w1 fun e w' => ∃ g, e = .returned (.tuple #[.slice (some ⟨g, 0, none⟩) n n, .nilIface]) ∧ RdAt w' g 0 D ∧ Below w1.heap.size w1 w'))
    (CK1 : Hid (∀ w1 g, RdAt w1 g 0 D → Calls Tryd.prog 11 #[.slice (some ⟨g, 0, none⟩) n n] w1 fun e w' => e = .returned .nilIface ∧ Below w1.heap.size w1 w'))
    (CB1 : Hid (∀ w1 g, Below (w.alloc (.cells #[.int .i64 x0, .int .i64 x1] 24)).heap.size (w.alloc (.cells #[.int .i64 x0, .int .i64 x1] 24)) w1 → RdAt w1 g 0 D → Calls Tryd.prog 17 #[.slice (some ⟨g, 0, none⟩) n n, .slice p n cap] w1 fun e w' => e = .returned (.bool true) ∧ Below w1.heap.size w1 w'))
    (CM2 : Hid (∀ w1 g, RdAt w1 g 0 D → Calls Tryd.prog 7 #[.slice (some ⟨g, 0, none⟩) n n] w1 fun e w' => ∃ g2, e = .returned (.tuple #[.slice (some ⟨g2, 0, none⟩) n n, .nilIface]) ∧ RdAt w' g2 0 D ∧ Below w1.heap.size w1 w'))
    (CI1 : Hid (∀ w1 g g2, RdAt w1 g 0 D → RdAt w1 g2 0 D → Calls Tryd.prog 9 #[.slice (some ⟨g2, 0, none⟩) n n, .slice (some ⟨g, 0, none⟩) n n] w1 fun e w' => e = .returned (.bool true) ∧ Below w1.heap.size w1 w'))
    (CPB : Hid (∀ w1 g, RdAt w1 g 0 D → Calls Tryd.prog 13 #[.slice (some ⟨g, 0, none⟩) n n, .agg #[.int .i64 x0, .int .i64 x1]] w1 fun e w' => e = .returned (.tuple #[.slice none 0 0, .iface 44 (.int .i64 k)]) ∧ Below w1.heap.size w1 w'))
    (COG : Hid (∀ w1 g, RdAt w1 g 0 D → Calls Tryd.prog 15 #[.slice (some ⟨g, 0, none⟩) n n] w1 fun e w' => ∃ g4, e = .returned (.tuple #[.agg #[.int .i64 y0, .int .i64 y1], .slice (some ⟨g4, 0, none⟩) nR nR, .nilIface]) ∧ RdAt w' g4 0 R ∧ Below w1.heap.size w1 w'))
    (CK3 : Hid (∀ w1 g, RdAt w1 g 0 R → Calls Tryd.prog 11 #[.slice (some ⟨g, 0, none⟩) nR nR] w1 fun e w' => e = .returned .nilIface ∧ Below w1.heap.size w1 w'))
    (CW2 : Hid (∀ w1 g, RdAt w1 g 0 R → Calls Tryd.prog 18 #[.slice (some ⟨g, 0, none⟩) nR nR, .agg #[.int .i64 y0, .int .i64 y1]] w1 fun e w' => ∃ u, e = .returned u ∧ Sl w' u RW ∧ Below w1.heap.size w1 w'))
    (CB3 : Hid (∀ w1 u, Below (w.alloc (.cells #[.int .i64 x0, .int .i64 x1] 24)).heap.size (w.alloc (.cells #[.int .i64 x0, .int .i64 x1] 24)) w1 → Sl w1 u RW → Calls Tryd.prog 17 #[u, .slice p n cap] w1 fun e w' => e = .returned (.bool true) ∧ Below w1.heap.size w1 w')) :
    Calls Tryd.prog 4 #[.slice p n cap, .agg #[.int .i64 x0, .int .i64 x1]] w fun e w' => e = .returned (.bool true) ∧ Below w.heap.size w w' := by
  have hq : ((n : Int) == 0) = false := beq_eq_false_iff_ne.2 (by omega)
  have c0 := heapFact_any (w.alloc (.cells #[.int .i64 x0, .int .i64 x1] 24))
  go_enter Tryd.func4, Tryd.ntmps4
  go_wp2_with fail
  refine c0.mono ?_
  rintro e w1 ⟨rfl, hb1⟩
  clear c0
  go_wp2_with fail
  refine (CM1.out w1 hb1).mono ?_
  rintro e w2 ⟨g, rfl, hrd, hb'⟩
  have hb2 := hb1.trans (hb'.mono hb1.size)
  have Hg2 : Hid (RdAt w2 g 0 D) := hrd
  clear hrd
  clear hb'
  go_wp2_with fail
  refine (CK1.out w2 g Hg2.out).mono ?_
  rintro e w3 ⟨rfl, hb'⟩
  have hb3 := hb2.trans (hb'.mono hb2.size)
  have Hg3 : Hid (RdAt w3 g 0 D) := Hg2.out.below hb' Hg2.out.1
  clear hb'
  go_wp2_with fail
  refine (CB1.out w3 g hb3 Hg3.out).mono ?_
  rintro e w4 ⟨rfl, hb'⟩
  have hb4 := hb3.trans (hb'.mono hb3.size)
  have Hg4 : Hid (RdAt w4 g 0 D) := Hg3.out.below hb' Hg3.out.1
  clear hb'
  go_wp2_with fail
  refine (CM2.out w4 g Hg4.out).mono ?_
  rintro e w5 ⟨g2, rfl, hrd, hb'⟩
  have hb5 := hb4.trans (hb'.mono hb4.size)
  have Hg5 : Hid (RdAt w5 g 0 D) := Hg4.out.below hb' Hg4.out.1
  have Hg25 : Hid (RdAt w5 g2 0 D) := hrd
  clear hrd
  clear hb'
  go_wp2_with fail
  refine (CI1.out w5 g g2 Hg5.out Hg25.out).mono ?_
  rintro e w6 ⟨rfl, hb'⟩
  have hb6 := hb5.trans (hb'.mono hb5.size)
  have Hg6 : Hid (RdAt w6 g 0 D) := Hg5.out.below hb' Hg5.out.1
  have Hg26 : Hid (RdAt w6 g2 0 D) := Hg25.out.below hb' Hg25.out.1
  clear hb'
  obtain ⟨b0, b1, hlt, hbw⟩ := box_cells hb6
  go_wp2_with fail
  refine (CPB.out w6 g Hg6.out).mono ?_
  rintro e w7 ⟨rfl, hb'⟩
  have hb7 := hb6.trans (hb'.mono hb6.size)
  have Hg7 : Hid (RdAt w7 g 0 D) := Hg6.out.below hb' Hg6.out.1
  clear hb'
  clear b0 b1 hlt hbw
  go_wp2_with fail
  refine (COG.out w7 g Hg7.out).mono ?_
  rintro e w8 ⟨g4, rfl, hrd, hb'⟩
  have hb8 := hb7.trans (hb'.mono hb7.size)
  have Hg8 : Hid (RdAt w8 g 0 D) := Hg7.out.below hb' Hg7.out.1
  have Hg48 : Hid (RdAt w8 g4 0 R) := hrd
  clear hrd
  clear hb'
  have hbx : Below (w.alloc (.cells #[.int .i64 x0, .int .i64 x1] 24)).heap.size (w.alloc (.cells #[.int .i64 x0, .int .i64 x1] 24)) (w8.alloc (.cells #[.int .i64 y0, .int .i64 y1] 24)) := hb8.alloc hb8.size _
  have Hg4x : Hid (RdAt (w8.alloc (.cells #[.int .i64 y0, .int .i64 y1] 24)) g4 0 R) := Hg48.out.below ((Below.refl w8.heap.size w8).alloc (Nat.le_refl _) _) Hg48.out.1
  have ky0 : (w8.alloc (.cells #[.int .i64 y0, .int .i64 y1] 24)).cell? ⟨w8.heap.size, 0, none⟩ = some (.int .i64 y0) := by simp
  have ky1 : (w8.alloc (.cells #[.int .i64 y0, .int .i64 y1] 24)).cell? ⟨w8.heap.size, 1, none⟩ = some (.int .i64 y1) := by simp
  have kyl : w8.heap.size < (w8.alloc (.cells #[.int .i64 y0, .int .i64 y1] 24)).heap.size := by simp
  go_wp2_with fail
  refine (CK3.out _ g4 Hg4x.out).mono ?_
  rintro e wk ⟨rfl, hb'⟩
  have hbk := hbx.trans (hb'.mono hbx.size)
  have Hg4k : Hid (RdAt wk g4 0 R) := Hg4x.out.below hb' Hg4x.out.1
  have cy0 := (hb'.cell (p := ⟨w8.heap.size, 0, none⟩) kyl).trans ky0
  have cy1 := (hb'.cell (p := ⟨w8.heap.size, 1, none⟩) kyl).trans ky1
  clear hb' ky0 ky1 kyl Hg4x hbx
  go_wp2_with fail
  refine (CW2.out wk g4 Hg4k.out).mono ?_
  rintro e wl ⟨u5, rfl, hsl, hb'⟩
  have hbl := hbk.trans (hb'.mono hbk.size)
  have Hu5 : Hid (Sl wl u5 RW) := hsl
  clear hsl hb' cy0 cy1
  go_wp2_with fail
  refine (CB3.out wl u5 hbl Hu5.out).mono ?_
  rintro e wm ⟨rfl, hb'⟩
  have hbm := hbl.trans (hb'.mono hbl.size)
  clear hb'
  go_wp2
  go_ret
  exact ⟨rfl, (box_cells hbm).2.2.2⟩

set_option maxHeartbeats 8000000 in
set_option maxRecDepth 4000 in
theorem heapHolds_QN (p : Option Addr) (n cap k : Nat) (x0 x1 : Int) (D : Array (Int × Int)) (w : World) (hn : n = 0) (hn60 : n ≤ 60)
    (CM1 : Hid (∀ w1, Below (w.alloc (.cells #[.int .i64 x0, .int .i64 x1] 24)).heap.size (w.alloc (.cells #[.int .i64 x0, .int .i64 x1] 24)) w1 → Calls Tryd.prog 7 #[.slice p n cap] w1 fun e w' => ∃ g, e = .returned (.tuple #[.slice (some ⟨g, 0, none⟩) n n, .nilIface]) ∧ RdAt w' g 0 D ∧ Below w1.heap.size w1 w'))
    (CK1 : Hid (∀ w1 g, RdAt w1 g 0 D → Calls Tryd.prog 11 #[.slice (some ⟨g, 0, none⟩) n n] w1 fun e w' => e = .returned .nilIface ∧ Below w1.heap.size w1 w'))
    (CB1 : Hid (∀ w1 g, Below (w.alloc (.cells #[.int .i64 x0, .int .i64 x1] 24)).heap.size (w.alloc (.cells #[.int .i64 x0, .int .i64 x1] 24)) w1 → RdAt w1 g 0 D → Calls Tryd.prog 17 #[.slice (some ⟨g, 0, none⟩) n n, .slice p n cap] w1 fun e w' => e = .returned (.bool true) ∧ Below w1.heap.size w1 w'))
    (CM2 : Hid (∀ w1 g, RdAt w1 g 0 D → Calls Tryd.prog 7 #[.slice (some ⟨g, 0, none⟩) n n] w1 fun e w' => ∃ g2, e = .returned (.tuple #[.slice (some ⟨g2, 0, none⟩) n n, .nilIface]) ∧ RdAt w' g2 0 D ∧ Below w1.heap.size w1 w'))
    (CI1 : Hid (∀ w1 g g2, RdAt w1 g 0 D → RdAt w1 g2 0 D → Calls Tryd.prog 9 #[.slice (some ⟨g2, 0, none⟩) n n, .slice (some ⟨g, 0, none⟩) n n] w1 fun e w' => e = .returned (.bool true) ∧ Below w1.heap.size w1 w'))
    (CPB : Hid (∀ w1 g, RdAt w1 g 0 D → Calls Tryd.prog 13 #[.slice (some ⟨g, 0, none⟩) n n, .agg #[.int .i64 x0, .int .i64 x1]] w1 fun e w' => e = .returned (.tuple #[.slice none 0 0, .iface 44 (.int .i64 k)]) ∧ Below w1.heap.size w1 w'))
    (COB : Hid (∀ w1 g, RdAt w1 g 0 D → Calls Tryd.prog 15 #[.slice (some ⟨g, 0, none⟩) n n] w1 fun e w' => e = .returned (.tuple #[.agg #[.int .i64 0, .int .i64 0], .slice none 0 0, .iface 44 (.int .i64 5)]) ∧ Below w1.heap.size w1 w'))
    (CE1 : Hid (∀ w1, Below (w.alloc (.cells #[.int .i64 x0, .int .i64 x1] 24)).heap.size (w.alloc (.cells #[.int .i64 x0, .int .i64 x1] 24)) w1 → Calls Tryd.prog 8 #[.iface 44 (.int .i64 5), .int .i64 5] w1 fun e w' => e = .returned (.bool true) ∧ Below w1.heap.size w1 w')) :
    Calls Tryd.prog 4 #[.slice p n cap, .agg #[.int .i64 x0, .int .i64 x1]] w fun e w' => e = .returned (.bool true) ∧ Below w.heap.size w w' := by
  subst hn
  have c0 := heapFact_any (w.alloc (.cells #[.int .i64 x0, .int .i64 x1] 24))
  go_enter Tryd.func4, Tryd.ntmps4
  go_wp2_with fail
  refine c0.mono ?_
  rintro e w1 ⟨rfl, hb1⟩
  clear c0
  go_wp2_with fail
  refine (CM1.out w1 hb1).mono ?_
  rintro e w2 ⟨g, rfl, hrd, hb'⟩
  have hb2 := hb1.trans (hb'.mono hb1.size)
  have Hg2 : Hid (RdAt w2 g 0 D) := hrd
  clear hrd
  clear hb'
  go_wp2_with fail
  refine (CK1.out w2 g Hg2.out).mono ?_
  rintro e w3 ⟨rfl, hb'⟩
  have hb3 := hb2.trans (hb'.mono hb2.size)
  have Hg3 : Hid (RdAt w3 g 0 D) := Hg2.out.below hb' Hg2.out.1
  clear hb'
  go_wp2_with fail
  refine (CB1.out w3 g hb3 Hg3.out).mono ?_
  rintro e w4 ⟨rfl, hb'⟩
  have hb4 := hb3.trans (hb'.mono hb3.size)
  have Hg4 : Hid (RdAt w4 g 0 D) := Hg3.out.below hb' Hg3.out.1
  clear hb'
  go_wp2_with fail
  refine (CM2.out w4 g Hg4.out).mono ?_
  rintro e w5 ⟨g2, rfl, hrd, hb'⟩
  have hb5 := hb4.trans (hb'.mono hb4.size)
  have Hg5 : Hid (RdAt w5 g 0 D) := Hg4.out.below hb' Hg4.out.1
  have Hg25 : Hid (RdAt w5 g2 0 D) := hrd
  clear hrd
  clear hb'
  go_wp2_with fail
  refine (CI1.out w5 g g2 Hg5.out Hg25.out).mono ?_
  rintro e w6 ⟨rfl, hb'⟩
  have hb6 := hb5.trans (hb'.mono hb5.size)
  have Hg6 : Hid (RdAt w6 g 0 D) := Hg5.out.below hb' Hg5.out.1
  have Hg26 : Hid (RdAt w6 g2 0 D) := Hg25.out.below hb' Hg25.out.1
  clear hb'
  obtain ⟨b0, b1, hlt, hbw⟩ := box_cells hb6
  go_wp2_with fail
  refine (CPB.out w6 g Hg6.out).mono ?_
  rintro e w7 ⟨rfl, hb'⟩
  have hb7 := hb6.trans (hb'.mono hb6.size)
  have Hg7 : Hid (RdAt w7 g 0 D) := Hg6.out.below hb' Hg6.out.1
  clear hb'
  clear b0 b1 hlt hbw
  go_wp2_with fail
  refine (COB.out w7 g Hg7.out).mono ?_
  rintro e w8 ⟨rfl, hb'⟩
  have hb8 := hb7.trans (hb'.mono hb7.size)
  have Hg8 : Hid (RdAt w8 g 0 D) := Hg7.out.below hb' Hg7.out.1
  clear hb'
  have hbx : Below (w.alloc (.cells #[.int .i64 x0, .int .i64 x1] 24)).heap.size (w.alloc (.cells #[.int .i64 x0, .int .i64 x1] 24)) (w8.alloc (.cells #[.int .i64 0, .int .i64 0] 24)) := hb8.alloc hb8.size _
  go_wp2_with fail
  refine (CE1.out _ hbx).mono ?_
  rintro e wk ⟨rfl, hb'⟩
  have hbk := hbx.trans (hb'.mono hbx.size)
  clear hb'
  go_wp2
  go_ret
  exact ⟨rfl, (box_cells hbk).2.2.2⟩

theorem any_perm' {l l' : List (Int × Int)} (h : l.Perm l') (f : Int × Int → Bool) : l.any f = l'.any f := by
  rw [Bool.eq_iff_iff, List.any_eq_true, List.any_eq_true]
  exact ⟨fun ⟨x, m, e⟩ => ⟨x, h.mem_iff.1 m, e⟩, fun ⟨x, m, e⟩ => ⟨x, h.mem_iff.2 m, e⟩⟩
theorem wrong_zero {xs : Array (Int × Int)} (h : wrong xs = 0) : xs.size ≤ 60 ∧ anyOut xs = false := by
  have h60 := wrong_le h
  refine ⟨h60, ?_⟩
  unfold wrong at h
  rw [if_neg (by omega)] at h
  cases e : anyOut xs
  · rfl
  · rw [e] at h; simp at h
theorem wrong_of {xs : Array (Int × Int)} (h1 : xs.size ≤ 60) (h2 : anyOut xs = false) : wrong xs = 0 := by
  unfold wrong; rw [if_neg (by omega), h2]; rfl
theorem wrongH_push {D : Array (Int × Int)} {x : Int × Int} (h : wrongP D x = 0) : wrongH (hpush D x) = 0 := by
  obtain ⟨a, b, c⟩ := wrongP_zero h
  obtain ⟨hw, hh⟩ := wrongH_zero a
  obtain ⟨_, o1⟩ := wrong_zero hw
  obtain ⟨_, o2⟩ := wrong_zero b
  refine wrongH_of (wrong_of (by rw [hpush_size]; omega) ?_) (hpush_heap x hh)
  unfold anyOut at o1 o2 ⊢
  rw [any_perm' (hpush_perm D x), List.any_append, o1]
  exact o2
theorem wrongH_pop {D : Array (Int × Int)} (h : wrongH D = 0) (h0 : 0 < D.size) : wrongH (hpop D) = 0 := by
  obtain ⟨hw, hh⟩ := wrongH_zero h
  obtain ⟨h60, o1⟩ := wrong_zero hw
  refine wrongH_of (wrong_of (by rw [hpop_size]; omega) ?_) (hpop_heap hh)
  unfold anyOut at o1 ⊢
  rw [← any_perm' (hpop_perm h0), List.any_cons, Bool.or_eq_false_iff] at o1
  exact o1.2
theorem of_drewN {w w' : World} {P : Prop} (h : P ∧ ∃ q, w' = w.drewN q) : P ∧ Below w.heap.size w w' := by
  obtain ⟨a, q, b⟩ := h
  exact ⟨a, by rw [b]; exact below_drewN (Below.refl _ _) q⟩
theorem sl_of {w : World} {g n : Nat} {D : Array (Int × Int)} (hs : D.size = n) (h : RdAt w g 0 D) : Sl w (.slice (some ⟨g, 0, none⟩) n n) D := by
  rw [← hs]; exact Sl.of_rd h (Nat.le_refl _)

theorem heapHolds_any (v : Value) (x0 x1 : Int) (xs : Array (Int × Int)) (w : World) (h : Sl w v xs) (hbig : xs.size ≤ 9223372036854775807) (hgl : Glob w) :
    Calls Tryd.prog 4 #[v, .agg #[.int .i64 x0, .int .i64 x1]] w fun e w' => e = .returned (.bool true) ∧ Below w.heap.size w w' := by
  obtain ⟨p, cap, rfl, hcap, hp⟩ := id h
  by_cases h0 : wrong xs = 0
  · have h60 := wrong_le h0
    have hb0 : Below w.heap.size w (w.alloc (.cells #[.int .i64 x0, .int .i64 x1] 24)) := (Below.refl _ _).alloc (Nat.le_refl _) _
    have hs0 := h.below hb0
    have hgl0 := hgl.below hb0
    have hDs := hmake_size xs
    have hDw := wrongH_make h0
    have hDp := hmake_perm xs
    have hD0 : wrong (hmake xs) = 0 := (wrongH_zero hDw).1
    have hDm : hmake (hmake xs) = hmake xs := hmake_same (hmake_heap xs)
    generalize hD : hmake xs = D at hDs hDw hDp hD0 hDm
    have cM1 := fun w1 (hb : Below (w.alloc (.cells #[.int .i64 x0, .int .i64 x1] 24)).heap.size (w.alloc (.cells #[.int .i64 x0, .int .i64 x1] 24)) w1) => heapMake_good _ xs w1 (hs0.below hb) h0
    rw [hD] at cM1
    have cK1 := fun w1 g (hr : RdAt w1 g 0 D) => heapCheck_any _ D w1 (sl_of hDs hr) (by omega)
    rw [hDw] at cK1
    have cB1 := fun w1 g (hb : Below (w.alloc (.cells #[.int .i64 x0, .int .i64 x1] 24)).heap.size (w.alloc (.cells #[.int .i64 x0, .int .i64 x1] 24)) w1) (hr : RdAt w1 g 0 D) => (bag_any _ _ D xs w1 (sl_of hDs hr) (hs0.below hb) (by omega)).mono fun _ _ q => of_drewN q
    rw [bagB_intro hDs fun z => hDp.count_eq z] at cB1
    have cM2 := fun w1 g (hr : RdAt w1 g 0 D) => heapMake_good _ D w1 (sl_of hDs hr) hD0
    rw [hDm, hDs] at cM2
    have cI1 := fun w1 g g2 (hr : RdAt w1 g 0 D) (hr2 : RdAt w1 g2 0 D) => (items_any _ _ D D w1 (sl_of hDs hr2) (sl_of hDs hr) (by omega)).mono fun _ _ q => of_drewN q
    rw [decide_eq_true rfl] at cI1
    have cPB := fun (hk : wrongP D (x0, x1) ≠ 0) w1 g (hr : RdAt w1 g 0 D) => heapPush_bad (some ⟨g, 0, none⟩) xs.size x0 x1 D w1 (by rw [hDs]; exact sl_of hDs hr) (by omega) hk
    rw [hDs] at cPB
    have cPG := fun (hk : wrongP D (x0, x1) = 0) w1 g (hr : RdAt w1 g 0 D) => heapPush_good (some ⟨g, 0, none⟩) xs.size x0 x1 D w1 (by rw [hDs]; exact sl_of hDs hr) hk
    rw [hDs] at cPG
    have hPs : (hpush D (x0, x1)).size = xs.size + 1 := by rw [hpush_size, hDs]
    have cK2 := fun (hk : wrongP D (x0, x1) = 0) w1 g (hr : RdAt w1 g 0 (hpush D (x0, x1))) => heapCheck_any _ _ w1 (sl_of hPs hr) (by omega)
    have cW1 := fun w1 (hb : Below (w.alloc (.cells #[.int .i64 x0, .int .i64 x1] 24)).heap.size (w.alloc (.cells #[.int .i64 x0, .int .i64 x1] 24)) w1) => with_any p xs.size cap x0 x1 xs w1 rfl (by omega) (hs0.below hb)
    have cB2 := fun w1 g u (hr : RdAt w1 g 0 (hpush D (x0, x1))) (hu : Sl w1 u (xs.push (x0, x1))) => (bag_any _ u (hpush D (x0, x1)) (xs.push (x0, x1)) w1 (sl_of hPs hr) hu (by omega)).mono fun _ _ q => of_drewN q
    rw [bagB_intro (by rw [hPs, Array.size_push]) fun z => by
      rw [Array.toList_push]
      exact ((hpush_perm D (x0, x1)).trans (List.Perm.append_right _ hDp)).count_eq z] at cB2
    have cE1 := fun w1 (hb : Below (w.alloc (.cells #[.int .i64 x0, .int .i64 x1] 24)).heap.size (w.alloc (.cells #[.int .i64 x0, .int .i64 x1] 24)) w1) => error_any 5 5 w1 (hgl0.below hb)
    rcases Nat.eq_zero_or_pos xs.size with hn | hn
    · have hO : wrongO D = 5 := by unfold wrongO; rw [if_pos hDw, if_pos (by omega)]
      have cOB := fun w1 g (hr : RdAt w1 g 0 D) => heapPop_bad (some ⟨g, 0, none⟩) xs.size D w1 (by rw [hDs]; exact sl_of hDs hr) (by omega) (by rw [hO]; decide)
      rw [hDs, hO] at cOB
      by_cases hk : wrongP D (x0, x1) = 0
      · have cK2' := cK2 hk
        rw [wrongH_push hk] at cK2'
        exact heapHolds_PN p xs.size cap _ x0 x1 D _ _ w hn h60 cM1 cK1 cB1 cM2 cI1 (cPG hk) cK2' cW1 cB2 cOB cE1
      · exact heapHolds_QN p xs.size cap _ x0 x1 D w hn h60 cM1 cK1 cB1 cM2 cI1 (cPB hk) cOB cE1
    · have hDn : 0 < D.size := by omega
      have hO : wrongO D = 0 := by unfold wrongO; rw [if_pos hDw, if_neg (by omega)]
      have hRs : (hpop D).size = xs.size - 1 := by rw [hpop_size, hDs]
      have cOG := fun w1 g (hr : RdAt w1 g 0 D) => heapPop_good (some ⟨g, 0, none⟩) xs.size D w1 (by rw [hDs]; exact sl_of hDs hr) hO
      rw [hDs] at cOG
      have cK3 := fun w1 g (hr : RdAt w1 g 0 (hpop D)) => heapCheck_any _ _ w1 (sl_of hRs hr) (by omega)
      rw [wrongH_pop hDw hDn] at cK3
      have cW2 := fun w1 g (hr : RdAt w1 g 0 (hpop D)) => with_any (some ⟨g, 0, none⟩) (xs.size - 1) (xs.size - 1) D[0]!.1 D[0]!.2 (hpop D) w1 hRs (by omega) (sl_of hRs hr)
      have cB3 := fun w1 u (hb : Below (w.alloc (.cells #[.int .i64 x0, .int .i64 x1] 24)).heap.size (w.alloc (.cells #[.int .i64 x0, .int .i64 x1] 24)) w1) (hu : Sl w1 u ((hpop D).push (D[0]!.1, D[0]!.2))) => (bag_any u _ ((hpop D).push (D[0]!.1, D[0]!.2)) xs w1 hu (hs0.below hb) (by rw [Array.size_push]; omega)).mono fun _ _ q => of_drewN q
      rw [bagB_intro (by rw [Array.size_push, hRs]; omega) fun z => by
        rw [Array.toList_push]
        exact (((List.perm_append_singleton _ _).trans (hpop_perm hDn)).trans hDp).count_eq z] at cB3
      by_cases hk : wrongP D (x0, x1) = 0
      · have cK2' := cK2 hk
        rw [wrongH_push hk] at cK2'
        exact heapHolds_PS p xs.size cap _ _ x0 x1 _ _ D _ _ _ _ w hn h60 cM1 cK1 cB1 cM2 cI1 (cPG hk) cK2' cW1 cB2 cOG cK3 cW2 cB3
      · exact heapHolds_QS p xs.size cap _ _ x0 x1 _ _ D _ _ w hn h60 cM1 cK1 cB1 cM2 cI1 (cPB hk) cOG cK3 cW2 cB3
  · exact heapHolds_A p _ cap _ x0 x1 w fun w1 hb => heapMake_bad _ xs w1 (h.below hb) hbig _ rfl h0
#print axioms heapHolds_any
end Go.Proofs.YtcjfbenbdjlodaaDoor
