/-
  The law PickAll, walked: place by place it is sorted.
-/
import Derived.Test.YtdpfijhkbhmkgabDoorHide
import Derived.Test.YtdpfijhkbhmkgabDoorPkNth
import Derived.Test.YtdpfijhkbhmkgabDoorSame
import Derived.Test.YtdpfijhkbhmkgabDoorTold
import Derived.Test.YtdpfijhkbhmkgabDoorOwn
namespace Go.Proofs.YtdpfijhkbhmkgabDoor
open Go.RowKit Go.Sort Go.Proofs

set_option maxHeartbeats 4000000 in
theorem pickAll_bad (v : Value) (xs : Array (Int × Int)) (w : World) (h : Sl w v xs) (hbig : xs.size ≤ 9223372036854775807) (h0 : wrong xs ≠ 0) :
    Calls Tryd.prog 3 #[v] w fun e w' => e = .returned (.bool true) ∧ Below w.heap.size w w' := by
  have c1 := pickFact_any w
  have c2 := fun w1 (hb : Below w.heap.size w w1) => sort_bad v xs w1 (h.below hb) hbig _ rfl h0
  obtain ⟨p, cap, rfl, _⟩ := h
  generalize wrong xs = k at c2
  generalize xs.size = N at c2 ⊢
  have C2 := hidp c2
  clear c2 h0
  go_enter Tryd.func3, Tryd.ntmps3
  go_wp2_with fail
  refine c1.mono ?_
  rintro e w1 ⟨rfl, hb1⟩
  clear c1
  go_wp2_with fail
  refine (C2.out w1 hb1).mono ?_
  rintro e w2 ⟨rfl, hb2'⟩
  have hb2 := hb1.trans (hb2'.mono hb1.size)
  clear C2
  go_wp2
  go_ret
  exact ⟨rfl, hb2⟩

set_option maxHeartbeats 16000000 in
theorem pickAll_good (v : Value) (xs : Array (Int × Int)) (w : World) (h : Sl w v xs) (h0 : wrong xs = 0) (hgl : Glob w) :
    Calls Tryd.prog 3 #[v] w fun e w' => e = .returned (.bool true) ∧ Below w.heap.size w w' := by
  have h60 := wrong_le h0
  have c1 := pickFact_any w
  have C2 := hidp (fun w1 (hb : Below w.heap.size w w1) => sort_good v xs w1 (h.below hb) h0)
  have C3 := hidp (fun n w1 (hb : Below w.heap.size w w1) => nth_out v n xs w1 (h.below hb) h0)
  have C4 := hidp (fun (ys : Array (Int × Int)) (hs : Sorts xs ys) n (hn : n < xs.size) x0 x1 (hx : ys[n]! = (x0, x1)) w1 (hb : Below w.heap.size w w1) => nth_good v n xs ys w1 (h.below hb) h0 hs hn hx)
  have C5 := hidp (fun w1 (hb : Below w.heap.size w w1) => error_any 1 1 w1 (hgl.below hb))
  rw [errV_pos (show (1 : Nat) ≠ 0 by decide)] at C5
  obtain ⟨p, cap, rfl, _⟩ := h
  clear h0 hgl
  obtain ⟨N, hN⟩ : ∃ N, xs.size = N := ⟨_, rfl⟩
  rw [hN] at C2 C3 C4 h60 ⊢
  have HN := hidp hN
  clear hN
  go_enter Tryd.func3, Tryd.ntmps3
  go_wp2_with fail
  refine c1.mono ?_
  rintro e w1 ⟨rfl, hb1⟩
  clear c1
  go_wp2_with fail
  refine (C2.out w1 hb1).mono ?_
  rintro e w2 ⟨g, ys, rfl, hr, hs, hb2'⟩
  have hb2 := hb1.trans (hb2'.mono hb1.size)
  have HR := hidp hr
  have HS := hidp hs
  have hys : ys.size = N := by rw [hs.size]; exact HN.out
  have HYS := hidp hys
  have hnn : ((N : Int) != (N : Int)) = false := by rw [bne, beq_self_eq_true]; rfl
  clear hr hs hys C2 hb1 hb2'
  go_wp2
  go_loopg [6] N (fun gg vi wr => ∃ i : Nat, vi = .int .i64 i ∧ i + gg = N ∧ Below w2.heap.size w2 wr)
  case atStart => exact ⟨0, rfl, by omega, Below.refl _ _⟩
  case round =>
    obtain ⟨i, rfl, hg, hbr⟩ := hrel
    have hb3 := hb2.trans (hbr.mono hb2.size)
    by_cases hlt : i < N
    · have hlz : (i : Int) < (N : Int) := by omega
      obtain ⟨x0, x1, hx⟩ : ∃ x y, ys[i]! = (x, y) := ⟨_, _, rfl⟩
      have c4 := C4.out ys HS.out i hlt x0 x1 hx wr hb3
      have HXX := hidp hx
      have hf : (!(x0 == x0 && x1 == x1)) = false := by simp
      have k2 := fun w => neq_item x0 x1 x0 x1 w
      have k3 := fun w => equalIn_item x0 x1 x0 x1 w
      have k4 := guard_item
      rw [hf] at k2
      rw [show (x0 == x0 && x1 == x1) = true by simp] at k3
      clear hx hf
      go_wp2_with fail
      refine c4.mono ?_
      rintro e w5 ⟨rfl, hb5'⟩
      have hb5 : Below w2.heap.size w2 w5 := hbr.trans (hb5'.mono hbr.size)
      have hb6 : Below w2.heap.size w2 (w5.alloc (.cells #[.int .i64 x0, .int .i64 x1] 29)) := hb5.alloc hb5.size _
      obtain ⟨cy0, cy1⟩ := (RdAt.below HR.out hb6 HR.out.1).2 i (by rw [HYS.out]; exact hlt)
      rw [HXX.out] at cy0 cy1
      simp only [Nat.zero_add] at cy0 cy1
      have ct0 : (w5.alloc (.cells #[.int .i64 x0, .int .i64 x1] 29)).cell? ⟨w5.heap.size, 0, none⟩ = some (.int .i64 x0) := by simp
      have ct1 : (w5.alloc (.cells #[.int .i64 x0, .int .i64 x1] 29)).cell? ⟨w5.heap.size, 1, none⟩ = some (.int .i64 x1) := by simp
      clear c4 hbr hb3 hb5'
      go_wp2_with fail
      generalize w5.heap.size = tb at ct0 ct1 ⊢
      generalize w5.alloc (.cells #[.int .i64 x0, .int .i64 x1] 29) = w6 at hb6 ct0 ct1 cy0 cy1 ⊢
      go_quiet (fail)
      go_wp2
      go_roundg (N - (i + 1))
      case measure => omega
      case rel => exact ⟨i + 1, by go_num, by omega, below_drewN hb6 _⟩
    · have hlz : ¬ (i : Int) < (N : Int) := by omega
      clear C4
      go_wp2_with fail
      refine (C3.out (-1) wr hb3 (by omega)).mono ?_
      rintro e w5 ⟨rfl, hb5'⟩
      have hb5 := hb3.trans (hb5'.mono hb3.size)
      have hb6 : Below w.heap.size w (w5.alloc (.cells #[.int .i64 0, .int .i64 0] 29)) := hb5.alloc hb5.size _
      go_wp2_with fail
      generalize w5.alloc (.cells #[.int .i64 0, .int .i64 0] 29) = w6 at hb6 ⊢
      refine (C3.out (N : Int) w6 hb6 (by omega)).mono ?_
      rintro e w7 ⟨rfl, hb7'⟩
      have hb7 := hb6.trans (hb7'.mono hb6.size)
      have hb8 : Below w.heap.size w (w7.alloc (.cells #[.int .i64 0, .int .i64 0] 29)) := hb7.alloc hb7.size _
      clear C3 hb5' hb5 hb6 hb7' hb7 hbr hb3
      go_wp2_with fail
      generalize w7.alloc (.cells #[.int .i64 0, .int .i64 0] 29) = w8 at hb8 ⊢
      refine (C5.out w8 hb8).mono ?_
      rintro e w9 ⟨rfl, hb9'⟩
      have hb9 := hb8.trans (hb9'.mono hb8.size)
      go_wp2_with fail
      refine (C5.out w9 hb9).mono ?_
      rintro e w10 ⟨rfl, hb10'⟩
      have hb10 := hb9.trans (hb10'.mono hb9.size)
      go_wp2
      go_ret
      exact ⟨rfl, hb10⟩
theorem pickAll_any (v : Value) (xs : Array (Int × Int)) (w : World) (h : Sl w v xs) (hbig : xs.size ≤ 9223372036854775807) (hgl : Glob w) :
    Calls Tryd.prog 3 #[v] w fun e w' => e = .returned (.bool true) ∧ Below w.heap.size w w' := by
  by_cases h0 : wrong xs = 0
  · exact pickAll_good v xs w h h0 hgl
  · exact pickAll_bad v xs w h hbig h0
#print axioms pickAll_any
end Go.Proofs.YtdpfijhkbhmkgabDoor
