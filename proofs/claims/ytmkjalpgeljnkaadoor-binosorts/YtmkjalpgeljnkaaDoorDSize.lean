/-
  bino.size: how many items there are at all ranks.
-/
import Derived.Test.YtmkjalpgeljnkaaDoorDDig
namespace Go.Proofs.YtmkjalpgeljnkaaDoor
open Go.RowKit Go.Sort Go.Proofs

theorem int_eq {a b : Int} (h : a = b) : Value.int .i64 a = .int .i64 b := by rw [h]
theorem ix0 (s0 s1 s2 s3 s4 s5 : SlV) (w : World) : (Instr.index 62 (.agg #[.slice s0.1 s0.2.1 s0.2.2, .slice s1.1 s1.2.1 s1.2.2, .slice s2.1 s2.2.1 s2.2.2, .slice s3.1 s3.2.1 s3.2.2, .slice s4.1 s4.2.1 s4.2.2, .slice s5.1 s5.2.1 s5.2.2]) (.int .i64 0)).run Tryd.prog w = .ok (.slice s0.1 s0.2.1 s0.2.2) w := by kernel_rfl
theorem ix1 (s0 s1 s2 s3 s4 s5 : SlV) (w : World) : (Instr.index 62 (.agg #[.slice s0.1 s0.2.1 s0.2.2, .slice s1.1 s1.2.1 s1.2.2, .slice s2.1 s2.2.1 s2.2.2, .slice s3.1 s3.2.1 s3.2.2, .slice s4.1 s4.2.1 s4.2.2, .slice s5.1 s5.2.1 s5.2.2]) (.int .i64 1)).run Tryd.prog w = .ok (.slice s1.1 s1.2.1 s1.2.2) w := by kernel_rfl
theorem ix2 (s0 s1 s2 s3 s4 s5 : SlV) (w : World) : (Instr.index 62 (.agg #[.slice s0.1 s0.2.1 s0.2.2, .slice s1.1 s1.2.1 s1.2.2, .slice s2.1 s2.2.1 s2.2.2, .slice s3.1 s3.2.1 s3.2.2, .slice s4.1 s4.2.1 s4.2.2, .slice s5.1 s5.2.1 s5.2.2]) (.int .i64 2)).run Tryd.prog w = .ok (.slice s2.1 s2.2.1 s2.2.2) w := by kernel_rfl
theorem ix3 (s0 s1 s2 s3 s4 s5 : SlV) (w : World) : (Instr.index 62 (.agg #[.slice s0.1 s0.2.1 s0.2.2, .slice s1.1 s1.2.1 s1.2.2, .slice s2.1 s2.2.1 s2.2.2, .slice s3.1 s3.2.1 s3.2.2, .slice s4.1 s4.2.1 s4.2.2, .slice s5.1 s5.2.1 s5.2.2]) (.int .i64 3)).run Tryd.prog w = .ok (.slice s3.1 s3.2.1 s3.2.2) w := by kernel_rfl
theorem ix4 (s0 s1 s2 s3 s4 s5 : SlV) (w : World) : (Instr.index 62 (.agg #[.slice s0.1 s0.2.1 s0.2.2, .slice s1.1 s1.2.1 s1.2.2, .slice s2.1 s2.2.1 s2.2.2, .slice s3.1 s3.2.1 s3.2.2, .slice s4.1 s4.2.1 s4.2.2, .slice s5.1 s5.2.1 s5.2.2]) (.int .i64 4)).run Tryd.prog w = .ok (.slice s4.1 s4.2.1 s4.2.2) w := by kernel_rfl
theorem ix5 (s0 s1 s2 s3 s4 s5 : SlV) (w : World) : (Instr.index 62 (.agg #[.slice s0.1 s0.2.1 s0.2.2, .slice s1.1 s1.2.1 s1.2.2, .slice s2.1 s2.2.1 s2.2.2, .slice s3.1 s3.2.1 s3.2.2, .slice s4.1 s4.2.1 s4.2.2, .slice s5.1 s5.2.1 s5.2.2]) (.int .i64 5)).run Tryd.prog w = .ok (.slice s5.1 s5.2.1 s5.2.2) w := by kernel_rfl
theorem ixk (s0 s1 s2 s3 s4 s5 : SlV) (k : Nat) (s : SlV) (h : [s0, s1, s2, s3, s4, s5][k]? = some s) (w : World) : (Instr.index 62 (.agg #[.slice s0.1 s0.2.1 s0.2.2, .slice s1.1 s1.2.1 s1.2.2, .slice s2.1 s2.2.1 s2.2.2, .slice s3.1 s3.2.1 s3.2.2, .slice s4.1 s4.2.1 s4.2.2, .slice s5.1 s5.2.1 s5.2.2]) (.int .i64 (k : Int))).run Tryd.prog w = .ok (.slice s.1 s.2.1 s.2.2) w := by
  match k, h with
  | 0, h => cases h; exact ix0 ..
  | 1, h => cases h; exact ix1 ..
  | 2, h => cases h; exact ix2 ..
  | 3, h => cases h; exact ix3 ..
  | 4, h => cases h; exact ix4 ..
  | 5, h => cases h; exact ix5 ..
  | k + 6, h => simp at h
set_option maxHeartbeats 4000000 in
set_option maxRecDepth 4000 in
theorem dsize_some (s0 s1 s2 s3 s4 s5 : SlV) (w : World) (h0 : s0.2.1 ≤ 1000) (h1 : s1.2.1 ≤ 1000) (h2 : s2.2.1 ≤ 1000) (h3 : s3.2.1 ≤ 1000) (h4 : s4.2.1 ≤ 1000) (h5 : s5.2.1 ≤ 1000) :
    Calls Tryd.prog 35 #[.agg #[.slice s0.1 s0.2.1 s0.2.2, .slice s1.1 s1.2.1 s1.2.2, .slice s2.1 s2.2.1 s2.2.2, .slice s3.1 s3.2.1 s3.2.2, .slice s4.1 s4.2.1 s4.2.2, .slice s5.1 s5.2.1 s5.2.2]] w fun e w' => e = .returned (.int .i64 ((s0.2.1 : Int) + s1.2.1 + s2.2.1 + s3.2.1 + s4.2.1 + s5.2.1)) ∧ Below w.heap.size w w' := by
  have j0 := ix0 s0 s1 s2 s3 s4 s5
  have j1 := ix1 s0 s1 s2 s3 s4 s5
  have j2 := ix2 s0 s1 s2 s3 s4 s5
  have j3 := ix3 s0 s1 s2 s3 s4 s5
  have j4 := ix4 s0 s1 s2 s3 s4 s5
  have j5 := ix5 s0 s1 s2 s3 s4 s5
  go_enter Tryd.func35, Tryd.ntmps35
  go_wp2
  have HB : Hid (Below w.heap.size w (w.alloc (.cells #[.slice s0.1 s0.2.1 s0.2.2, .slice s1.1 s1.2.1 s1.2.2, .slice s2.1 s2.2.1 s2.2.2, .slice s3.1 s3.2.1 s3.2.2, .slice s4.1 s4.2.1 s4.2.2, .slice s5.1 s5.2.1 s5.2.2] 62))) := (Below.refl _ _).alloc (Nat.le_refl _) _
  go_loop [3, 7] (fun t i => ∃ k : Nat, k ≤ 6 ∧ i = .int .i64 k ∧ t = .int .i64 (([(s0.2.1 : Int), s1.2.1, s2.2.1, s3.2.1, s4.2.1, s5.2.1].take k).sum)) (fun _ i => 6 - (intOf i).toNat)
  case atStart => exact ⟨0, Nat.zero_le _, rfl, rfl⟩
  case round =>
    obtain ⟨k, hk, rfl, rfl⟩ := hrel
    have hk7 : k = 0 ∨ k = 1 ∨ k = 2 ∨ k = 3 ∨ k = 4 ∨ k = 5 ∨ k = 6 := by omega
    rcases hk7 with rfl | rfl | rfl | rfl | rfl | rfl | rfl
    all_goals simp only [List.take_zero, List.take_succ_cons, List.sum_cons, List.sum_nil, Int.add_zero]
    · go_wp2
      exact ⟨⟨1, by omega, rfl, int_eq (by simp only [List.take_succ_cons, List.take_zero, List.sum_cons, List.sum_nil]; omega)⟩, by simp [intOf]⟩
    · go_wp2
      exact ⟨⟨2, by omega, rfl, int_eq (by simp only [List.take_succ_cons, List.take_zero, List.sum_cons, List.sum_nil]; omega)⟩, by simp [intOf]⟩
    · go_wp2
      exact ⟨⟨3, by omega, rfl, int_eq (by simp only [List.take_succ_cons, List.take_zero, List.sum_cons, List.sum_nil]; omega)⟩, by simp [intOf]⟩
    · go_wp2
      exact ⟨⟨4, by omega, rfl, int_eq (by simp only [List.take_succ_cons, List.take_zero, List.sum_cons, List.sum_nil]; omega)⟩, by simp [intOf]⟩
    · go_wp2
      exact ⟨⟨5, by omega, rfl, int_eq (by simp only [List.take_succ_cons, List.take_zero, List.sum_cons, List.sum_nil]; omega)⟩, by simp [intOf]⟩
    · go_wp2
      exact ⟨⟨6, by omega, rfl, int_eq (by simp only [List.take_succ_cons, List.take_zero, List.sum_cons, List.sum_nil]; omega)⟩, by simp [intOf]⟩
    · go_wp2
      go_ret
      exact ⟨congrArg Ending.returned (int_eq (by omega)), HB.out⟩
theorem Sl.count {w : World} {p : Option Addr} {n c : Nat} {l : List (Int × Int)} (h : Sl w (.slice p n c) l.toArray) : n = l.length := by
  obtain ⟨p', c', e, _⟩ := h
  simp only [Value.slice.injEq, List.size_toArray] at e
  exact e.2.1
theorem dsize_any (d : List SlV) (f : Nat → List (Int × Int)) (w0 w : World) (h : DgAt w0 d f) (hf : ∀ j, j < 6 → (f j).length ≤ 1000) :
    Calls Tryd.prog 35 #[agV d] w fun e w' => e = .returned (.int .i64 ((catTo f 6 0).length : Nat)) ∧ Below w.heap.size w w' := by
  obtain ⟨s0, s1, s2, s3, s4, s5, rfl⟩ := six h.1
  obtain ⟨_, e0, h0⟩ := h.2 0 (by omega)
  obtain ⟨_, e1, h1⟩ := h.2 1 (by omega)
  obtain ⟨_, e2, h2⟩ := h.2 2 (by omega)
  obtain ⟨_, e3, h3⟩ := h.2 3 (by omega)
  obtain ⟨_, e4, h4⟩ := h.2 4 (by omega)
  obtain ⟨_, e5, h5⟩ := h.2 5 (by omega)
  cases e0; cases e1; cases e2; cases e3; cases e4; cases e5
  have k0 := hf 0 (by omega)
  have k1 := hf 1 (by omega)
  have k2 := hf 2 (by omega)
  have k3 := hf 3 (by omega)
  have k4 := hf 4 (by omega)
  have k5 := hf 5 (by omega)
  rw [← h0.count] at k0
  rw [← h1.count] at k1
  rw [← h2.count] at k2
  rw [← h3.count] at k3
  rw [← h4.count] at k4
  rw [← h5.count] at k5
  refine (dsize_some s0 s1 s2 s3 s4 s5 w k0 k1 k2 k3 k4 k5).mono fun e w' ⟨a, b⟩ => ⟨?_, b⟩
  rw [a]
  refine congrArg Ending.returned (int_eq ?_)
  simp only [catTo, List.length_append, List.length_nil]
  rw [← h0.count, ← h1.count, ← h2.count, ← h3.count, ← h4.count, ← h5.count]
  omega
#print axioms dsize_any
end Go.Proofs.YtmkjalpgeljnkaaDoor
