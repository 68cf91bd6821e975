/-
  Nth of package pick: the item at a place; and a closed fact.
-/
import Derived.Test.YtcjfbenbdjlodabKnownW
namespace Go.Proofs.Ytcjfbenbdjlodab
open Go.RowKit Go.Sort Go.Proofs

theorem nth_bad (v : Value) (n : Int) (xs : Array (Int × Int)) (w : World) (h : Sl w v xs) (hbig : xs.size ≤ 9223372036854775807) (k : Nat) (hk : wrong xs = k) (h0 : k ≠ 0) :
    Calls Try.prog 12 #[v, .int .i64 n] w fun e w' => e = .returned (.tuple #[.agg #[.int .i64 0, .int .i64 0], .iface 44 (.int .i64 k)]) ∧ Below w.heap.size w w' := by
  have hcon := sort_bad v xs (w.alloc (.cells #[.int .i64 0, .int .i64 0] 38)) (h.below ((Below.refl _ w).alloc (Nat.le_refl _) _)) hbig k hk h0
  obtain ⟨p, cap, rfl, _⟩ := h
  clear hk h0
  go_enter Try.func12, Try.ntmps12
  go_wp2_with fail
  refine hcon.mono ?_
  rintro e w1 ⟨rfl, hb⟩
  clear hcon
  have hc0 : w1.cell? ⟨w.heap.size, 0, none⟩ = some (.int .i64 0) := (hb.cell (p := ⟨w.heap.size, 0, none⟩) (by simp)).trans (by simp)
  have hc1 : w1.cell? ⟨w.heap.size, 1, none⟩ = some (.int .i64 0) := (hb.cell (p := ⟨w.heap.size, 1, none⟩) (by simp)).trans (by simp)
  have hf0 : w1.frozen? ⟨w.heap.size, 0, none⟩ = false := (hb.frozen (p := ⟨w.heap.size, 0, none⟩) (by simp)).trans (by simp)
  have hf1 : w1.frozen? ⟨w.heap.size, 1, none⟩ = false := (hb.frozen (p := ⟨w.heap.size, 1, none⟩) (by simp)).trans (by simp)
  have hb2 : Below w.heap.size w w1 := ((Below.refl _ w).alloc (Nat.le_refl _) _).trans (hb.mono (by simp))
  go_wp2
  exact bodyPost_ret (by simp [results, Try.results12, go_sem, hc0, hc1]; try rfl) rfl ⟨rfl, (hb2.setCell (p := ⟨w.heap.size, 0, none⟩) (Nat.le_refl _) _).setCell (p := ⟨w.heap.size, 1, none⟩) (Nat.le_refl _) _⟩
set_option maxHeartbeats 2000000 in
theorem nth_out (v : Value) (n : Int) (xs : Array (Int × Int)) (w : World) (h : Sl w v xs) (hk : wrong xs = 0) (hn : n < 0 ∨ (xs.size : Int) ≤ n) :
    Calls Try.prog 12 #[v, .int .i64 n] w fun e w' => e = .returned (.tuple #[.agg #[.int .i64 0, .int .i64 0], .iface 44 (.int .i64 1)]) ∧ Below w.heap.size w w' := by
  have hcon := sort_good v xs (w.alloc (.cells #[.int .i64 0, .int .i64 0] 38)) (h.below ((Below.refl _ w).alloc (Nat.le_refl _) _)) hk
  obtain ⟨p, cap, rfl, _⟩ := h
  clear hk
  generalize xs.size = N at hcon hn ⊢
  by_cases hz : n < 0
  · clear hn
    go_enter Try.func12, Try.ntmps12
    go_wp2_with fail
    refine hcon.mono ?_
    rintro e w1 ⟨g, ys, rfl, _, _, hb⟩
    clear hcon
    have hc0 : w1.cell? ⟨w.heap.size, 0, none⟩ = some (.int .i64 0) := (hb.cell (p := ⟨w.heap.size, 0, none⟩) (by simp)).trans (by simp)
    have hc1 : w1.cell? ⟨w.heap.size, 1, none⟩ = some (.int .i64 0) := (hb.cell (p := ⟨w.heap.size, 1, none⟩) (by simp)).trans (by simp)
    have hf0 : w1.frozen? ⟨w.heap.size, 0, none⟩ = false := (hb.frozen (p := ⟨w.heap.size, 0, none⟩) (by simp)).trans (by simp)
    have hf1 : w1.frozen? ⟨w.heap.size, 1, none⟩ = false := (hb.frozen (p := ⟨w.heap.size, 1, none⟩) (by simp)).trans (by simp)
    have hb2 : Below w.heap.size w w1 := ((Below.refl _ w).alloc (Nat.le_refl _) _).trans (hb.mono (by simp))
    go_wp2
    exact bodyPost_ret (by simp [results, Try.results12, go_sem, hc0, hc1]; try rfl) rfl ⟨rfl, (hb2.setCell (p := ⟨w.heap.size, 0, none⟩) (Nat.le_refl _) _).setCell (p := ⟨w.heap.size, 1, none⟩) (Nat.le_refl _) _⟩
  · have hz2 : (N : Int) ≤ n := by omega
    clear hn
    go_enter Try.func12, Try.ntmps12
    go_wp2_with fail
    refine hcon.mono ?_
    rintro e w1 ⟨g, ys, rfl, _, _, hb⟩
    clear hcon
    have hc0 : w1.cell? ⟨w.heap.size, 0, none⟩ = some (.int .i64 0) := (hb.cell (p := ⟨w.heap.size, 0, none⟩) (by simp)).trans (by simp)
    have hc1 : w1.cell? ⟨w.heap.size, 1, none⟩ = some (.int .i64 0) := (hb.cell (p := ⟨w.heap.size, 1, none⟩) (by simp)).trans (by simp)
    have hf0 : w1.frozen? ⟨w.heap.size, 0, none⟩ = false := (hb.frozen (p := ⟨w.heap.size, 0, none⟩) (by simp)).trans (by simp)
    have hf1 : w1.frozen? ⟨w.heap.size, 1, none⟩ = false := (hb.frozen (p := ⟨w.heap.size, 1, none⟩) (by simp)).trans (by simp)
    have hb2 : Below w.heap.size w w1 := ((Below.refl _ w).alloc (Nat.le_refl _) _).trans (hb.mono (by simp))
    go_wp2
    exact bodyPost_ret (by simp [results, Try.results12, go_sem, hc0, hc1]; try rfl) rfl ⟨rfl, (hb2.setCell (p := ⟨w.heap.size, 0, none⟩) (Nat.le_refl _) _).setCell (p := ⟨w.heap.size, 1, none⟩) (Nat.le_refl _) _⟩
set_option maxHeartbeats 2000000 in
theorem nth_some (v : Value) (n : Nat) (xs : Array (Int × Int)) (w : World) (h : Sl w v xs) (hk : wrong xs = 0) (hn : n < xs.size) :
    Calls Try.prog 12 #[v, .int .i64 (n : Int)] w fun e w' => (∃ (ys : Array (Int × Int)) (x0 x1 : Int), Sorts xs ys ∧ ys[n]! = (x0, x1) ∧ e = .returned (.tuple #[.agg #[.int .i64 x0, .int .i64 x1], .nilIface])) ∧ Below w.heap.size w w' := by
  have hcon := sort_good v xs (w.alloc (.cells #[.int .i64 0, .int .i64 0] 38)) (h.below ((Below.refl _ w).alloc (Nat.le_refl _) _)) hk
  have h60 := wrong_le hk
  obtain ⟨p, cap, rfl, _⟩ := h
  clear hk
  have HN : Hid (n < xs.size) := hn
  generalize hN : xs.size = N at hcon hn h60 ⊢
  clear hN
  have hz : ¬ (n : Int) < 0 := by omega
  have hz2 : ¬ (N : Int) ≤ (n : Int) := by omega
  have hz3 : (n : Int) < (N : Int) := by omega
  go_enter Try.func12, Try.ntmps12
  go_wp2_with fail
  refine hcon.mono ?_
  rintro e w1 ⟨g, zs, rfl, hr, hs, hb⟩
  clear hcon
  obtain ⟨x0, x1, hx⟩ : ∃ x y, zs[n]! = (x, y) := ⟨_, _, rfl⟩
  obtain ⟨c0, c1⟩ := hr.2 n (by rw [hs.size]; exact HN.out)
  rw [hx] at c0 c1
  have HS : Hid (Sorts xs zs) := hs
  have HX : Hid (zs[n]! = (x0, x1)) := hx
  have hg := hr.1
  have hc0 : w1.cell? ⟨w.heap.size, 0, none⟩ = some (.int .i64 0) := (hb.cell (p := ⟨w.heap.size, 0, none⟩) (by simp)).trans (by simp)
  have hc1 : w1.cell? ⟨w.heap.size, 1, none⟩ = some (.int .i64 0) := (hb.cell (p := ⟨w.heap.size, 1, none⟩) (by simp)).trans (by simp)
  have hf0 : w1.frozen? ⟨w.heap.size, 0, none⟩ = false := (hb.frozen (p := ⟨w.heap.size, 0, none⟩) (by simp)).trans (by simp)
  have hf1 : w1.frozen? ⟨w.heap.size, 1, none⟩ = false := (hb.frozen (p := ⟨w.heap.size, 1, none⟩) (by simp)).trans (by simp)
  have hb2 : Below w.heap.size w w1 := ((Below.refl _ w).alloc (Nat.le_refl _) _).trans (hb.mono (by simp))
  clear hr hs hx
  simp only [Nat.zero_add] at c0 c1
  go_wp2
  exact bodyPost_ret (by simp [results, Try.results12, go_sem, hc0, hc1]; try rfl) rfl ⟨⟨zs, x0, x1, HS.out, HX.out, rfl⟩, (hb2.setCell (p := ⟨w.heap.size, 0, none⟩) (Nat.le_refl _) _).setCell (p := ⟨w.heap.size, 1, none⟩) (Nat.le_refl _) _⟩
/-- The items by keys: there is just one such order. -/
theorem nth_good (v : Value) (n : Nat) (xs ys : Array (Int × Int)) (w : World) (h : Sl w v xs) (hk : wrong xs = 0) (hs : Sorts xs ys) (hn : n < xs.size) {x0 x1 : Int} (hx : ys[n]! = (x0, x1)) :
    Calls Try.prog 12 #[v, .int .i64 (n : Int)] w fun e w' => e = .returned (.tuple #[.agg #[.int .i64 x0, .int .i64 x1], .nilIface]) ∧ Below w.heap.size w w' := by
  refine (nth_some v n xs w h hk hn).mono ?_
  rintro e w' ⟨⟨zs, y0, y1, h1, h2, h3⟩, hb⟩
  obtain rfl := h1.unique hs
  rw [hx, Prod.mk.injEq] at h2
  obtain ⟨rfl, rfl⟩ := h2
  exact ⟨h3, hb⟩
end Go.Proofs.Ytcjfbenbdjlodab
