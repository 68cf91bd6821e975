/-
  heap.Pop.
-/
import Derived.Test.YtcjfbenbdjlodabHeapM
namespace Go.Proofs.Ytcjfbenbdjlodab
open Go.RowKit Go.Sort Go.Proofs

/-- What is wrong with a heap that is to be popped. -/
def wrongO (xs : Array (Int × Int)) : Nat := if wrongH xs = 0 then (if xs.size = 0 then 5 else 0) else wrongH xs
theorem wrongO_zero {xs : Array (Int × Int)} (h : wrongO xs = 0) : wrongH xs = 0 ∧ 0 < xs.size := by
  unfold wrongO at h
  by_cases a : wrongH xs = 0
  · rw [if_pos a] at h
    by_cases b : xs.size = 0
    · rw [if_pos b] at h; omega
    · exact ⟨a, by omega⟩
  · rw [if_neg a] at h; exact absurd h a

/-- The result's own cell, made ahead of all. -/
theorem cell_made {w w1 : World} (hb : Below (w.alloc (.cells #[.int .i64 0, .int .i64 0] 38)).heap.size (w.alloc (.cells #[.int .i64 0, .int .i64 0] 38)) w1) :
    w1.cell? ⟨w.heap.size, 0, none⟩ = some (.int .i64 0) ∧ w1.cell? ⟨w.heap.size, 1, none⟩ = some (.int .i64 0) ∧ w1.frozen? ⟨w.heap.size, 0, none⟩ = false ∧ w1.frozen? ⟨w.heap.size, 1, none⟩ = false ∧ w.heap.size < w1.heap.size ∧ Below w.heap.size w w1 := by
  have hl : w.heap.size < (w.alloc (.cells #[.int .i64 0, .int .i64 0] 38)).heap.size := by simp
  have hbk := hb.block w.heap.size hl
  exact ⟨(hb.cell (p := ⟨w.heap.size, 0, none⟩) hl).trans (by simp), (hb.cell (p := ⟨w.heap.size, 1, none⟩) hl).trans (by simp), (World.frozen?_of_block (a := ⟨w.heap.size, 0, none⟩) hbk).trans (by simp), (World.frozen?_of_block (a := ⟨w.heap.size, 1, none⟩) hbk).trans (by simp), Nat.lt_of_lt_of_le hl hb.size, ((Below.refl _ _).alloc (Nat.le_refl _) _).trans (hb.mono (by simp))⟩

set_option maxHeartbeats 4000000 in
theorem heapPop_A (p : Option Addr) (n cap k : Nat) (w : World) (C1 : Hid (∀ w1, Below w.heap.size w w1 → Calls Try.prog 28 #[.slice p n cap] w1 fun e w' => e = .returned (.iface 44 (.int .i64 k)) ∧ Below w1.heap.size w1 w')) :
    Calls Try.prog 15 #[.slice p n cap] w fun e w' => e = .returned (.tuple #[.agg #[.int .i64 0, .int .i64 0], .slice none 0 0, .iface 44 (.int .i64 k)]) ∧ Below w.heap.size w w' := by
  have hb0 : Below w.heap.size w (w.alloc (.cells #[.int .i64 0, .int .i64 0] 38)) := (Below.refl _ _).alloc (Nat.le_refl _) _
  have c1 := C1.out _ hb0
  clear C1
  go_enter Try.func15, Try.ntmps15
  go_wp2_with fail
  refine c1.mono ?_
  rintro e w1 ⟨rfl, hb1'⟩
  obtain ⟨b0, b1, f0, f1, hlt, hb1⟩ := cell_made hb1'
  go_wp2
  refine bodyPost_ret (by simp [results, Try.results15, go_sem, b0, b1]; try rfl) rfl ?_
  exact ⟨rfl, (hb1.setCell (p := ⟨w.heap.size, 0, none⟩) (Nat.le_refl _) _).setCell (p := ⟨w.heap.size, 1, none⟩) (Nat.le_refl _) _⟩

set_option maxHeartbeats 4000000 in
theorem heapPop_B (p : Option Addr) (cap : Nat) (w : World) (C1 : Hid (∀ w1, Below w.heap.size w w1 → Calls Try.prog 28 #[.slice p 0 cap] w1 fun e w' => e = .returned .nilIface ∧ Below w1.heap.size w1 w')) :
    Calls Try.prog 15 #[.slice p 0 cap] w fun e w' => e = .returned (.tuple #[.agg #[.int .i64 0, .int .i64 0], .slice none 0 0, .iface 44 (.int .i64 5)]) ∧ Below w.heap.size w w' := by
  have hb0 : Below w.heap.size w (w.alloc (.cells #[.int .i64 0, .int .i64 0] 38)) := (Below.refl _ _).alloc (Nat.le_refl _) _
  have c1 := C1.out _ hb0
  clear C1
  go_enter Try.func15, Try.ntmps15
  go_wp2_with fail
  refine c1.mono ?_
  rintro e w1 ⟨rfl, hb1'⟩
  obtain ⟨b0, b1, f0, f1, hlt, hb1⟩ := cell_made hb1'
  go_wp2
  refine bodyPost_ret (by simp [results, Try.results15, go_sem, b0, b1]; try rfl) rfl ?_
  exact ⟨rfl, (hb1.setCell (p := ⟨w.heap.size, 0, none⟩) (Nat.le_refl _) _).setCell (p := ⟨w.heap.size, 1, none⟩) (Nat.le_refl _) _⟩

theorem pop_get (d : Array (Int × Int)) {i : Nat} (h : i + 1 < d.size) : d.pop[i]! = d[i]! := by
  rw [getElem!_pos _ i (by simp; omega), getElem!_pos d i (by omega)]; simp

set_option maxHeartbeats 8000000 in
set_option maxRecDepth 4000 in
theorem heapPop_C (blk off cap : Nat) (x0 x1 : Int) (xs : Array (Int × Int)) (w : World) (HN : Hid (xs.size = 1)) (hcap : 1 ≤ cap) (HR : Hid (RdAt w blk off xs)) (HX : Hid (xs[0]! = (x0, x1)))
    (C1 : Hid (∀ w1, Below w.heap.size w w1 → Calls Try.prog 28 #[.slice (some ⟨blk, off, none⟩) 1 cap] w1 fun e w' => e = .returned .nilIface ∧ Below w1.heap.size w1 w')) :
    Calls Try.prog 15 #[.slice (some ⟨blk, off, none⟩) 1 cap] w fun e w' => ∃ g, e = .returned (.tuple #[.agg #[.int .i64 x0, .int .i64 x1], .slice (some ⟨g, 0, none⟩) 0 0, .nilIface]) ∧ RdAt w' g 0 #[] ∧ w.heap.size ≤ g ∧ Below w.heap.size w w' := by
  have hb0 : Below w.heap.size w (w.alloc (.cells #[.int .i64 0, .int .i64 0] 38)) := (Below.refl _ _).alloc (Nat.le_refl _) _
  have c1 := C1.out _ hb0
  obtain ⟨i0, hi, hz0, hz1, hz2⟩ := info_parts info_item
  clear C1
  go_enter Try.func15, Try.ntmps15
  go_wp2_with fail
  refine c1.mono ?_
  rintro e w1 ⟨rfl, hb1'⟩
  obtain ⟨b0, b1, f0, f1, hlt, hb1⟩ := cell_made hb1'
  have HS1 : Hid (Sl w1 (.slice (some ⟨blk, off, none⟩) 1 cap) xs) := by show Sl _ _ _; rw [← HN.out]; exact Sl.of_rd (HR.out.below hb1 HR.out.1) (by rw [HN.out]; exact hcap)
  clear hb1' c1
  go_wp2_with (first | (at_make; refine wpList_make_full _ rfl (.tmp 22) (.tmp 22) 34 rfl w1.heap.size 38 i0 (.agg #[.int .i64 0, .int .i64 0]) 2 Try.underlying34 hi hz0 hz1 .i64 .i64 _ _ 0 rfl rfl rfl rfl (by rw [hz2]; omega) (Nat.zero_le _) (Nat.le_refl _) ?_; intro w3 hown hgr; obtain ⟨w4, hrun, HW, hb4⟩ := laidSl w1 w1 w3 0 1 cap (some ⟨blk, off, none⟩) xs #[] (Below.refl _ _) HS1.out HN.out hown hgr rfl (fun i _ h => absurd h (Nat.not_lt_zero _)) (fun i _ h => absurd h (Nat.not_lt_zero _)); rw [show Nat.min 1 0 = 0 from rfl] at hrun; clear hown hgr; have hb4w := hb1.trans (hb4.mono hb1.size); have hlt4 : w.heap.size < w4.heap.size := Nat.lt_of_lt_of_le hlt hb4.size; have m0 := (hb4.cell (p := ⟨w.heap.size, 0, none⟩) hlt).trans b0; have m1 := (hb4.cell (p := ⟨w.heap.size, 1, none⟩) hlt).trans b1; have q0 := (World.frozen?_of_block (a := ⟨w.heap.size, 0, none⟩) (hb4.block w.heap.size hlt)).trans f0; have q1 := (World.frozen?_of_block (a := ⟨w.heap.size, 1, none⟩) (hb4.block w.heap.size hlt)).trans f1; obtain ⟨l0, l1⟩ := (HR.out.below hb4w HR.out.1).2 0 (by rw [HN.out]; decide); rw [HX.out] at l0 l1; simp only [Nat.zero_mul, Nat.add_zero] at l0 l1))
  refine bodyPost_ret (by simp [results, Try.results15, go_sem, m0, m1]; try rfl) rfl ?_
  exact ⟨w1.heap.size, rfl, ⟨by rw [size_setCell, size_setCell]; exact HW.lt, fun i hi => absurd hi (Nat.not_lt_zero _)⟩, hb1.size, (hb4w.setCell (p := ⟨w.heap.size, 0, none⟩) (Nat.le_refl _) _).setCell (p := ⟨w.heap.size, 1, none⟩) (Nat.le_refl _) _⟩

set_option maxHeartbeats 8000000 in
set_option maxRecDepth 4000 in
theorem heapPop_D (blk off cap m : Nat) (x0 x1 z0 z1 : Int) (xs : Array (Int × Int)) (w : World) (hm0 : 0 < m) (hm : m < 60) (HN : Hid (xs.size = m + 1)) (hcap : m + 1 ≤ cap) (HR : Hid (RdAt w blk off xs)) (HX : Hid (xs[0]! = (x0, x1))) (HZ : Hid (xs[m]! = (z0, z1)))
    (C1 : Hid (∀ w1, Below w.heap.size w w1 → Calls Try.prog 28 #[.slice (some ⟨blk, off, none⟩) (m + 1) cap] w1 fun e w' => e = .returned .nilIface ∧ Below w1.heap.size w1 w')) :
    Calls Try.prog 15 #[.slice (some ⟨blk, off, none⟩) (m + 1) cap] w fun e w' => ∃ g, e = .returned (.tuple #[.agg #[.int .i64 x0, .int .i64 x1], .slice (some ⟨g, 0, none⟩) m m, .nilIface]) ∧ RdAt w' g 0 (sinkA (xs.pop.setIfInBounds 0 (z0, z1)) 0) ∧ w.heap.size ≤ g ∧ Below w.heap.size w w' := by
  have hb0 : Below w.heap.size w (w.alloc (.cells #[.int .i64 0, .int .i64 0] 38)) := (Below.refl _ _).alloc (Nat.le_refl _) _
  have c1 := C1.out _ hb0
  obtain ⟨i0, hi, hz0, hz1, hz2⟩ := info_parts info_item
  have hmax : m ≤ maxLen := by unfold maxLen; omega
  have hmz : (0 : Int) < (m : Int) := by omega
  have hmq : ((m : Int) + 1 == 0) = false := beq_eq_false_iff_ne.2 (by omega)
  have hml : (m : Int) < (m : Int) + 1 := by omega
  obtain ⟨y0, y1, hy⟩ : ∃ x y, xs.pop[0]! = (x, y) := ⟨_, _, rfl⟩
  have HY : Hid (xs.pop[0]! = (y0, y1)) := hy
  have HNP : Hid (xs.pop.size = m) := by show _ = _; rw [Array.size_pop, HN.out]; rfl
  clear C1 hy
  go_enter Try.func15, Try.ntmps15
  go_wp2_with fail
  refine c1.mono ?_
  rintro e w1 ⟨rfl, hb1'⟩
  obtain ⟨b0, b1, f0, f1, hlt, hb1⟩ := cell_made hb1'
  have HS1 : Hid (Sl w1 (.slice (some ⟨blk, off, none⟩) (m + 1) cap) xs) := by show Sl _ _ _; rw [← HN.out]; exact Sl.of_rd (HR.out.below hb1 HR.out.1) (by rw [HN.out]; exact hcap)
  clear hb1' c1
  go_wp2_with (first | (at_make; refine wpList_make_full _ rfl (.tmp 22) (.tmp 22) 34 rfl w1.heap.size 38 i0 (.agg #[.int .i64 0, .int .i64 0]) 2 Try.underlying34 hi hz0 hz1 .i64 .i64 _ _ m rfl rfl (by omega) (by omega) (by rw [hz2]; omega) hmax (Nat.le_refl _) ?_; intro w3 hown hgr; obtain ⟨w4, hrun, HW, hb4⟩ := laidSl w1 w1 w3 m (m + 1) cap (some ⟨blk, off, none⟩) xs xs.pop (Below.refl _ _) HS1.out HN.out hown hgr HNP.out (fun i _ h => pop_get xs (by rw [HN.out]; omega)) (fun i h1 h2 => by omega); rw [show Nat.min (m + 1) m = m from Nat.min_eq_right (Nat.le_succ m)] at hrun; clear hown hgr; have hb4w := hb1.trans (hb4.mono hb1.size); obtain ⟨e0, e1, g0, g1⟩ := HW.cell (i := 0) (by rw [HNP.out]; exact hm0) HY.out; simp only [Nat.zero_mul, Nat.add_zero, Nat.zero_add] at e0 e1 g0 g1; obtain ⟨l0, l1⟩ := (HR.out.below hb4w HR.out.1).2 m (by rw [HN.out]; omega); rw [HZ.out] at l0 l1))
  have hw5 := HW.set (i := 0) (by rw [HNP.out]; exact hm0) (z0, z1)
  simp only [Nat.zero_mul, Nat.add_zero, Nat.zero_add] at hw5
  have hg5 : w4.grownBy ((w4.setCell ⟨w1.heap.size, 0, none⟩ (.int .i64 z0)).setCell ⟨w1.heap.size, 1, none⟩ (.int .i64 z1)) (some w1.heap.size) := gb_set (World.grownBy.refl _ _) _ _ _ _
  have HW5 : Hid (WrAt ((w4.setCell ⟨w1.heap.size, 0, none⟩ (.int .i64 z0)).setCell ⟨w1.heap.size, 1, none⟩ (.int .i64 z1)) w1.heap.size 0 (xs.pop.setIfInBounds 0 (z0, z1))) := hw5
  clear hw5 e0 e1 g0 g1 l0 l1 HW hrun HS1
  generalize (w4.setCell ⟨w1.heap.size, 0, none⟩ (.int .i64 z0)).setCell ⟨w1.heap.size, 1, none⟩ (.int .i64 z1) = w5 at hg5 HW5 ⊢
  have c := sink_any w1.heap.size 0 m m 0 (xs.pop.setIfInBounds 0 (z0, z1)) w5 (by omega) hm0 (by show _ = _; rw [Array.size_setIfInBounds]; exact HNP.out) HW5
  refine c.mono ?_
  rintro e w6 ⟨rfl, hw6, hg6⟩
  have hg46 := gb_trans hg5 hg6
  have hbk : w6.heap[w.heap.size]? = w1.heap[w.heap.size]? := (hg46.block w.heap.size (Nat.lt_of_lt_of_le hlt hb4.size) (by simp; omega)).trans (hb4.block w.heap.size hlt)
  have m0 := (World.cell?_of_block (a := ⟨w.heap.size, 0, none⟩) hbk).trans b0
  have m1 := (World.cell?_of_block (a := ⟨w.heap.size, 1, none⟩) hbk).trans b1
  have q0 := (World.frozen?_of_block (a := ⟨w.heap.size, 0, none⟩) hbk).trans f0
  have q1 := (World.frozen?_of_block (a := ⟨w.heap.size, 1, none⟩) hbk).trans f1
  have hb6 : Below w.heap.size w w6 := below_gb hb4w hg46 hb1.size hb4w.size
  obtain ⟨l0, l1⟩ := (HR.out.below hb6 HR.out.1).2 0 (by rw [HN.out]; omega)
  rw [HX.out] at l0 l1
  simp only [Nat.zero_mul, Nat.add_zero] at l0 l1
  have hw7 : WrAt ((w6.setCell ⟨w.heap.size, 0, none⟩ (.int .i64 x0)).setCell ⟨w.heap.size, 1, none⟩ (.int .i64 x1)) w1.heap.size 0 (sinkA (xs.pop.setIfInBounds 0 (z0, z1)) 0) := hw6.kept (row := some w.heap.size) (gb_set (World.grownBy.refl _ _) _ _ _ _) (by simp; omega)
  have HW7 : Hid (RdAt ((w6.setCell ⟨w.heap.size, 0, none⟩ (.int .i64 x0)).setCell ⟨w.heap.size, 1, none⟩ (.int .i64 x1)) w1.heap.size 0 (sinkA (xs.pop.setIfInBounds 0 (z0, z1)) 0)) := hw7.rd
  clear hw7 hw6 hg6 hg5 hg46 c b0 b1 f0 f1 hbk HW5 hb4w hb4 hb1
  go_wp2
  refine bodyPost_ret (by simp [results, Try.results15, go_sem, m0, m1]; try rfl) rfl ?_
  exact ⟨w1.heap.size, rfl, HW7.out, Nat.le_of_lt hlt, (hb6.setCell (p := ⟨w.heap.size, 0, none⟩) (Nat.le_refl _) _).setCell (p := ⟨w.heap.size, 1, none⟩) (Nat.le_refl _) _⟩

theorem heapPop_bad (p : Option Addr) (cap : Nat) (xs : Array (Int × Int)) (w : World) (h : Sl w (.slice p xs.size cap) xs) (hbig : xs.size ≤ 9223372036854775807) (h0 : wrongO xs ≠ 0) :
    Calls Try.prog 15 #[.slice p xs.size cap] w fun e w' => e = .returned (.tuple #[.agg #[.int .i64 0, .int .i64 0], .slice none 0 0, .iface 44 (.int .i64 (wrongO xs : Nat))]) ∧ Below w.heap.size w w' := by
  have c1 := fun w1 (hb : Below w.heap.size w w1) => heapCheck_any _ xs w1 (h.below hb) hbig
  unfold wrongO at h0 ⊢
  by_cases a : wrongH xs = 0
  · rw [if_pos a] at h0 ⊢
    rw [a] at c1
    by_cases b : xs.size = 0
    · rw [if_pos b]
      rw [b] at c1 ⊢
      exact heapPop_B p cap w c1
    · rw [if_neg b] at h0; omega
  · rw [if_neg a] at h0 ⊢
    rw [errV_pos a] at c1
    exact heapPop_A p _ cap _ w c1
theorem heapPop_fresh (p : Option Addr) (cap : Nat) (xs : Array (Int × Int)) (w : World) (h : Sl w (.slice p xs.size cap) xs) (h0 : wrongO xs = 0) :
    Calls Try.prog 15 #[.slice p xs.size cap] w fun e w' => ∃ g, e = .returned (.tuple #[.agg #[.int .i64 xs[0]!.1, .int .i64 xs[0]!.2], .slice (some ⟨g, 0, none⟩) (xs.size - 1) (xs.size - 1), .nilIface]) ∧ RdAt w' g 0 (hpop xs) ∧ w.heap.size ≤ g ∧ Below w.heap.size w w' := by
  obtain ⟨a, b⟩ := wrongO_zero h0
  have h60 := wrong_le (wrongH_zero a).1
  have c1 := fun w1 (hb : Below w.heap.size w w1) => heapCheck_any _ xs w1 (h.below hb) (by omega)
  rw [a] at c1
  obtain ⟨p', cap', e, hc, hq | ⟨blk, off, rfl, hr⟩⟩ := h
  · omega
  · simp only [Value.slice.injEq] at e
    obtain ⟨rfl, _, rfl⟩ := e
    obtain ⟨m, hm⟩ : ∃ m, xs.size = m + 1 := ⟨xs.size - 1, by omega⟩
    rw [hm] at c1 hc ⊢
    obtain ⟨x0, x1, hx⟩ : ∃ x y, xs[0]! = (x, y) := ⟨_, _, rfl⟩
    obtain ⟨z0, z1, hz⟩ : ∃ x y, xs[m]! = (x, y) := ⟨_, _, rfl⟩
    rw [hx, Nat.add_sub_cancel]
    rcases Nat.eq_zero_or_pos m with rfl | hm0
    · have eh : hpop xs = #[] := by unfold hpop; rw [if_pos (by omega)]
      rw [eh]
      exact heapPop_C blk off cap x0 x1 xs w hm hc hr hx c1
    · have eh : hpop xs = sinkA (xs.pop.setIfInBounds 0 (z0, z1)) 0 := by unfold hpop; rw [if_neg (by omega), hm, Nat.add_sub_cancel, hz]
      rw [eh]
      exact heapPop_D blk off cap m x0 x1 z0 z1 xs w hm0 (by omega) hm hc hr hx hz c1
theorem heapPop_good (p : Option Addr) (cap : Nat) (xs : Array (Int × Int)) (w : World) (h : Sl w (.slice p xs.size cap) xs) (h0 : wrongO xs = 0) :
    Calls Try.prog 15 #[.slice p xs.size cap] w fun e w' => ∃ g, e = .returned (.tuple #[.agg #[.int .i64 xs[0]!.1, .int .i64 xs[0]!.2], .slice (some ⟨g, 0, none⟩) (xs.size - 1) (xs.size - 1), .nilIface]) ∧ RdAt w' g 0 (hpop xs) ∧ Below w.heap.size w w' :=
  (heapPop_fresh p cap xs w h h0).mono fun _ _ ⟨g, a, b, _, c⟩ => ⟨g, a, b, c⟩
#print axioms heapPop_good
end Go.Proofs.Ytcjfbenbdjlodab
