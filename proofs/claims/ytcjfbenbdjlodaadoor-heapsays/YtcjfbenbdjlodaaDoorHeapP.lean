/-
  heap.Push.
-/
import Derived.Test.YtcjfbenbdjlodaaDoorHeapM
namespace Go.Proofs.YtcjfbenbdjlodaaDoor
open Go.RowKit Go.Sort Go.Proofs

theorem rd_one (w : World) (x0 x1 : Int) : RdAt (w.alloc (.cells #[.int .i64 x0, .int .i64 x1] 24)) w.heap.size 0 #[(x0, x1)] := by
  refine ⟨by simp, fun i hi => ?_⟩
  match i, hi with
  | 0, _ => exact ⟨by simp, by simp⟩
  | i + 1, hi => exact absurd hi (by simp)
theorem get_push_eq (d : Array (Int × Int)) (x : Int × Int) : (d.push x)[d.size]! = x := by rw [getElem!_pos _ _ (by simp)]; simp
theorem set_push (d : Array (Int × Int)) (x y : Int × Int) : (d.push x).setIfInBounds d.size y = d.push y := by
  apply Array.ext
  · simp
  · intro i h1 h2
    rw [Array.getElem_setIfInBounds (by simpa using h1)]
    by_cases c : d.size = i
    · subst c; simp
    · rw [if_neg c]
      have hi : i < d.size := by simp at h2; omega
      rw [Array.getElem_push_lt hi, Array.getElem_push_lt hi]

/-- The item that came in, boxed. -/
theorem box_cells {w w1 : World} {x0 x1 : Int} (hb : Below (w.alloc (.cells #[.int .i64 x0, .int .i64 x1] 24)).heap.size (w.alloc (.cells #[.int .i64 x0, .int .i64 x1] 24)) w1) :
    w1.cell? ⟨w.heap.size, 0, none⟩ = some (.int .i64 x0) ∧ w1.cell? ⟨w.heap.size, 1, none⟩ = some (.int .i64 x1) ∧ w.heap.size < w1.heap.size ∧ Below w.heap.size w w1 := by
  have hl : w.heap.size < (w.alloc (.cells #[.int .i64 x0, .int .i64 x1] 24)).heap.size := by simp
  refine ⟨(hb.cell (p := ⟨w.heap.size, 0, none⟩) hl).trans (by simp), (hb.cell (p := ⟨w.heap.size, 1, none⟩) hl).trans (by simp), Nat.lt_of_lt_of_le hl hb.size, ((Below.refl _ _).alloc (Nat.le_refl _) _).trans (hb.mono (by simp))⟩

set_option maxHeartbeats 4000000 in
theorem heapPush_A (p : Option Addr) (n cap k : Nat) (x0 x1 : Int) (w : World) (C1 : Hid (∀ w1, Below w.heap.size w w1 → Calls Tryd.prog 11 #[.slice p n cap] w1 fun e w' => e = .returned (.iface 44 (.int .i64 k)) ∧ Below w1.heap.size w1 w')) :
    Calls Tryd.prog 13 #[.slice p n cap, .agg #[.int .i64 x0, .int .i64 x1]] w fun e w' => e = .returned (.tuple #[.slice none 0 0, .iface 44 (.int .i64 k)]) ∧ Below w.heap.size w w' := by
  have hb0 : Below w.heap.size w (w.alloc (.cells #[.int .i64 x0, .int .i64 x1] 24)) := (Below.refl _ _).alloc (Nat.le_refl _) _
  have c1 := C1.out _ hb0
  clear C1
  go_enter Tryd.func13, Tryd.ntmps13
  go_wp2_with fail
  refine c1.mono ?_
  rintro e w1 ⟨rfl, hb1'⟩
  have hb1 := (box_cells hb1').2.2.2
  go_wp2
  go_ret2
  exact ⟨rfl, hb1⟩

set_option maxHeartbeats 4000000 in
theorem heapPush_B (p : Option Addr) (n cap k : Nat) (x0 x1 : Int) (w : World) (C1 : Hid (∀ w1, Below w.heap.size w w1 → Calls Tryd.prog 11 #[.slice p n cap] w1 fun e w' => e = .returned .nilIface ∧ Below w1.heap.size w1 w'))
    (C2 : Hid (∀ w1, Calls Tryd.prog 21 #[.slice (some ⟨w1.heap.size, 0, none⟩) 1 1] (w1.alloc (.cells #[.int .i64 x0, .int .i64 x1] 24)) fun e w' => e = .returned (.iface 44 (.int .i64 k)) ∧ Below w1.heap.size w1 w')) :
    Calls Tryd.prog 13 #[.slice p n cap, .agg #[.int .i64 x0, .int .i64 x1]] w fun e w' => e = .returned (.tuple #[.slice none 0 0, .iface 44 (.int .i64 k)]) ∧ Below w.heap.size w w' := by
  have hb0 : Below w.heap.size w (w.alloc (.cells #[.int .i64 x0, .int .i64 x1] 24)) := (Below.refl _ _).alloc (Nat.le_refl _) _
  have c1 := C1.out _ hb0
  clear C1
  go_enter Tryd.func13, Tryd.ntmps13
  go_wp2_with fail
  refine c1.mono ?_
  rintro e w1 ⟨rfl, hb1'⟩
  obtain ⟨b0, b1, hlt, hb1⟩ := box_cells hb1'
  clear hb1' c1
  go_wp2_with fail
  refine (C2.out w1).mono ?_
  rintro e w2 ⟨rfl, hb2'⟩
  have hb2 := hb1.trans (hb2'.mono hb1.size)
  go_wp2
  go_ret2
  exact ⟨rfl, hb2⟩

set_option maxHeartbeats 4000000 in
theorem heapPush_C (p : Option Addr) (n cap : Nat) (hn : 60 ≤ n) (hbig : n ≤ 9223372036854775807) (x0 x1 : Int) (w : World) (C1 : Hid (∀ w1, Below w.heap.size w w1 → Calls Tryd.prog 11 #[.slice p n cap] w1 fun e w' => e = .returned .nilIface ∧ Below w1.heap.size w1 w'))
    (C2 : Hid (∀ w1, Calls Tryd.prog 21 #[.slice (some ⟨w1.heap.size, 0, none⟩) 1 1] (w1.alloc (.cells #[.int .i64 x0, .int .i64 x1] 24)) fun e w' => e = .returned .nilIface ∧ Below w1.heap.size w1 w')) :
    Calls Tryd.prog 13 #[.slice p n cap, .agg #[.int .i64 x0, .int .i64 x1]] w fun e w' => e = .returned (.tuple #[.slice none 0 0, .iface 44 (.int .i64 4)]) ∧ Below w.heap.size w w' := by
  have hb0 : Below w.heap.size w (w.alloc (.cells #[.int .i64 x0, .int .i64 x1] 24)) := (Below.refl _ _).alloc (Nat.le_refl _) _
  have c1 := C1.out _ hb0
  have hnz : (60 : Int) ≤ (n : Int) := by omega
  clear C1
  go_enter Tryd.func13, Tryd.ntmps13
  go_wp2_with fail
  refine c1.mono ?_
  rintro e w1 ⟨rfl, hb1'⟩
  obtain ⟨b0, b1, hlt, hb1⟩ := box_cells hb1'
  clear hb1' c1
  go_wp2_with fail
  refine (C2.out w1).mono ?_
  rintro e w2 ⟨rfl, hb2'⟩
  have hb2 := hb1.trans (hb2'.mono hb1.size)
  go_wp2
  go_ret2
  exact ⟨rfl, hb2⟩

set_option maxHeartbeats 8000000 in
set_option maxRecDepth 4000 in
theorem heapPush_D (p : Option Addr) (n cap : Nat) (hn : n < 60) (x0 x1 : Int) (xs : Array (Int × Int)) (w : World) (HN : Hid (xs.size = n)) (HS : Hid (Sl w (.slice p n cap) xs))
    (C1 : Hid (∀ w1, Below w.heap.size w w1 → Calls Tryd.prog 11 #[.slice p n cap] w1 fun e w' => e = .returned .nilIface ∧ Below w1.heap.size w1 w'))
    (C2 : Hid (∀ w1, Calls Tryd.prog 21 #[.slice (some ⟨w1.heap.size, 0, none⟩) 1 1] (w1.alloc (.cells #[.int .i64 x0, .int .i64 x1] 24)) fun e w' => e = .returned .nilIface ∧ Below w1.heap.size w1 w')) :
    Calls Tryd.prog 13 #[.slice p n cap, .agg #[.int .i64 x0, .int .i64 x1]] w fun e w' => ∃ g, e = .returned (.tuple #[.slice (some ⟨g, 0, none⟩) (n + 1) (n + 1), .nilIface]) ∧ RdAt w' g 0 (hpush xs (x0, x1)) ∧ Below w.heap.size w w' := by
  have hb0 : Below w.heap.size w (w.alloc (.cells #[.int .i64 x0, .int .i64 x1] 24)) := (Below.refl _ _).alloc (Nat.le_refl _) _
  have c1 := C1.out _ hb0
  have hnz : ¬ (60 : Int) ≤ (n : Int) := by omega
  obtain ⟨i0, hi, hz0, hz1, hz2⟩ := info_parts info_item
  have hmax : n + 1 ≤ maxLen := by unfold maxLen; omega
  clear C1
  go_enter Tryd.func13, Tryd.ntmps13
  go_wp2_with fail
  refine c1.mono ?_
  rintro e w1 ⟨rfl, hb1'⟩
  obtain ⟨b0, b1, hlt, hb1⟩ := box_cells hb1'
  clear hb1' c1
  go_wp2_with fail
  refine (C2.out w1).mono ?_
  rintro e w2 ⟨rfl, hb2'⟩
  have hb2 := hb1.trans (hb2'.mono hb1.size)
  have HS2 : Hid (Sl w2 (.slice p n cap) xs) := HS.out.below hb2
  have d0 : w2.cell? ⟨w.heap.size, 0, none⟩ = some (.int .i64 x0) := (hb2'.cell (p := ⟨w.heap.size, 0, none⟩) hlt).trans b0
  have d1 : w2.cell? ⟨w.heap.size, 1, none⟩ = some (.int .i64 x1) := (hb2'.cell (p := ⟨w.heap.size, 1, none⟩) hlt).trans b1
  have hlt2 : w.heap.size < w2.heap.size := Nat.lt_of_lt_of_le hlt hb2'.size
  clear b0 b1 hlt hb2' hb1 C2
  go_wp2_with (first | (at_make; refine wpList_make_full _ rfl (.tmp 26) (.tmp 26) 22 rfl w2.heap.size 24 i0 (.agg #[.int .i64 0, .int .i64 0]) 2 Tryd.underlying22 hi hz0 hz1 .i64 .i64 _ _ (n + 1) rfl rfl (by omega) (by omega) (by rw [hz2]; omega) hmax (Nat.le_refl _) ?_; intro w3 hown hgr; obtain ⟨w4, hrun, HW, hb4⟩ := laidSl w2 w2 w3 (n + 1) n cap p xs (xs.push (0, 0)) (Below.refl _ _) HS2.out HN.out hown hgr (by rw [Array.size_push, HN.out]) (fun i h1 _ => get_push_lt xs _ (by rw [HN.out]; exact h1)) (fun i h1 h2 => by obtain rfl : i = xs.size := (by rw [HN.out]; omega); exact get_push_eq xs _); rw [show Nat.min n (n + 1) = n from Nat.min_eq_left (Nat.le_succ n)] at hrun; clear hown hgr; obtain ⟨e0, e1, f0, f1⟩ := HW.cell (i := n) (by rw [Array.size_push, HN.out]; omega) (x := (0, 0)) (by rw [← HN.out]; exact get_push_eq xs _); simp only [Nat.zero_add] at e0 e1 f0 f1; have m0 := (hb4.cell (p := ⟨w.heap.size, 0, none⟩) hlt2).trans d0; have m1 := (hb4.cell (p := ⟨w.heap.size, 1, none⟩) hlt2).trans d1))
  have hw5 := HW.set (i := n) (by rw [Array.size_push, HN.out]; omega) (x0, x1)
  simp only [Nat.zero_add] at hw5
  have e5 : (xs.push (0, 0)).setIfInBounds n (x0, x1) = xs.push (x0, x1) := by rw [← HN.out]; exact set_push xs _ _
  rw [e5] at hw5
  have hg5 : w4.grownBy ((w4.setCell ⟨w2.heap.size, n * 2, none⟩ (.int .i64 x0)).setCell ⟨w2.heap.size, n * 2 + 1, none⟩ (.int .i64 x1)) (some w2.heap.size) := gb_set (World.grownBy.refl _ _) _ _ _ _
  have hbw : Below w.heap.size w w4 := hb2.trans (hb4.mono hb2.size)
  have HB5 := below_gb hbw hg5 hb2.size hbw.size
  have HW5 : Hid (WrAt ((w4.setCell ⟨w2.heap.size, n * 2, none⟩ (.int .i64 x0)).setCell ⟨w2.heap.size, n * 2 + 1, none⟩ (.int .i64 x1)) w2.heap.size 0 (xs.push (x0, x1))) := hw5
  have hgB : w.heap.size ≤ w2.heap.size := hb2.size
  clear hw5 hg5 hbw e5 e0 e1 f0 f1 m0 m1 d0 d1 HW hb4 hrun hb2 HS2
  generalize (w4.setCell ⟨w2.heap.size, n * 2, none⟩ (.int .i64 x0)).setCell ⟨w2.heap.size, n * 2 + 1, none⟩ (.int .i64 x1) = w5 at HB5 HW5 ⊢
  have HU : Hid (upA (xs.push (x0, x1)) n = hpush xs (x0, x1)) := by show _ = _; unfold hpush; rw [HN.out]
  have c := rise_any w2.heap.size 0 (n + 1) (n + 1) n (xs.push (x0, x1)) w5 (by omega) (by omega) (by show _ = _; rw [Array.size_push, HN.out]) HW5
  refine c.mono ?_
  rintro e w6 ⟨rfl, hw6, hg6⟩
  have HR6 : Hid (RdAt w6 w2.heap.size 0 (hpush xs (x0, x1))) := by show RdAt _ _ _ _; rw [← HU.out]; exact hw6.rd
  have HB6 := below_gb HB5 hg6 hgB HB5.size
  clear c hw6 hg6 HB5 HW5
  go_wp2
  go_ret2
  exact ⟨_, rfl, HR6.out, HB6⟩

/-- What is wrong with a heap and an item that is to be pushed. -/
def wrongP (xs : Array (Int × Int)) (x : Int × Int) : Nat := if wrongH xs = 0 then (if wrong #[x] = 0 then (if xs.size < 60 then 0 else 4) else wrong #[x]) else wrongH xs
theorem wrongP_zero {xs : Array (Int × Int)} {x : Int × Int} (h : wrongP xs x = 0) : wrongH xs = 0 ∧ wrong #[x] = 0 ∧ xs.size < 60 := by
  unfold wrongP at h
  by_cases a : wrongH xs = 0
  · rw [if_pos a] at h
    by_cases b : wrong #[x] = 0
    · rw [if_pos b] at h
      by_cases c : xs.size < 60
      · exact ⟨a, b, c⟩
      · rw [if_neg c] at h; omega
    · rw [if_neg b] at h; exact absurd h b
  · rw [if_neg a] at h; exact absurd h a

theorem heapPush_bad (p : Option Addr) (cap : Nat) (x0 x1 : Int) (xs : Array (Int × Int)) (w : World) (h : Sl w (.slice p xs.size cap) xs) (hbig : xs.size ≤ 9223372036854775807) (h0 : wrongP xs (x0, x1) ≠ 0) :
    Calls Tryd.prog 13 #[.slice p xs.size cap, .agg #[.int .i64 x0, .int .i64 x1]] w fun e w' => e = .returned (.tuple #[.slice none 0 0, .iface 44 (.int .i64 (wrongP xs (x0, x1) : Nat))]) ∧ Below w.heap.size w w' := by
  have c1 := fun w1 (hb : Below w.heap.size w w1) => heapCheck_any _ xs w1 (h.below hb) hbig
  have c2 : ∀ w1 : World, Calls Tryd.prog 21 #[.slice (some ⟨w1.heap.size, 0, none⟩) 1 1] (w1.alloc (.cells #[.int .i64 x0, .int .i64 x1] 24)) fun e w' => e = .returned (errV (wrong #[(x0, x1)])) ∧ Below w1.heap.size w1 w' :=
    fun w1 => (check_any _ #[(x0, x1)] _ (Sl.of_rd (cap := 1) (rd_one w1 x0 x1) (by simp)) (by simp)).mono fun e w' ⟨a, b⟩ => ⟨a, ((Below.refl _ _).alloc (Nat.le_refl _) _).trans (b.mono (by simp))⟩
  unfold wrongP at h0 ⊢
  by_cases a : wrongH xs = 0
  · rw [if_pos a] at h0 ⊢
    rw [a] at c1
    by_cases b : wrong #[(x0, x1)] = 0
    · rw [if_pos b] at h0 ⊢
      rw [b] at c2
      by_cases c : xs.size < 60
      · rw [if_pos c] at h0; omega
      · rw [if_neg c]; exact heapPush_C p _ cap (by omega) hbig x0 x1 w c1 c2
    · rw [if_neg b] at h0 ⊢
      rw [errV_pos b] at c2
      exact heapPush_B p _ cap _ x0 x1 w c1 c2
  · rw [if_neg a] at h0 ⊢
    rw [errV_pos a] at c1
    exact heapPush_A p _ cap _ x0 x1 w c1
theorem heapPush_good (p : Option Addr) (cap : Nat) (x0 x1 : Int) (xs : Array (Int × Int)) (w : World) (h : Sl w (.slice p xs.size cap) xs) (h0 : wrongP xs (x0, x1) = 0) :
    Calls Tryd.prog 13 #[.slice p xs.size cap, .agg #[.int .i64 x0, .int .i64 x1]] w fun e w' => ∃ g, e = .returned (.tuple #[.slice (some ⟨g, 0, none⟩) (xs.size + 1) (xs.size + 1), .nilIface]) ∧ RdAt w' g 0 (hpush xs (x0, x1)) ∧ Below w.heap.size w w' := by
  obtain ⟨a, b, c⟩ := wrongP_zero h0
  have c1 := fun w1 (hb : Below w.heap.size w w1) => heapCheck_any _ xs w1 (h.below hb) (by omega)
  have c2 : ∀ w1 : World, Calls Tryd.prog 21 #[.slice (some ⟨w1.heap.size, 0, none⟩) 1 1] (w1.alloc (.cells #[.int .i64 x0, .int .i64 x1] 24)) fun e w' => e = .returned (errV (wrong #[(x0, x1)])) ∧ Below w1.heap.size w1 w' :=
    fun w1 => (check_any _ #[(x0, x1)] _ (Sl.of_rd (cap := 1) (rd_one w1 x0 x1) (by simp)) (by simp)).mono fun e w' ⟨a, b⟩ => ⟨a, ((Below.refl _ _).alloc (Nat.le_refl _) _).trans (b.mono (by simp))⟩
  rw [a] at c1
  rw [b] at c2
  exact heapPush_D p xs.size cap c x0 x1 xs w rfl h c1 c2
#print axioms heapPush_good
end Go.Proofs.YtcjfbenbdjlodaaDoor
