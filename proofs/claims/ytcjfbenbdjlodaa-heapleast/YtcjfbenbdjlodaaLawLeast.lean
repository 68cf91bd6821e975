/-
  The law HeapLeast, walked: what comes first is the least; and no item of a heap is less than one above it, however far.
-/
import Derived.Test.YtcjfbenbdjlodaaHeapF
import Derived.Test.YtcjfbenbdjlodaaHeapO
namespace Go.Proofs.Ytcjfbenbdjlodaa
open Go.RowKit Go.Sort Go.Proofs

set_option maxHeartbeats 4000000 in
theorem heapLeast_A (p : Option Addr) (n cap k : Nat) (i : Int) (w : World) (C1 : Hid (∀ w1, Below w.heap.size w w1 → Calls Try.prog 8 #[.slice p n cap] w1 fun e w' => e = .returned (.tuple #[.slice none 0 0, .iface 48 (.int .i64 k)]) ∧ Below w1.heap.size w1 w')) :
    Calls Try.prog 3 #[.slice p n cap, .int .i64 i] w fun e w' => e = .returned (.bool true) ∧ Below w.heap.size w w' := by
  have c0 := heapFact_any w
  go_enter Try.func3, Try.ntmps3
  go_wp2_with fail
  refine c0.mono ?_
  rintro e w1 ⟨rfl, hb1⟩
  go_wp2_with fail
  refine (C1.out w1 hb1).mono ?_
  rintro e w2 ⟨rfl, hb2'⟩
  have hb2 := hb1.trans (hb2'.mono hb1.size)
  go_wp2
  go_ret
  exact ⟨rfl, hb2⟩
set_option maxHeartbeats 4000000 in
theorem heapLeast_B (p : Option Addr) (cap : Nat) (i : Int) (w : World) (C1 : Hid (∀ w1, Below w.heap.size w w1 → Calls Try.prog 8 #[.slice p 0 cap] w1 fun e w' => ∃ g, e = .returned (.tuple #[.slice (some ⟨g, 0, none⟩) 0 0, .nilIface]) ∧ Below w1.heap.size w1 w')) :
    Calls Try.prog 3 #[.slice p 0 cap, .int .i64 i] w fun e w' => e = .returned (.bool true) ∧ Below w.heap.size w w' := by
  have c0 := heapFact_any w
  go_enter Try.func3, Try.ntmps3
  go_wp2_with fail
  refine c0.mono ?_
  rintro e w1 ⟨rfl, hb1⟩
  go_wp2_with fail
  refine (C1.out w1 hb1).mono ?_
  rintro e w2 ⟨g, rfl, hb2'⟩
  have hb2 := hb1.trans (hb2'.mono hb1.size)
  go_wp2
  go_ret
  exact ⟨rfl, hb2⟩
set_option maxHeartbeats 8000000 in
set_option maxRecDepth 4000 in
theorem heapLeast_C (blk off cap n : Nat) (i : Int) (x0 x1 : Int) (xs D : Array (Int × Int)) (w : World) (hn0 : 0 < n) (hn : n ≤ 60) (HR : Hid (RdAt w blk off xs)) (HN : Hid (xs.size = n)) (HDN : Hid (D.size = n)) (HL : Hid (∀ k, k < n → x0 ≤ xs[k]!.1)) (HF : Hid (HeapFrom 0 D))
    (C1 : Hid (∀ w1, Below w.heap.size w w1 → Calls Try.prog 8 #[.slice (some ⟨blk, off, none⟩) n cap] w1 fun e w' => ∃ g, e = .returned (.tuple #[.slice (some ⟨g, 0, none⟩) n n, .nilIface]) ∧ RdAt w' g 0 D ∧ Below w1.heap.size w1 w'))
    (C2 : Hid (∀ w1 g, RdAt w1 g 0 D → Calls Try.prog 9 #[.slice (some ⟨g, 0, none⟩) n n] w1 fun e w' => ∃ u, e = .returned (.tuple #[.agg #[.int .i64 x0, .int .i64 x1], u, .nilIface]) ∧ Below w1.heap.size w1 w')) :
    Calls Try.prog 3 #[.slice (some ⟨blk, off, none⟩) n cap, .int .i64 i] w fun e w' => e = .returned (.bool true) ∧ Below w.heap.size w w' := by
  have c0 := heapFact_any w
  have hq : ((n : Int) == 0) = false := beq_eq_false_iff_ne.2 (by omega)
  go_enter Try.func3, Try.ntmps3
  go_wp2_with fail
  refine c0.mono ?_
  rintro e w1 ⟨rfl, hb1⟩
  go_wp2_with fail
  refine (C1.out w1 hb1).mono ?_
  rintro e w2 ⟨g, rfl, hrd, hb2'⟩
  have hb2 := hb1.trans (hb2'.mono hb1.size)
  have HRD : Hid (RdAt w2 g 0 D) := hrd
  have c2 := C2.out w2 g hrd
  clear hrd hb2' hb1 C1 C2 c0
  go_wp2_with fail
  refine c2.mono ?_
  rintro e w3 ⟨u, rfl, hb3'⟩
  have hb3 := hb2.trans (hb3'.mono hb2.size)
  have HRD3 : Hid (RdAt w3 g 0 D) := HRD.out.below hb3' HRD.out.1
  clear c2 hb3' hb2 HRD
  go_wp2
  have hb4 : Below w.heap.size w (w3.alloc (.cells #[.int .i64 x0, .int .i64 x1] 29)) := hb3.alloc hb3.size _
  have HX4 : Hid (RdAt (w3.alloc (.cells #[.int .i64 x0, .int .i64 x1] 29)) blk off xs) := HR.out.below hb4 HR.out.1
  have HD4 : Hid (RdAt (w3.alloc (.cells #[.int .i64 x0, .int .i64 x1] 29)) g 0 D) := HRD3.out.below ((Below.refl w3.heap.size w3).alloc (Nat.le_refl _) _) HRD3.out.1
  have k0 : (w3.alloc (.cells #[.int .i64 x0, .int .i64 x1] 29)).cell? ⟨w3.heap.size, 0, none⟩ = some (.int .i64 x0) := by simp
  clear HRD3 hb3
  generalize w3.alloc (.cells #[.int .i64 x0, .int .i64 x1] 29) = w4 at hb4 HX4 HD4 k0 ⊢
  generalize w3.heap.size = bx at k0 ⊢
  go_loopg [11] n (fun gg vi wr => ∃ k q : Nat, vi = .int .i64 k ∧ k + gg = n ∧ wr = w4.drewN q)
  case atStart => exact ⟨0, 0, rfl, by omega, rfl⟩
  case round =>
    obtain ⟨k, q, rfl, hg, rfl⟩ := hrel
    by_cases hlt : k < n
    · have hlz : (k : Int) < (n : Int) := by omega
      obtain ⟨y0, y1, hy⟩ : ∃ x y, xs[k]! = (x, y) := ⟨_, _, rfl⟩
      obtain ⟨cy0, cy1⟩ := HX4.out.2 k (by rw [HN.out]; exact hlt)
      rw [hy] at cy0 cy1
      have hle : x0 ≤ y0 := by have := HL.out k hlt; rw [hy] at this; exact this
      have hd : decide (y0 < x0) = false := decide_eq_false (by omega)
      clear hy
      go_wp2_with fail
      go_quiet (fail)
      go_wp2
      go_roundg (n - (k + 1))
      case measure => omega
      case rel => exact ⟨k + 1, q + nq, by go_num, by omega, by first | rfl | rw [World.drewN_drewN]⟩
    · have hlz : ¬ (k : Int) < (n : Int) := by omega
      have hbq : Below w.heap.size w (w4.drewN q) := below_drewN hb4 q
      have HDq : Hid (RdAt (w4.drewN q) g 0 D) := HD4.out
      clear k0 HX4 HD4 hb4
      generalize w4.drewN q = w5 at hbq HDq ⊢
      by_cases hi0 : i < 0
      · go_wp2
        go_ret
        exact ⟨rfl, hbq⟩
      · by_cases hin : (n : Int) ≤ i
        · go_wp2
          go_ret
          exact ⟨rfl, hbq⟩
        · obtain ⟨j0, rfl⟩ : ∃ j : Nat, i = (j : Int) := ⟨i.toNat, by omega⟩
          have hj0 : j0 < n := by omega
          have hjz : (j0 : Int) < (n : Int) := by omega
          obtain ⟨y0, y1, hy⟩ : ∃ x y, D[j0]! = (x, y) := ⟨_, _, rfl⟩
          obtain ⟨cy0, cy1⟩ := HDq.out.2 j0 (by rw [HDN.out]; exact hj0)
          rw [hy] at cy0 cy1
          simp only [Nat.zero_add] at cy0 cy1
          have HY : Hid (D[j0]! = (y0, y1)) := hy
          clear hy
          go_wp2
          go_loopg [1] j0 (fun gg vi wr => ∃ j : Nat, vi = .int .i64 j ∧ j ≤ gg ∧ j < n ∧ wr = w5 ∧ Hid (D[j]!.1 ≤ y0))
          case atStart => exact ⟨j0, rfl, Nat.le_refl _, hj0, rfl, (show _ ≤ _ by rw [HY.out]; exact Int.le_refl _)⟩
          case round =>
            obtain ⟨j, rfl, hjg, hjn, rfl, HJ⟩ := hrel
            by_cases h0 : 0 < j
            · obtain ⟨m, rfl⟩ : ∃ m, j = m + 1 := ⟨j - 1, by omega⟩
              have h0z : (0 : Int) < (m : Int) + 1 := by omega
              have t1 : Int.tdiv (m : Int) 2 = ((m / 2 : Nat) : Int) := by rw [Int.tdiv_eq_ediv_of_nonneg (by omega)]; omega
              obtain ⟨p, hp⟩ : ∃ p, m / 2 = p := ⟨_, rfl⟩
              rw [hp] at t1
              have hpz : (p : Int) < (n : Int) := by omega
              have hpm : p < m + 1 := by omega
              have hpn : p < n := by omega
              obtain ⟨z0, z1, hz⟩ : ∃ x y, D[p]! = (x, y) := ⟨_, _, rfl⟩
              obtain ⟨cz0, cz1⟩ := HDq.out.2 p (by rw [HDN.out]; exact hpn)
              rw [hz] at cz0 cz1
              simp only [Nat.zero_add] at cz0 cz1
              have hzy : z0 ≤ y0 := by
                have h1 := HF.out (m + 1) (by omega) (by rw [HDN.out]; exact hjn) (Nat.zero_le _)
                have h2 := HJ.out
                rw [show (m + 1 - 1) / 2 = p by omega, hz] at h1
                exact Int.le_trans h1 h2
              have hzd : decide (y0 < z0) = false := decide_eq_false (by omega)
              have HZ : Hid (D[p]!.1 ≤ y0) := by show _ ≤ _; rw [hz]; exact hzy
              have HP : Hid (m / 2 = p) := hp
              clear hz hp
              go_wp2
              go_roundg p
              case measure => omega
              case rel => exact ⟨p, by go_num, Nat.le_refl _, hpn, rfl, HZ⟩
            · obtain rfl : j = 0 := by omega
              go_wp2
              go_ret
              exact ⟨rfl, hbq⟩

theorem heapLeast_any (v : Value) (i : Int) (xs : Array (Int × Int)) (w : World) (h : Sl w v xs) (hbig : xs.size ≤ 9223372036854775807) :
    Calls Try.prog 3 #[v, .int .i64 i] w fun e w' => e = .returned (.bool true) ∧ Below w.heap.size w w' := by
  obtain ⟨p, cap, rfl, hcap, hp⟩ := id h
  by_cases h0 : wrong xs = 0
  · have h60 := wrong_le h0
    have c1 := fun w1 (hb : Below w.heap.size w w1) => heapMake_good _ xs w1 (h.below hb) h0
    rcases Nat.eq_zero_or_pos xs.size with hn | hn
    · rw [hn] at c1 ⊢
      exact heapLeast_B p cap i w fun w1 hb => (c1 w1 hb).mono fun e w' ⟨g, a, _, b⟩ => ⟨g, a, b⟩
    · rcases hp with hp | ⟨blk, off, rfl, hr⟩
      · omega
      · have hO : wrongO (hmake xs) = 0 := by unfold wrongO; rw [if_pos (wrongH_make h0), if_neg (by rw [hmake_size]; omega)]
        refine heapLeast_C blk off cap xs.size i (hmake xs)[0]!.1 (hmake xs)[0]!.2 xs (hmake xs) w hn h60 hr rfl (hmake_size xs) (show ∀ k, k < xs.size → _ from fun k hk => ?_) (hmake_heap xs) c1 (show ∀ w1 g, RdAt w1 g 0 (hmake xs) → _ from fun w1 g hg => ?_)
        · have hm : xs[k]! ∈ (hmake xs).toList := (hmake_perm xs).mem_iff.2 (by rw [getElem!_pos xs k hk]; simp)
          obtain ⟨t, ht, e⟩ := List.getElem_of_mem hm
          have ht' : t < (hmake xs).size := by simpa using ht
          have := (hmake_heap xs).root t ht'
          rw [getElem!_pos (hmake xs) t ht'] at this
          rw [← e]; simpa using this
        · have hsl : Sl w1 (.slice (some ⟨g, 0, none⟩) (hmake xs).size xs.size) (hmake xs) := Sl.of_rd hg (by rw [hmake_size]; exact Nat.le_refl _)
          have c := heapPop_good _ xs.size (hmake xs) w1 hsl hO
          rw [hmake_size] at c
          exact c.mono fun e w' ⟨g, a, _, b⟩ => ⟨_, a, b⟩
  · exact heapLeast_A p _ cap _ i w fun w1 hb => heapMake_bad _ xs w1 (h.below hb) hbig _ rfl h0
#print axioms heapLeast_any
end Go.Proofs.Ytcjfbenbdjlodaa
