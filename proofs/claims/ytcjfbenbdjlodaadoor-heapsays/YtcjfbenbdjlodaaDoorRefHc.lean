/-
  The document's Heap: what is wrong with one in a list.
-/
import Derived.Test.YtcjfbenbdjlodaaDoorHeapC
import Derived.Test.YtcjfbenbdjlodaaDoorRef1
namespace Go.Proofs.YtcjfbenbdjlodaaDoor
open Go.RowKit Go.Sort Go.Proofs

set_option maxHeartbeats 4000000 in
theorem refHeap_bad (p : Option Addr) (n cap k : Nat) (w : World) (hk : k ≠ 0) (hn0 : 0 < n) (hn : n ≤ 9223372036854775807) (C : Hid (Calls Tryd.prog 5 #[.slice p n cap] w fun e w' => e = .returned (.int .i64 k) ∧ w' = w)) :
    Calls Tryd.prog 10 #[.slice p n cap] w fun e w' => e = .returned (.int .i64 k) ∧ Below w.heap.size w w' := by
  have hkq : ((k : Int) == 0) = false := beq_eq_false_iff_ne.2 (by omega)
  have hnz : (0 : Int) < (n : Int) := by omega
  go_enter Tryd.func10, Tryd.ntmps10
  go_wp2_with fail
  refine C.out.mono ?_
  rintro e w1 ⟨rfl, rfl⟩
  go_wp2
  go_loop [3, 4] (fun e i => e = .int .i64 k ∧ i = .int .i64 0) (fun _ _ => 0)
  case atStart => exact ⟨rfl, rfl⟩
  case round =>
    obtain ⟨rfl, rfl⟩ := hrel
    go_wp2
    go_ret
    exact ⟨rfl, Below.refl _ _⟩
set_option maxHeartbeats 4000000 in
theorem refHeap_none (p : Option Addr) (cap : Nat) (w : World) :
    Calls Tryd.prog 10 #[.slice p 0 cap] w fun e w' => e = .returned (.int .i64 0) ∧ Below w.heap.size w w' := by
  have c := refItems_none p cap w
  go_enter Tryd.func10, Tryd.ntmps10
  go_wp2_with fail
  refine c.mono ?_
  rintro e w1 ⟨rfl, rfl⟩
  go_wp2
  go_loop [3, 4] (fun e i => e = .int .i64 0 ∧ i = .int .i64 0) (fun _ _ => 0)
  case atStart => exact ⟨rfl, rfl⟩
  case round =>
    obtain ⟨rfl, rfl⟩ := hrel
    go_wp2
    go_ret
    exact ⟨rfl, Below.refl _ _⟩
set_option maxHeartbeats 16000000 in
set_option maxRecDepth 4000 in
theorem refHeap_some (blk off cap n : Nat) (xs : Array (Int × Int)) (w : World) (hn0 : 0 < n) (h60 : n ≤ 60) (HR : Hid (RdAt w blk off xs)) (HN : Hid (xs.size = n)) (C : Hid (Calls Tryd.prog 5 #[.slice (some ⟨blk, off, none⟩) n cap] w fun e w' => e = .returned (.int .i64 0) ∧ w' = w)) :
    Calls Tryd.prog 10 #[.slice (some ⟨blk, off, none⟩) n cap] w fun e w' => e = .returned (.int .i64 (heapE xs : Nat)) ∧ Below w.heap.size w w' := by
  go_enter Tryd.func10, Tryd.ntmps10
  go_wp2_with fail
  refine C.out.mono ?_
  rintro e w1 ⟨rfl, rfl⟩
  clear C
  go_wp2
  go_loopg [3, 4] n (fun gg ve vi wr => ∃ i q k : Nat, ve = .int .i64 k ∧ vi = .int .i64 i ∧ i + gg = n ∧ wr = w1.drewN q ∧ ((k = 0 ∧ Hid (∀ j, 0 < j → j < n → (j - 1) / 2 < i → xs[(j - 1) / 2]!.1 ≤ xs[j]!.1)) ∨ (k = 3 ∧ Hid (heapE xs = 3))))
  case atStart => exact ⟨0, 0, 0, rfl, rfl, by omega, rfl, Or.inl ⟨rfl, (show ∀ j, 0 < j → j < n → (j - 1) / 2 < 0 → _ from fun j _ _ h => absurd h (Nat.not_lt_zero _))⟩⟩
  case round =>
    obtain ⟨i, q, k, rfl, rfl, hg, rfl, ⟨rfl, HO⟩ | ⟨rfl, HE⟩⟩ := hrel
    · by_cases hlt : i < n
      · have hlz : (i : Int) < (n : Int) := by omega
        have w0 : IntKind.i64.wrap (2 * (i : Int)) = 2 * (i : Int) := by rw [IntKind.wrap_i64]; omega
        have wa : IntKind.i64.wrap (2 * (i : Int) + 1) = 2 * (i : Int) + 1 := by rw [IntKind.wrap_i64]; omega
        have wb : IntKind.i64.wrap (2 * (i : Int) + 2) = 2 * (i : Int) + 2 := by rw [IntKind.wrap_i64]; omega
        have t1 : (2 * (i : Int) + 1).toNat = 2 * i + 1 := by omega
        have t2 : (2 * (i : Int) + 2).toNat = 2 * i + 2 := by omega
        have p1 : (0 : Int) ≤ 2 * (i : Int) + 1 := by omega
        have p2 : (0 : Int) ≤ 2 * (i : Int) + 2 := by omega
        obtain ⟨x0, x1, hx⟩ : ∃ x y, xs[i]! = (x, y) := ⟨_, _, rfl⟩
        obtain ⟨cx0, cx1⟩ := HR.out.2 i (by rw [HN.out]; exact hlt)
        rw [hx] at cx0 cx1
        have HX : Hid (xs[i]! = (x0, x1)) := hx
        clear hx
        by_cases ha : 2 * i + 1 < n
        · have haz : 2 * (i : Int) + 1 < (n : Int) := by omega
          have had : decide (2 * (i : Int) + 1 < (n : Int)) = true := decide_eq_true haz
          obtain ⟨y0, y1, hy⟩ : ∃ x y, xs[2 * i + 1]! = (x, y) := ⟨_, _, rfl⟩
          obtain ⟨cy0, cy1⟩ := HR.out.2 (2 * i + 1) (by rw [HN.out]; exact ha)
          rw [hy] at cy0 cy1
          have HY : Hid (xs[2 * i + 1]! = (y0, y1)) := hy
          clear hy
          by_cases hyx : y0 < x0
          · have hyd : decide (y0 < x0) = true := decide_eq_true hyx
            have HE : Hid (heapE xs = 3) := by show _ = _; unfold heapE; rw [heapB_false (j := 2 * i + 1) (by omega) (by rw [HN.out]; exact ha) (by rw [show (2 * i + 1 - 1) / 2 = i by omega, HX.out, HY.out]; exact hyx)]; rfl
            go_wp2_with fail
            go_quiet (fail)
            go_wp2
            go_roundg (n - (i + 1))
            case measure => omega
            case rel => exact ⟨i + 1, q + nq, 3, rfl, by go_num, by omega, by first | rfl | rw [World.drewN_drewN], Or.inr ⟨rfl, HE⟩⟩
          · have hyd : decide (y0 < x0) = false := decide_eq_false hyx
            by_cases hb : 2 * i + 2 < n
            · have hbz : 2 * (i : Int) + 2 < (n : Int) := by omega
              have hbd : decide (2 * (i : Int) + 2 < (n : Int)) = true := decide_eq_true hbz
              obtain ⟨z0, z1, hz⟩ : ∃ x y, xs[2 * i + 2]! = (x, y) := ⟨_, _, rfl⟩
              obtain ⟨cz0, cz1⟩ := HR.out.2 (2 * i + 2) (by rw [HN.out]; exact hb)
              rw [hz] at cz0 cz1
              have HZ : Hid (xs[2 * i + 2]! = (z0, z1)) := hz
              clear hz
              by_cases hzx : z0 < x0
              · have hzd : decide (z0 < x0) = true := decide_eq_true hzx
                have HE : Hid (heapE xs = 3) := by show _ = _; unfold heapE; rw [heapB_false (j := 2 * i + 2) (by omega) (by rw [HN.out]; exact hb) (by rw [show (2 * i + 2 - 1) / 2 = i by omega, HX.out, HZ.out]; exact hzx)]; rfl
                go_wp2_with fail
                go_quiet (fail)
                go_wp2
                go_roundg (n - (i + 1))
                case measure => omega
                case rel => exact ⟨i + 1, q + nq, 3, rfl, by go_num, by omega, by first | rfl | rw [World.drewN_drewN], Or.inr ⟨rfl, HE⟩⟩
              · have hzd : decide (z0 < x0) = false := decide_eq_false hzx
                have HO' : Hid (∀ j, 0 < j → j < n → (j - 1) / 2 < i + 1 → xs[(j - 1) / 2]!.1 ≤ xs[j]!.1) := by
                  intro j h1 h2 h3
                  by_cases e : (j - 1) / 2 = i
                  · rw [e, HX.out]
                    rcases (show j = 2 * i + 1 ∨ j = 2 * i + 2 by omega) with rfl | rfl
                    · rw [HY.out]; show x0 ≤ y0; omega
                    · rw [HZ.out]; show x0 ≤ z0; omega
                  · exact HO.out j h1 h2 (by omega)
                go_wp2_with fail
                go_quiet (fail)
                go_wp2
                go_roundg (n - (i + 1))
                case measure => omega
                case rel => exact ⟨i + 1, q + nq, 0, rfl, by go_num, by omega, by first | rfl | rw [World.drewN_drewN], Or.inl ⟨rfl, HO'⟩⟩
            · have hbz : ¬ 2 * (i : Int) + 2 < (n : Int) := by omega
              have hbd : decide (2 * (i : Int) + 2 < (n : Int)) = false := decide_eq_false hbz
              have HO' : Hid (∀ j, 0 < j → j < n → (j - 1) / 2 < i + 1 → xs[(j - 1) / 2]!.1 ≤ xs[j]!.1) := by
                intro j h1 h2 h3
                by_cases e : (j - 1) / 2 = i
                · rw [e, HX.out]
                  obtain rfl : j = 2 * i + 1 := by omega
                  rw [HY.out]; show x0 ≤ y0; omega
                · exact HO.out j h1 h2 (by omega)
              go_wp2_with fail
              go_quiet (fail)
              go_wp2
              go_roundg (n - (i + 1))
              case measure => omega
              case rel => exact ⟨i + 1, q + nq, 0, rfl, by go_num, by omega, by first | rfl | rw [World.drewN_drewN], Or.inl ⟨rfl, HO'⟩⟩
        · have haz : ¬ 2 * (i : Int) + 1 < (n : Int) := by omega
          have had : decide (2 * (i : Int) + 1 < (n : Int)) = false := decide_eq_false haz
          have hbz : ¬ 2 * (i : Int) + 2 < (n : Int) := by omega
          have hbd : decide (2 * (i : Int) + 2 < (n : Int)) = false := decide_eq_false hbz
          have HO' : Hid (∀ j, 0 < j → j < n → (j - 1) / 2 < i + 1 → xs[(j - 1) / 2]!.1 ≤ xs[j]!.1) := fun j h1 h2 h3 => HO.out j h1 h2 (by omega)
          go_wp2_with fail
          go_quiet (fail)
          go_wp2
          go_roundg (n - (i + 1))
          case measure => omega
          case rel => exact ⟨i + 1, q + nq, 0, rfl, by go_num, by omega, by first | rfl | rw [World.drewN_drewN], Or.inl ⟨rfl, HO'⟩⟩
      · have hlz : ¬ (i : Int) < (n : Int) := by omega
        have HE : Hid (heapE xs = 0) := by show _ = _; unfold heapE; rw [(heapB_iff xs).2 fun j h1 h2 _ => HO.out j h1 (by rw [HN.out] at h2; exact h2) (by rw [HN.out] at h2; omega)]; rfl
        go_wp2
        go_ret
        exact ⟨ret_int (by rw [HE.out]; first | done | rfl), below_drewN (Below.refl _ _) q⟩
    · by_cases hlt : i < n
      · have hlz : (i : Int) < (n : Int) := by omega
        go_wp2
        go_ret
        exact ⟨ret_int (by rw [HE.out]; first | done | rfl), below_drewN (Below.refl _ _) q⟩
      · have hlz : ¬ (i : Int) < (n : Int) := by omega
        go_wp2
        go_ret
        exact ⟨ret_int (by rw [HE.out]; first | done | rfl), below_drewN (Below.refl _ _) q⟩
theorem refHeap_any (v : Value) (xs : Array (Int × Int)) (w : World) (h : Sl w v xs) (hbig : xs.size ≤ 9223372036854775807) :
    Calls Tryd.prog 10 #[v] w fun e w' => e = .returned (.int .i64 (wrongH xs : Nat)) ∧ Below w.heap.size w w' := by
  have c := refItems_any v xs w h hbig
  obtain ⟨p, cap, rfl, hcap, hp⟩ := id h
  rcases Nat.eq_zero_or_pos xs.size with hn | hn
  · have e0 : xs = #[] := Array.eq_empty_of_size_eq_zero hn
    subst e0
    exact refHeap_none p cap w
  · unfold wrongH
    by_cases h0 : wrong xs = 0
    · rw [if_pos h0]
      rw [h0] at c
      rcases hp with hp | ⟨blk, off, rfl, hr⟩
      · omega
      · exact refHeap_some blk off cap xs.size xs w hn (wrong_le h0) hr rfl c
    · rw [if_neg h0]; exact refHeap_bad p _ cap _ w h0 hn hbig c
#print axioms refHeap_any
end Go.Proofs.YtcjfbenbdjlodaaDoor
