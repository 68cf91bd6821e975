/-
  Rank of package pick: how many keys are below one.
-/
import Derived.Test.YtdpfijhkbhmkgaaDoorPkM
import Derived.Test.YtdpfijhkbhmkgaaDoorOwn
import Derived.Test.YtdpfijhkbhmkgaaDoorCopy
namespace Go.Proofs.YtdpfijhkbhmkgaaDoor
open Go.RowKit Go.Sort Go.Proofs

set_option maxHeartbeats 8000000 in
theorem rank_some (blk off N cap : Nat) (key : Int) (xs : Array (Int × Int)) (w : World) (h : RdAt w blk off xs) (hN : xs.size = N) (hcap : N ≤ cap) (h0 : wrong xs = 0) :
    Calls Tryd.prog 20 #[.slice (some ⟨blk, off, none⟩) N cap, .int .i64 key] w fun e w' => e = .returned (.tuple #[.int .i64 ((xs.toList.filter (blwB key)).length : Nat), .nilIface]) ∧ Below w.heap.size w w' := by
  have h60 := wrong_le h0
  have c1 := check_any _ xs w (Sl.of_rd (cap := cap) h (by omega)) (by omega)
  rw [h0, errV_zero, hN] at c1
  rw [hN] at h60
  have HX : Hid (RdAt w blk off xs) := h
  have HN : Hid (xs.size = N) := hN
  clear h hN h0
  go_enter Tryd.func20, Tryd.ntmps20
  go_wp2_with fail
  refine c1.mono ?_
  rintro e w1 ⟨rfl, hb1⟩
  clear c1
  go_wp2
  go_loopg [7, 17] N (fun gg vm vi wr => ∃ i m : Nat, vi = .int .i64 i ∧ i + gg = N ∧ vm = .int .i64 m ∧ Hid (m = (pk (blwB key) xs i).length) ∧ Below w.heap.size w wr)
  case atStart => exact ⟨0, 0, rfl, by omega, rfl, by show _ = _; rw [pk_zero]; rfl, hb1⟩
  case round =>
    obtain ⟨i, m, rfl, hg, rfl, HM, hbr⟩ := hrel
    have hm : m ≤ i := by rw [HM.out]; exact pk_len _ _ _
    by_cases hlt : i < N
    · have hlz : (i : Int) < (N : Int) := by omega
      obtain ⟨x0, x1, hx⟩ : ∃ x y, xs[i]! = (x, y) := ⟨_, _, rfl⟩
      obtain ⟨cx0, cx1⟩ := (RdAt.below HX.out hbr HX.out.1).2 i (by rw [HN.out]; exact hlt)
      rw [hx] at cx0 cx1
      have HXX : Hid (xs[i]! = (x0, x1)) := hx
      clear hx
      have hB4 : w.heap.size ≤ wr.heap.size := hbr.size
      by_cases hk : x0 < key
      · have EA : Hid _ := pk_in (p := blwB key) (by rw [HN.out]; exact hlt) HXX.out (decide_eq_true hk)
        go_wp2
        go_roundg (N - (i + 1))
        case measure => omega
        case rel => exact ⟨i + 1, m + 1, by go_num, by omega, by go_num, by show _ = _; rw [EA.out, List.length_append, ← HM.out]; rfl, hbr.alloc hB4 _⟩
      · have EA : Hid _ := pk_out (p := blwB key) (by rw [HN.out]; exact hlt) HXX.out (decide_eq_false hk)
        go_wp2
        go_roundg (N - (i + 1))
        case measure => omega
        case rel => exact ⟨i + 1, m, by go_num, by omega, rfl, by show _ = _; rw [EA.out]; exact HM.out, hbr.alloc hB4 _⟩
    · have hlz : ¬ (i : Int) < (N : Int) := by omega
      obtain rfl : i = N := by omega
      have HM2 : Hid (m = (xs.toList.filter (blwB key)).length) := by
        have := HM.out
        rw [pk_all _ _ _ HN.out] at this
        exact this
      have hm2 := HM2.out
      subst hm2
      go_wp2
      go_ret2
      exact ⟨rfl, hbr⟩
set_option maxHeartbeats 2000000 in
theorem rank_none (p : Option Addr) (cap : Nat) (key : Int) (w : World) :
    Calls Tryd.prog 20 #[.slice p 0 cap, .int .i64 key] w fun e w' => e = .returned (.tuple #[.int .i64 0, .nilIface]) ∧ Below w.heap.size w w' := by
  have c1 := check_any (.slice p 0 cap) #[] w ⟨p, cap, rfl, Nat.zero_le _, Or.inl rfl⟩ (by decide)
  rw [show wrong #[] = 0 by decide, errV_zero] at c1
  go_enter Tryd.func20, Tryd.ntmps20
  go_wp2_with fail
  refine c1.mono ?_
  rintro e w1 ⟨rfl, hb1⟩
  clear c1
  go_wp2
  go_loopg [7, 17] 0 (fun gg vm vi wr => vi = .int .i64 0 ∧ vm = .int .i64 0 ∧ Below w.heap.size w wr)
  case atStart => exact ⟨rfl, rfl, hb1⟩
  case round =>
    obtain ⟨rfl, rfl, hbr⟩ := hrel
    go_wp2
    go_ret2
    exact ⟨rfl, hbr⟩
theorem rank_bad (v : Value) (key : Int) (xs : Array (Int × Int)) (w : World) (h : Sl w v xs) (hbig : xs.size ≤ 9223372036854775807) (k : Nat) (hk : wrong xs = k) (h0 : k ≠ 0) :
    Calls Tryd.prog 20 #[v, .int .i64 key] w fun e w' => e = .returned (.tuple #[.int .i64 0, .iface 57 (.int .i64 k)]) ∧ Below w.heap.size w w' := by
  have hcon := check_any v xs w h hbig
  rw [hk, errV_pos h0] at hcon
  obtain ⟨p, cap, rfl, _⟩ := h
  clear hk h0
  go_enter Tryd.func20, Tryd.ntmps20
  go_wp2_with (go_at_call 23; refine hcon.mono ?_; rintro e w' ⟨rfl, hb⟩)
  go_ret2
  exact ⟨rfl, hb⟩
theorem rank_good (v : Value) (key : Int) (xs : Array (Int × Int)) (w : World) (h : Sl w v xs) (h0 : wrong xs = 0) :
    Calls Tryd.prog 20 #[v, .int .i64 key] w fun e w' => e = .returned (.tuple #[.int .i64 ((xs.toList.filter (blwB key)).length : Nat), .nilIface]) ∧ Below w.heap.size w w' := by
  obtain ⟨p, cap, rfl, hcap, hp⟩ := id h
  rcases hp with hp | ⟨blk, off, rfl, hr⟩
  · have e0 : xs = #[] := Array.eq_empty_of_size_eq_zero hp
    subst e0
    exact rank_none p cap key w
  · exact rank_some blk off xs.size cap key xs w hr rfl hcap h0
#print axioms rank_good
end Go.Proofs.YtdpfijhkbhmkgaaDoor
