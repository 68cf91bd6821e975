/-
  heap.Make, heap.Push and heap.Pop.
-/
import Derived.Test.YtcjfbenbdjlodabHeapR
import Derived.Test.YtcjfbenbdjlodabLaid
namespace Go.Proofs.Ytcjfbenbdjlodab
open Go.RowKit Go.Sort Go.Proofs

theorem mkTo_succ (k : Nat) (d : Array (Int × Int)) : mkTo (k + 1) d = mkTo k (sinkA d k) := by rw [mkTo]
/-- A counter that holds one less than k. -/
def CountsDown (k : Nat) (v : Value) : Prop := (k = 0 ∧ v = .int .i64 (-1)) ∨ ∃ m, k = m + 1 ∧ v = .int .i64 (m : Nat)
theorem countsDown_sub (k : Nat) : CountsDown k (.int .i64 ((k : Int) - 1)) := by
  cases k with
  | zero => exact Or.inl ⟨rfl, rfl⟩
  | succ m => exact Or.inr ⟨m, rfl, by congr 1; omega⟩
set_option maxHeartbeats 2000000 in
theorem heapMake_bad (v : Value) (xs : Array (Int × Int)) (w : World) (h : Sl w v xs) (hbig : xs.size ≤ 9223372036854775807) (k : Nat) (hk : wrong xs = k) (h0 : k ≠ 0) :
    Calls Try.prog 13 #[v] w fun e w' => e = .returned (.tuple #[.slice none 0 0, .iface 44 (.int .i64 k)]) ∧ Below w.heap.size w w' := by
  have hcon := check_any v xs w h hbig
  rw [hk, errV_pos h0] at hcon
  obtain ⟨p, cap, rfl, _⟩ := h
  clear hk h0
  go_enter Try.func13, Try.ntmps13
  go_wp2_with (go_at_call 22; refine hcon.mono ?_; rintro e w' ⟨rfl, hb⟩)
  go_ret2
  exact ⟨rfl, hb⟩

set_option maxHeartbeats 4000000 in
set_option maxRecDepth 4000 in
theorem heapMake_fresh (v : Value) (xs : Array (Int × Int)) (w : World) (h : Sl w v xs) (hk : wrong xs = 0) :
    Calls Try.prog 13 #[v] w fun e w' => ∃ g, e = .returned (.tuple #[.slice (some ⟨g, 0, none⟩) xs.size xs.size, .nilIface]) ∧ RdAt w' g 0 (hmake xs) ∧ w.heap.size ≤ g ∧ Below w.heap.size w w' := by
  have h60 := wrong_le hk
  have hcon := check_any v xs w h (by omega)
  rw [hk, errV_zero] at hcon
  have hs := h
  obtain ⟨p, cap, rfl, hcap, hpp⟩ := h
  clear hk hcap hpp
  obtain ⟨n, hn⟩ : ∃ n, xs.size = n := ⟨_, rfl⟩
  rw [hn] at hcon h60 hs ⊢
  have HN : Hid (xs.size = n) := hn
  have HSL : Hid (Sl w (.slice p n cap) xs) := hs
  clear hn hs
  obtain ⟨i0, hi, hz0, hz1, hz2⟩ := info_parts info_item
  have hmax : n ≤ maxLen := by unfold maxLen; omega
  have w2 : IntKind.i64.wrap ((n / 2 : Nat) : Int) = ((n / 2 : Nat) : Int) := by rw [IntKind.wrap_i64]; omega
  have t1 : Int.tdiv (n : Int) 2 = ((n / 2 : Nat) : Int) := by rw [Int.tdiv_eq_ediv_of_nonneg (by omega)]; omega
  have w3 : IntKind.i64.wrap (((n / 2 : Nat) : Int) - 1) = ((n / 2 : Nat) : Int) - 1 := by rw [IntKind.wrap_i64]; omega
  go_enter Try.func13, Try.ntmps13
  go_wp2_with (first | (go_at_call 22; refine hcon.mono ?_; rintro e w1 ⟨rfl, hb⟩) | (at_make; refine wpList_make_full _ rfl (.tmp 13) (.tmp 13) 34 rfl w.heap.size 38 i0 (.agg #[.int .i64 0, .int .i64 0]) 2 Try.underlying34 hi hz0 hz1 .i64 .i64 _ _ n rfl rfl rfl rfl (by rw [hz2]; omega) hmax hb.size ?_; intro w2 hown hgr; obtain ⟨w3, hrun, HW, hb3⟩ := laidSl w w1 w2 n n cap p xs xs hb HSL.out HN.out hown hgr HN.out (fun _ _ _ => rfl) (fun i h1 h2 => by omega); rw [show Nat.min n n = n from Nat.min_self n] at hrun; clear hown hgr))
  have HW3 : Hid (WrAt w3 w1.heap.size 0 xs) := HW
  have HB3 : Hid (Below w.heap.size w w3) := hb3
  have hgB : w.heap.size ≤ w1.heap.size := hb.size
  clear HW hb3 hrun hcon HSL hb
  generalize w1.heap.size = g at HW3 hgB ⊢
  go_wp2
  go_loopg [6] (n / 2) (fun gg vi wr => ∃ k : Nat, CountsDown k vi ∧ k ≤ gg ∧ k ≤ n / 2 ∧ ∃ d : Array (Int × Int), Hid (d.size = n) ∧ Hid (WrAt wr g 0 d) ∧ Hid (mkTo k d = hmake xs) ∧ Hid (Below w.heap.size w wr))
  case atStart => exact ⟨n / 2, countsDown_sub _, Nat.le_refl _, Nat.le_refl _, xs, HN, HW3, (show _ = _ by have := mkTo_half xs n (by rw [HN.out]; omega); rw [HN.out] at this; rw [← this]; unfold hmake; rw [HN.out]), HB3⟩
  case round =>
    obtain ⟨k, ⟨rfl, rfl⟩ | ⟨m, rfl, rfl⟩, hkg, hkn, d, HD, HW, HE, HB⟩ := hrel
    · go_wp2
      go_ret2
      exact ⟨g, rfl, by rw [← HE.out]; exact HW.out.rd, hgB, HB.out⟩
    · have hm : m < n := by omega
      have HE' : Hid (mkTo m (sinkA d m) = hmake xs) := by show _ = _; rw [← HE.out]; exact (mkTo_succ m d).symm
      have HD' : Hid ((sinkA d m).size = n) := by show _ = _; rw [sinkA_size]; exact HD.out
      clear HE
      have c := sink_any g 0 n n m d wr (by omega) hm HD HW
      go_wp2_with fail
      refine c.mono ?_
      rintro e w4 ⟨rfl, hw4, hg4⟩
      have HW4 : Hid (WrAt w4 g 0 (sinkA d m)) := hw4
      have HB4 : Hid (Below w.heap.size w w4) := below_gb HB.out hg4 hgB HB.out.size
      clear hw4 hg4 c
      go_wp2
      go_roundg m
      case measure => omega
      case rel => exact ⟨m, countsDown_sub _, Nat.le_refl _, by omega, sinkA d m, HD', HW4, HE', HB4⟩
theorem heapMake_good (v : Value) (xs : Array (Int × Int)) (w : World) (h : Sl w v xs) (hk : wrong xs = 0) :
    Calls Try.prog 13 #[v] w fun e w' => ∃ g, e = .returned (.tuple #[.slice (some ⟨g, 0, none⟩) xs.size xs.size, .nilIface]) ∧ RdAt w' g 0 (hmake xs) ∧ Below w.heap.size w w' :=
  (heapMake_fresh v xs w h hk).mono fun _ _ ⟨g, a, b, _, c⟩ => ⟨g, a, b, c⟩
#print axioms heapMake_good
end Go.Proofs.Ytcjfbenbdjlodab
