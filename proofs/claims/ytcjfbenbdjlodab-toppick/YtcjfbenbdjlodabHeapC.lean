/-
  heap.Check: is it a heap.
-/
import Derived.Test.YtcjfbenbdjlodabHeapA
import Derived.Test.YtcjfbenbdjlodabCopy
import Derived.Deep.RegionWith
namespace Go.Proofs.Ytcjfbenbdjlodab
open Go.RowKit Go.Sort Go.Proofs

/-- What is wrong with a heap, if the items are right. -/
def heapE (xs : Array (Int × Int)) : Nat := if heapB xs then 0 else 3
/-- What is wrong with a heap. -/
def wrongH (xs : Array (Int × Int)) : Nat := if wrong xs = 0 then heapE xs else wrong xs
theorem wrongH_zero {xs : Array (Int × Int)} (h : wrongH xs = 0) : wrong xs = 0 ∧ HeapFrom 0 xs := by
  unfold wrongH at h
  by_cases c : wrong xs = 0
  · rw [if_pos c] at h
    refine ⟨c, (heapB_iff xs).1 ?_⟩
    cases e : heapB xs
    · unfold heapE at h; rw [e] at h; simp at h
    · rfl
  · rw [if_neg c] at h; exact absurd h c
theorem wrongH_of {xs : Array (Int × Int)} (h : wrong xs = 0) (hh : HeapFrom 0 xs) : wrongH xs = 0 := by
  unfold wrongH heapE; rw [if_pos h, (heapB_iff xs).2 hh]; rfl

set_option maxHeartbeats 2000000 in
theorem heapCheck_bad (v : Value) (xs : Array (Int × Int)) (w : World) (h : Sl w v xs) (hbig : xs.size ≤ 9223372036854775807) (h0 : wrong xs ≠ 0) :
    Calls Try.prog 28 #[v] w fun e w' => e = .returned (errV (wrong xs)) ∧ Below w.heap.size w w' := by
  have hcon := check_any v xs w h hbig
  rw [errV_pos h0] at hcon ⊢
  obtain ⟨p, cap, rfl, _⟩ := h
  clear h0
  go_enter Try.func28, Try.ntmps28
  go_wp2_with (go_at_call 22; refine hcon.mono ?_; rintro e w' ⟨rfl, hb⟩)
  go_ret
  exact ⟨rfl, hb⟩
set_option maxHeartbeats 2000000 in
theorem heapCheck_none (p : Option Addr) (cap : Nat) (w : World) :
    Calls Try.prog 28 #[.slice p 0 cap] w fun e w' => e = .returned .nilIface ∧ Below w.heap.size w w' := by
  have hcon := check_any (.slice p 0 cap) #[] w ⟨p, cap, rfl, Nat.zero_le _, Or.inl rfl⟩ (by decide)
  rw [show wrong #[] = 0 by decide, errV_zero] at hcon
  go_enter Try.func28, Try.ntmps28
  go_wp2_with (go_at_call 22; refine hcon.mono ?_; rintro e w1 ⟨rfl, hb⟩)
  go_loop [4] (fun i => i = .int .i64 1) (fun _ => 0)
  case atStart => rfl
  case round =>
    subst hrel
    go_wp2
    go_ret
    exact ⟨rfl, hb⟩
set_option maxHeartbeats 4000000 in
theorem heapCheck_some (blk off cap n : Nat) (xs : Array (Int × Int)) (w : World) (hr : RdAt w blk off xs) (hn : xs.size = n) (hcap : n ≤ cap) (h0 : wrong xs = 0) :
    Calls Try.prog 28 #[.slice (some ⟨blk, off, none⟩) n cap] w fun e w' => e = .returned (errV (heapE xs)) ∧ Below w.heap.size w w' := by
  have h60 := wrong_le h0
  have hcon := check_any _ xs w (Sl.of_rd (cap := cap) hr (by omega)) (by omega)
  rw [h0, errV_zero, hn] at hcon
  rw [hn] at h60
  have HN : Hid (xs.size = n) := hn
  have HR : Hid (RdAt w blk off xs) := hr
  clear hr hn h0
  have mixed : Try.prog.follows .mixedOrders = true := by kernel_rfl
  go_enter Try.func28, Try.ntmps28
  go_wp2_with (go_at_call 22; refine hcon.mono ?_; rintro e w1 ⟨rfl, hb⟩)
  go_loopg [4] n (fun g vi wr => ∃ i : Nat, vi = .int .i64 i ∧ 1 ≤ i ∧ i + g = n + 1 ∧ Hid (Below w.heap.size w wr) ∧ Hid (∀ j, 0 < j → j < i → j < n → xs[(j - 1) / 2]!.1 ≤ xs[j]!.1))
  case atStart => exact ⟨1, rfl, by omega, by omega, hb, (show Hid _ from fun j h1 h2 => by omega)⟩
  case round =>
    obtain ⟨i, rfl, hi1, hg, HB, HO⟩ := hrel
    by_cases hlt : i < n
    · have hlz : (i : Int) < (n : Int) := by omega
      obtain ⟨p, hp⟩ : ∃ p, (i - 1) / 2 = p := ⟨_, rfl⟩
      have c := fun w => above_anyG i hi1 (by omega) w
      rw [hp] at c
      have HCA : Aside _ := c
      clear c
      have hpz : (p : Int) < (n : Int) := by omega
      have HR1 := HR.out.below HB.out HR.out.1
      obtain ⟨x0, x1, hx⟩ : ∃ x y, xs[i]! = (x, y) := ⟨_, _, rfl⟩
      obtain ⟨y0, y1, hy⟩ : ∃ x y, xs[p]! = (x, y) := ⟨_, _, rfl⟩
      have cx0 := HR1.cellG (by rw [HN.out]; exact hlt) hx
      have cx1 := HR1.cellG1 (by rw [HN.out]; exact hlt) hx
      have cy0 := HR1.cellG (by rw [HN.out]; omega) hy
      have cy1 := HR1.cellG1 (by rw [HN.out]; omega) hy
      have HX : Hid (xs[i]! = (x0, x1)) := hx
      have HY : Hid (xs[p]! = (y0, y1)) := hy
      have HP : Hid ((i - 1) / 2 = p) := hp
      clear hx hy hp HR1
      by_cases hxy : x0 < y0
      · have HF : Hid (heapE xs = 3) := by show _ = _; unfold heapE; rw [heapB_false (j := i) hi1 (by rw [HN.out]; exact hlt) (by rw [HP.out, HX.out, HY.out]; exact hxy)]; rfl
        have hcg := fun n os => lesser_yes x1 y1 (show x0 < y0 by omega) (grow (wr.drewN n) os)
        have HCG : Aside _ := hcg
        clear hcg
        go_wp2_with fail
        go_quiet_grown (first | (go_at_call 38; refine Calls.grown_of (HCA.out _)) | (go_at_call 26; refine Calls.grown_of (HCG.out _ _)))
        go_wp2
        go_ret
        exact ⟨by rw [HF.out]; rfl, below_grow HB.out HB.out.size _ _⟩
      · have hcg := fun n os => lesser_no x1 y1 (show ¬ x0 < y0 by omega) (grow (wr.drewN n) os)
        have HCG : Aside _ := hcg
        clear hcg
        go_wp2_with fail
        go_quiet_grown (first | (go_at_call 38; refine Calls.grown_of (HCA.out _)) | (go_at_call 26; refine Calls.grown_of (HCG.out _ _)))
        go_wp2
        go_roundg (n + 1 - (i + 1))
        case measure => omega
        case rel =>
          refine ⟨i + 1, by go_num, by omega, by omega, below_grow HB.out HB.out.size _ _, (show Hid _ from fun j h1 h2 h3 => ?_)⟩
          rcases Nat.lt_or_ge j i with q | q
          · exact HO.out j h1 q h3
          · obtain rfl : j = i := by omega
            rw [HP.out, HX.out, HY.out]; show y0 ≤ x0; omega
    · have hlz : ¬ (i : Int) < (n : Int) := by omega
      have HF : Hid (heapE xs = 0) := by show _ = _; unfold heapE; rw [(heapB_iff xs).2 fun j h1 h2 _ => HO.out j h1 (by rw [HN.out] at h2; omega) (by rw [HN.out] at h2; exact h2)]; rfl
      go_wp2
      go_ret
      exact ⟨by rw [HF.out]; rfl, HB.out⟩
theorem heapCheck_any (v : Value) (xs : Array (Int × Int)) (w : World) (h : Sl w v xs) (hbig : xs.size ≤ 9223372036854775807) :
    Calls Try.prog 28 #[v] w fun e w' => e = .returned (errV (wrongH xs)) ∧ Below w.heap.size w w' := by
  unfold wrongH
  by_cases h0 : wrong xs = 0
  · rw [if_pos h0]
    obtain ⟨p, cap, rfl, hc, hp | ⟨blk, off, rfl, hr⟩⟩ := h
    · have e0 : xs = #[] := Array.eq_empty_of_size_eq_zero hp
      subst e0
      exact heapCheck_none p cap w
    · exact heapCheck_some blk off cap _ xs w hr rfl hc h0
  · rw [if_neg h0]; exact heapCheck_bad v xs w h hbig h0
#print axioms heapCheck_any
end Go.Proofs.Ytcjfbenbdjlodab
