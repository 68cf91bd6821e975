/-
  order.Sort: the items by their keys, and what has one key stays in its order; nothing that was there is changed.
-/
import Derived.Test.YtgihlnbmjoffjaaStabW
import Derived.Test.YtgihlnbmjoffjaaSrts
import Derived.Test.YtgihlnbmjoffjaaCopy
namespace Go.Proofs.Ytgihlnbmjoffjaa
open Go.RowKit Go.Sort Go.Proofs

theorem At.below {w0 W : World} {blk off N B : Nat} {d : Array (Int × Int)} (h : At w0 blk off N d W) (hB : B ≤ blk) : Below B w0 W := by
  obtain ⟨n, os, rfl⟩ := h.sw
  refine ⟨rfl, rfl, rfl, by unfold sortWorldK; rw [size_grow, size_putRowK]; exact Nat.le_add_right _ _, fun k hk => ?_⟩
  have hk2 : k < w0.heap.size := by have := h.hblk; omega
  unfold sortWorldK
  show ((putRowK encI 2 (Sort.ahead w0 n) blk off d).heap ++ os)[k]? = _
  rw [Array.getElem?_append_left (by rw [size_putRowK]; exact hk2)]
  simp only [putRowK, putRow, mapBlock, Array.getElem?_modify]
  rw [if_neg (by omega)]
  rfl

set_option maxHeartbeats 2000000 in
theorem sort_bad (v : Value) (xs : Array (Int × Int)) (w : World) (h : Sl w v xs) (hbig : xs.size ≤ 9223372036854775807) (k : Nat) (hk : wrong xs = k) (h0 : k ≠ 0) :
    Calls Try.prog 9 #[v] w fun e w' => e = .returned (.tuple #[.slice none 0 0, .iface 39 (.int .i64 k)]) ∧ Below w.heap.size w w' := by
  have hcon := check_any v xs w h hbig
  rw [hk, errV_pos h0] at hcon
  obtain ⟨p, cap, rfl, _⟩ := h
  clear hk h0
  go_enter Try.func9, Try.ntmps9
  go_wp2_with (go_at_call 15; refine hcon.mono ?_; rintro e w' ⟨rfl, hb⟩)
  go_ret2
  exact ⟨rfl, hb⟩
/-- make and copy: a row of one's own that holds the items. -/
theorem copied (w w1 w2 : World) (N cap blk off : Nat) (xs : Array (Int × Int)) (L : List Value) (hb : Below w.heap.size w w1) (hr : RdAt w blk off xs) (hN : xs.size = N)
    (hown : w2.ownsRow w.heap.size 33 2 (.slice (some ⟨w1.heap.size, 0, none⟩) N N) N L) (hgr : w1.grownBy w2 none) :
    ∃ w3, (Builtin.copy_ #[31, 31] 3 #[.slice (some ⟨w1.heap.size, 0, none⟩) N N, .slice (some ⟨blk, off, none⟩) N cap]).run Try.prog w2 = .ok (.int .i64 N) w3 ∧
      At w3 w1.heap.size 0 N xs w3 ∧ Below w.heap.size w w3 := by
  subst hN
  obtain ⟨hg2, hce, hfr⟩ := owned_cells hown
  have hb2 : Below w.heap.size w w2 := hb.grown hgr hb.size (fun k e => by cases e)
  have hrd := hr.below hb2 hr.1
  refine ⟨w2.setCells w1.heap.size 0 (flatK encI 2 xs).toList, ?_, At.start (holdsK_of_copy hce hfr) (by rw [size_setCells]; exact hg2), below_setCells hb.size _ _ _ hb2⟩
  have := run_copyK (P := Try.prog) w2 31 31 3 33 2 w1.heap.size 0 xs.size xs.size ⟨blk, off, none⟩ xs.size cap (flatK encI 2 xs).toList Try.underlying31 size_item (by simp)
    (fun j v hv => by
      obtain ⟨hj, rfl⟩ := List.getElem?_eq_some_iff.1 hv
      have hj' : j < xs.size * 2 := by simpa using hj
      rw [show ((⟨blk, off, none⟩ : Addr).add j) = ⟨blk, off + j, none⟩ by unfold Addr.add; split <;> simp_all, hrd.flat j hj', Array.getElem_toList, getElem!_pos _ j (by simpa using hj')])
    (fun j hj => by simpa using hce j (by simpa using hj)) (fun j hj => by simpa using hfr j (by simpa using hj)) (flatI_one xs)
  simpa [goInt] using this
theorem copied_none (w w1 w2 : World) (cap : Nat) (p : Option Addr) (L : List Value) (hb : Below w.heap.size w w1)
    (hown : w2.ownsRow w.heap.size 33 2 (.slice (some ⟨w1.heap.size, 0, none⟩) 0 0) 0 L) (hgr : w1.grownBy w2 none) :
    (Builtin.copy_ #[31, 31] 3 #[.slice (some ⟨w1.heap.size, 0, none⟩) 0 0, .slice p 0 cap]).run Try.prog w2 = .ok (.int .i64 0) w2 ∧
      At w2 w1.heap.size 0 0 #[] w2 ∧ Below w.heap.size w w2 := by
  obtain ⟨hg2, _, _⟩ := owned_cells hown
  refine ⟨?_, At.start (d := #[]) (fun j hj => by simp at hj) hg2, hb.grown hgr hb.size (fun k e => by cases e)⟩
  have := run_copyK_none (P := Try.prog) w2 31 31 3 33 2 (some ⟨w1.heap.size, 0, none⟩) p 0 0 0 cap Try.underlying31 size_item rfl
  simpa [goInt] using this

set_option maxHeartbeats 4000000 in
theorem sort_good (v : Value) (xs : Array (Int × Int)) (w : World) (h : Sl w v xs) (hk : wrong xs = 0) :
    Calls Try.prog 9 #[v] w fun e w' => ∃ g ys, e = .returned (.tuple #[.slice (some ⟨g, 0, none⟩) xs.size xs.size, .nilIface]) ∧ RdAt w' g 0 ys ∧ Sorts xs ys ∧ Below w.heap.size w w' := by
  have h60 := wrong_le hk
  have hcon := check_any v xs w h (by omega)
  rw [hk, errV_zero] at hcon
  obtain ⟨p, cap, rfl, hcap, hpp⟩ := h
  clear hk hcap
  obtain ⟨N, hN⟩ : ∃ N, xs.size = N := ⟨_, rfl⟩
  rw [hN] at hcon h60 hpp ⊢
  have HN : Hid _ := hN
  clear hN
  obtain ⟨i0, hi, hz0, hz1, hz2⟩ := info_parts info_item
  have hmax : N ≤ maxLen := by unfold maxLen; omega
  rcases hpp with rfl | ⟨blk, off, rfl, hr⟩
  · go_enter Try.func9, Try.ntmps9
    go_wp2_with (first
      | (go_at_call 15; refine hcon.mono ?_; rintro e w1 ⟨rfl, hb⟩)
      | (at_make; refine wpList_make_full _ rfl (.tmp 12) (.tmp 12) 31 rfl w.heap.size 33 i0 (.agg #[.int .i64 0, .int .i64 0]) 2 Try.underlying31 hi hz0 hz1 .i64 .i64 _ _ 0 rfl rfl rfl rfl (by rw [hz2]; omega) hmax hb.size ?_; intro w2 hown hgr; obtain ⟨hrun, HA, hb3⟩ := copied_none w w1 w2 cap p _ hb hown hgr; clear hown hgr))
    refine (sortStable_any _ _ 0 0 0 #[] _ HA (by omega)).mono ?_
    rintro e w3 ⟨rfl, d', M, S, H3⟩
    go_wp2
    go_ret2
    have e0 : xs = #[] := Array.eq_empty_of_size_eq_zero HN.out
    refine ⟨_, #[], rfl, ⟨H3.lt, fun i hi => absurd hi (Nat.not_lt_zero _)⟩, ⟨by rw [e0], fun k => by rw [e0], fun i j _ _ h3 => absurd h3 (Nat.not_lt_zero _)⟩, hb3.trans (H3.below hb.size)⟩
  · have HR : Aside _ := hr
    clear hr
    go_enter Try.func9, Try.ntmps9
    go_wp2_with (first
      | (go_at_call 15; refine hcon.mono ?_; rintro e w1 ⟨rfl, hb⟩)
      | (at_make; refine wpList_make_full _ rfl (.tmp 12) (.tmp 12) 31 rfl w.heap.size 33 i0 (.agg #[.int .i64 0, .int .i64 0]) 2 Try.underlying31 hi hz0 hz1 .i64 .i64 _ _ N rfl rfl rfl rfl (by rw [hz2]; omega) hmax hb.size ?_; intro w2 hown hgr; obtain ⟨w3, hrun, HA, hb3⟩ := copied w w1 w2 N cap blk off xs _ hb HR.out HN.out hown hgr; clear hown hgr))
    refine (sortStable_any _ _ 0 N N xs _ HA h60).mono ?_
    rintro e w4 ⟨rfl, d', M, S, H4⟩
    have MM : Aside _ := M
    have SS : Aside _ := S
    clear M S
    go_wp2
    go_ret2
    exact ⟨_, d', rfl, H4.rd, ⟨MM.out.size, MM.out.st, by rw [H4.size]; exact SS.out⟩, hb3.trans (H4.below hb.size)⟩
#print axioms sort_good
end Go.Proofs.Ytgihlnbmjoffjaa
