/-
  The law HeapGrows, walked: pushed one by one it is a heap, too.
-/
import Derived.Test.YtcjfbenbdjlodaaHeapF
import Derived.Test.YtcjfbenbdjlodaaHeapP
import Derived.Test.YtcjfbenbdjlodaaBag
namespace Go.Proofs.Ytcjfbenbdjlodaa
open Go.RowKit Go.Sort Go.Proofs

/-- The heap H has the first i of the items xs, and they are all right. -/
structure Grows (xs : Array (Int × Int)) (i : Nat) (H : Array (Int × Int)) : Prop where
  size : H.size = i
  perm : H.toList.Perm (xs.toList.take i)
  heap : HeapFrom 0 H
  right : ∀ x ∈ xs.toList.take i, outB x = false
theorem Grows.start (xs : Array (Int × Int)) : Grows xs 0 #[] := ⟨rfl, by simp, fun j h0 hj => absurd hj (Nat.not_lt_zero _), by simp⟩
theorem Grows.wrong {xs H : Array (Int × Int)} {i : Nat} (h : Grows xs i H) (hi : i ≤ 60) : wrong H = 0 := by
  have ha : anyOut H = false := by
    unfold anyOut
    rw [List.any_eq_false]
    exact fun x hx => by rw [h.right x (h.perm.mem_iff.1 hx)]; simp
  unfold Ytcjfbenbdjlodaa.wrong; rw [if_neg (by rw [h.size]; omega), ha]; rfl
theorem Grows.wrongH {xs H : Array (Int × Int)} {i : Nat} (h : Grows xs i H) (hi : i ≤ 60) : wrongH H = 0 := wrongH_of (h.wrong hi) h.heap
theorem wrong_one_out {x : Int × Int} (h : outB x = true) : wrong #[x] = 1 := by unfold wrong anyOut; simp [h]
theorem wrong_one {x : Int × Int} (h : outB x = false) : wrong #[x] = 0 := by unfold wrong anyOut; simp [h]
theorem Grows.push {xs H : Array (Int × Int)} {i : Nat} (h : Grows xs i H) (hi : i < xs.size) (hx : outB xs[i]! = false) : Grows xs (i + 1) (hpush H xs[i]!) := by
  have hl : i < xs.toList.length := by simpa using hi
  have e : xs.toList.take (i + 1) = xs.toList.take i ++ [xs[i]!] := by rw [List.take_succ_eq_append_getElem hl, getD_toList xs i hl]
  refine ⟨by rw [hpush_size, h.size], ?_, hpush_heap _ h.heap, ?_⟩
  · rw [e]; exact (hpush_perm H _).trans (List.Perm.append_right _ h.perm)
  · rw [e]
    intro x hm
    rcases List.mem_append.1 hm with q | q
    · exact h.right x q
    · rw [List.mem_singleton.1 q]; exact hx
theorem Grows.pushP {xs H : Array (Int × Int)} {i : Nat} (h : Grows xs i H) (hi : i < 60) {x : Int × Int} (hx : outB x = false) : wrongP H x = 0 := by
  unfold wrongP; rw [if_pos (h.wrongH (by omega)), if_pos (wrong_one hx), if_pos (by rw [h.size]; exact hi)]
theorem Grows.pushO {xs H : Array (Int × Int)} {i : Nat} (h : Grows xs i H) (hi : i < 60) {x : Int × Int} (hx : outB x = true) : wrongP H x = 1 := by
  unfold wrongP; rw [if_pos (h.wrongH (by omega)), wrong_one_out hx, if_neg (by decide)]
theorem Grows.bag {xs H : Array (Int × Int)} (h : Grows xs xs.size H) : bagB H xs = true := by
  have hp := h.perm
  rw [List.take_of_length_le (by simp)] at hp
  exact bagB_intro h.size fun z => hp.count_eq z
theorem heap_roots {G H : Array (Int × Int)} (hp : G.toList.Perm H.toList) (hG : HeapFrom 0 G) (hH : HeapFrom 0 H) (h0 : 0 < G.size) : G[0]!.1 = H[0]!.1 := by
  have hs : G.size = H.size := by simpa using hp.length_eq
  have key : ∀ A B : Array (Int × Int), A.toList.Perm B.toList → HeapFrom 0 A → 0 < B.size → A[0]!.1 ≤ B[0]!.1 := fun A B q hA hB => by
    have hm : B[0]! ∈ A.toList := q.mem_iff.2 (by rw [getElem!_pos B 0 hB]; simp)
    obtain ⟨t, ht, e⟩ := List.getElem_of_mem hm
    have ht' : t < A.size := by simpa using ht
    have := hA.root t ht'
    rw [getElem!_pos A t ht'] at this
    rw [← e]; simpa using this
  exact Int.le_antisymm (key G H hp hG (by omega)) (key H G hp.symm hH h0)
theorem wrong_out {xs : Array (Int × Int)} {i : Nat} (hi : i < xs.size) (hx : outB xs[i]! = true) : wrong xs ≠ 0 := by
  unfold wrong
  rw [anyOut_true hi hx]
  split <;> simp
theorem Grows.all {xs H : Array (Int × Int)} (h : Grows xs xs.size H) (h60 : xs.size ≤ 60) : Ytcjfbenbdjlodaa.wrong xs = 0 := by
  have hp := h.perm
  rw [List.take_of_length_le (by simp)] at hp
  rw [← perm_wrong hp]; exact h.wrong h60

set_option maxHeartbeats 16000000 in
set_option maxRecDepth 4000 in
theorem heapGrows_some (p : Option Addr) (n cap : Nat) (xs : Array (Int × Int)) (w : World) (hbig : n ≤ 9223372036854775807) (HN : Hid (xs.size = n)) (HS : Hid (Sl w (.slice p n cap) xs)) :
    Calls Try.prog 5 #[.slice p n cap] w fun e w' => e = .returned (.bool true) ∧ Below w.heap.size w w' := by
  have c0 := heapFact_any w
  go_enter Try.func5, Try.ntmps5
  go_wp2_with fail
  refine c0.mono ?_
  rintro e w1 ⟨rfl, hb1⟩
  clear c0
  go_wp2
  go_loopg [4, 5] 60 (fun gg vh vi wr => ∃ (i ch : Nat) (ph : Option Addr), vh = .slice ph i ch ∧ vi = .int .i64 i ∧ i + gg = 60 ∧ i ≤ n ∧ ∃ H : Array (Int × Int), Hid (Sl wr (.slice ph i ch) H) ∧ Hid (Grows xs i H) ∧ Hid (Below w.heap.size w wr))
  case atStart => exact ⟨0, 0, none, rfl, rfl, by omega, Nat.zero_le _, #[], Sl.nil _, Grows.start xs, hb1⟩
  case round =>
    obtain ⟨i, ch, ph, rfl, rfl, hg, hin, H, HSL, HG, HB⟩ := hrel
    by_cases hlt : i < n
    · have hlz : (i : Int) < (n : Int) := by omega
      by_cases h60 : i < 60
      · have h60z : (i : Int) < 60 := by omega
        obtain ⟨blk, off, hp, hr⟩ : ∃ blk off, p = some ⟨blk, off, none⟩ ∧ RdAt w blk off xs := by
          obtain ⟨p', c', e, _, h0 | ⟨blk, off, rfl, hr⟩⟩ := HS.out
          · rw [HN.out] at h0; omega
          · simp only [Value.slice.injEq] at e; exact ⟨blk, off, e.1, hr⟩
        subst hp
        have hrr := hr.below HB.out hr.1
        obtain ⟨x0, x1, hx⟩ : ∃ x y, xs[i]! = (x, y) := ⟨_, _, rfl⟩
        obtain ⟨cx0, cx1⟩ := hrr.2 i (by rw [HN.out]; exact hlt)
        rw [hx] at cx0 cx1
        have HSZ : Hid (H.size = i) := HG.out.size
        have hsl : Sl wr (.slice ph H.size ch) H := by rw [HSZ.out]; exact HSL.out
        cases ho : outB (x0, x1)
        · have cP := heapPush_good ph ch x0 x1 H wr hsl (HG.out.pushP h60 ho)
          rw [HSZ.out] at cP
          have HG' : Hid (Grows xs (i + 1) (hpush H (x0, x1))) := by show Grows _ _ _; rw [← hx]; exact HG.out.push (by rw [HN.out]; exact hlt) (by rw [hx]; exact ho)
          clear hx ho hsl hrr hr
          go_wp2_with fail
          refine cP.mono ?_
          rintro e w2 ⟨g, rfl, hrd, hb2'⟩
          have hb2 := HB.out.trans (hb2'.mono HB.out.size)
          have hs2 := Sl.of_rd (cap := i + 1) hrd (by rw [HG'.out.size]; exact Nat.le_refl _)
          rw [HG'.out.size] at hs2
          have cC := heapCheck_any _ _ w2 hs2 (by rw [HG'.out.size]; omega)
          rw [HG'.out.wrongH (by omega), errV_zero] at cC
          have HS2 : Hid (Sl w2 (.slice (some ⟨g, 0, none⟩) (i + 1) (i + 1)) (hpush H (x0, x1))) := hs2
          clear hs2 hrd hb2' cP
          go_wp2_with fail
          refine cC.mono ?_
          rintro e w3 ⟨rfl, hb3'⟩
          have HB3 : Hid (Below w.heap.size w w3) := hb2.trans (hb3'.mono hb2.size)
          have HS3 : Hid (Sl w3 (.slice (some ⟨g, 0, none⟩) (i + 1) (i + 1)) (hpush H (x0, x1))) := HS2.out.below hb3'
          clear hb3' cC hb2 HS2
          go_wp2
          go_roundg (60 - (i + 1))
          case measure => omega
          case rel => exact ⟨i + 1, i + 1, some ⟨g, 0, none⟩, rfl, by go_num, by omega, by omega, hpush H (x0, x1), HS3, HG', HB3⟩
        · have cP := heapPush_bad ph ch x0 x1 H wr hsl (by rw [HSZ.out]; omega) (by rw [HG.out.pushO h60 ho]; decide)
          rw [HG.out.pushO h60 ho, HSZ.out] at cP
          have hw : wrong xs ≠ 0 := wrong_out (i := i) (by rw [HN.out]; exact hlt) (by rw [hx]; exact ho)
          clear hx ho hsl hrr hr
          go_wp2_with fail
          refine cP.mono ?_
          rintro e w2 ⟨rfl, hb2'⟩
          have hb2 := HB.out.trans (hb2'.mono HB.out.size)
          have cC := check_any _ xs w2 (HS.out.below hb2) (by rw [HN.out]; exact hbig)
          rw [errV_pos hw] at cC
          clear hb2' cP hw
          generalize wrong xs = kk at cC
          go_wp2_with fail
          refine cC.mono ?_
          rintro e w3 ⟨rfl, hb3'⟩
          have hb3 := hb2.trans (hb3'.mono hb2.size)
          go_wp2
          go_ret
          exact ⟨rfl, hb3⟩
      · have h60z : ¬ (i : Int) < 60 := by omega
        have hn60 : 60 < n := by omega
        have hnz : (60 : Int) < (n : Int) := by omega
        have cM := heapMake_bad _ xs wr (HS.out.below HB.out) (by rw [HN.out]; exact hbig) 4 (by unfold wrong; rw [if_pos (by rw [HN.out]; exact hn60)]) (by decide)
        go_wp2_with fail
        refine cM.mono ?_
        rintro e w2 ⟨rfl, hb2'⟩
        have hb2 := HB.out.trans (hb2'.mono HB.out.size)
        go_wp2
        go_ret
        exact ⟨rfl, hb2⟩
    · have hlz : ¬ (i : Int) < (n : Int) := by omega
      obtain rfl : i = n := by omega
      have HGN : Hid (Grows xs xs.size H) := by show Grows _ _ _; rw [HN.out]; exact HG.out
      have cM := heapMake_good _ xs wr (HS.out.below HB.out) (HGN.out.all (by rw [HN.out]; omega))
      rw [HN.out] at cM
      have HSZ : Hid (H.size = i) := HG.out.size
      have hi60 : i ≤ 60 := by omega
      go_wp2_with fail
      refine cM.mono ?_
      rintro e w2 ⟨g, rfl, hrd, hb2'⟩
      have hb2 := HB.out.trans (hb2'.mono HB.out.size)
      have HS2 : Hid (Sl w2 (.slice ph i ch) H) := HSL.out.below hb2'
      have cb : ∀ q, Calls Try.prog 12 #[.slice ph i ch, .slice p i cap] (w2.drewN q) fun e w' => e = .returned (.bool true) ∧ ∃ m, w' = w2.drewN m := fun q => by
        have := bag_any (.slice ph i ch) (.slice p i cap) H xs (w2.drewN q) (HS2.out.below (below_drewN (Below.refl _ _) q)) (HS.out.below (below_drewN hb2 q)) (by rw [HSZ.out]; omega)
        rw [HGN.out.bag] at this
        exact this.mono fun e w' ⟨a, m, b⟩ => ⟨a, q + m, by rw [b, World.drewN_drewN]⟩
      rcases Nat.eq_zero_or_pos i with rfl | hi0
      · clear hrd
        go_wp2_with fail
        go_quiet (first | (go_at_call 12; exact cb _))
        go_wp2
        go_ret
        exact ⟨rfl, below_drewN hb2 _⟩
      · have hiq : ((i : Int) == 0) = false := beq_eq_false_iff_ne.2 (by omega)
        have hiz : (0 : Int) < (i : Int) := by omega
        obtain ⟨gb, go, hph, hrh⟩ : ∃ blk off, ph = some ⟨blk, off, none⟩ ∧ RdAt w2 blk off H := by
          obtain ⟨p', c', e, _, h0 | ⟨blk, off, rfl, hr⟩⟩ := HS2.out
          · rw [HSZ.out] at h0; omega
          · simp only [Value.slice.injEq] at e; exact ⟨blk, off, e.1, hr⟩
        subst hph
        have hroot : H[0]!.1 = (hmake xs)[0]!.1 := by
          have hp := HGN.out.perm
          rw [List.take_of_length_le (by simp)] at hp
          exact heap_roots (hp.trans (hmake_perm xs).symm) HG.out.heap (hmake_heap xs) (by rw [HSZ.out]; exact hi0)
        obtain ⟨y0, y1, hy⟩ : ∃ x y, H[0]! = (x, y) := ⟨_, _, rfl⟩
        obtain ⟨z0, z1, hz⟩ : ∃ x y, (hmake xs)[0]! = (x, y) := ⟨_, _, rfl⟩
        obtain ⟨cy0, cy1⟩ := hrh.2 0 (by rw [HSZ.out]; exact hi0)
        obtain ⟨cz0, cz1⟩ := hrd.2 0 (by rw [hmake_size, HN.out]; exact hi0)
        rw [hy] at cy0 cy1 hroot
        rw [hz] at cz0 cz1 hroot
        have hroot' : y0 = z0 := hroot
        subst hroot'
        simp only [Nat.zero_mul, Nat.add_zero] at cy0 cy1 cz0 cz1
        clear hy hz hroot hrd hrh
        go_wp2_with fail
        go_quiet (first | (go_at_call 12; exact cb _))
        go_wp2
        go_ret
        exact ⟨rfl, below_drewN hb2 _⟩

theorem heapGrows_any (v : Value) (xs : Array (Int × Int)) (w : World) (h : Sl w v xs) (hbig : xs.size ≤ 9223372036854775807) :
    Calls Try.prog 5 #[v] w fun e w' => e = .returned (.bool true) ∧ Below w.heap.size w w' := by
  obtain ⟨p, cap, rfl, hcap, hp⟩ := id h
  exact heapGrows_some p xs.size cap xs w hbig rfl h
#print axioms heapGrows_any
end Go.Proofs.Ytcjfbenbdjlodaa
