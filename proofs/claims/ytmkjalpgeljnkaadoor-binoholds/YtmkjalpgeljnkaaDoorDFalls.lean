/-
  bino.falls: whether a key of a tree is less than that of the root above it.
-/
import Derived.Test.YtmkjalpgeljnkaaDoorDBelow
import Derived.Test.YtmkjalpgeljnkaaDoorDSize
import Derived.Deep.RegionHeld3
namespace Go.Proofs.YtmkjalpgeljnkaaDoor
open Go.RowKit Go.Sort Go.Proofs

theorem Kids.join {key : Nat → Int} : ∀ (r root from_ : Nat), (∀ i, i < r → Kids key i (from_ + (2 ^ r - 2 ^ (i + 1))) (from_ + (2 ^ r - 2 ^ (i + 1)) + 1) ∧ key root ≤ key (from_ + (2 ^ r - 2 ^ (i + 1)))) → Kids key r root from_
  | 0, _, _, _ => trivial
  | r + 1, root, from_, h => by
    have hs : 2 ^ (r + 1) = 2 ^ r + 2 ^ r := by rw [Nat.pow_succ]; omega
    obtain ⟨h1, h2⟩ := h r (Nat.lt_succ_self r)
    rw [Nat.sub_self, Nat.add_zero] at h1 h2
    refine ⟨h2, h1, Kids.join r root (from_ + 2 ^ r) fun i hi => ?_⟩
    have hle : 2 ^ (i + 1) ≤ 2 ^ r := Nat.pow_le_pow_right (by omega) hi
    have e : from_ + 2 ^ r + (2 ^ r - 2 ^ (i + 1)) = from_ + (2 ^ (r + 1) - 2 ^ (i + 1)) := by
      rw [hs]
      generalize 2 ^ r = A at hle ⊢
      generalize 2 ^ (i + 1) = B at hle ⊢
      omega
    rw [e]
    exact h i (by omega)
theorem partD_key {r : Nat} {l : List (Int × Int)} {j t : Nat} (hj : j < r) (ht : t < 2 ^ j) : keyL (partD r l j) t = keyL l (1 + (2 ^ r - 2 ^ (j + 1)) + t) := by
  unfold partD keyL
  rw [if_pos hj, List.getElem?_take, if_pos ht, List.getElem?_drop]
theorem partD_len {r : Nat} {l : List (Int × Int)} {j : Nat} (hl : l.length = 2 ^ r) (hj : j < r) : (partD r l j).length = 2 ^ j := by
  have hs : 2 ^ (j + 1) = 2 ^ j + 2 ^ j := by rw [Nat.pow_succ]; omega
  have hle : 2 ^ (j + 1) ≤ 2 ^ r := Nat.pow_le_pow_right (by omega) hj
  have hp := two_pos j
  unfold partD
  rw [if_pos hj, List.length_take, List.length_drop, hl]
  omega
/-- A tree is one just if the trees below its root are, and none has a lesser root. -/
theorem isT_parts {r : Nat} {l : List (Int × Int)} (hl : l.length = 2 ^ r) : IsT r l ↔ ∀ j, j < r → IsT j (partD r l j) ∧ keyL l 0 ≤ keyL (partD r l j) 0 := by
  constructor
  · intro h j hj
    refine ⟨?_, ?_⟩
    · have := h.sub hj
      unfold partD; rw [if_pos hj]; exact this
    · obtain ⟨_, k2⟩ := Kids.sub r 0 1 h.kids j hj
      rw [partD_key hj (two_pos j), Nat.add_zero]
      exact k2
  · intro h
    refine ⟨hl, Kids.join r 0 1 fun i hi => ?_⟩
    obtain ⟨h1, h2⟩ := h i hi
    rw [partD_key hi (two_pos i), Nat.add_zero] at h2
    refine ⟨?_, h2⟩
    refine Kids.moved (key := keyL (partD r l i)) i 0 1 _ _ ?_ (fun j hj => ?_) h1.kids
    · exact (partD_key hi (two_pos i)).symm
    · rw [partD_key hi (by omega), show 1 + (2 ^ r - 2 ^ (i + 1)) + 1 + j = 1 + (2 ^ r - 2 ^ (i + 1)) + (1 + j) by omega]
/-- Whether a key of a tree falls. -/
def fallB (r : Nat) (l : List (Int × Int)) : Bool := !keysB ((r : Int), l)
theorem fallB_no {r : Nat} {l : List (Int × Int)} (h : IsT r l) : fallB r l = false := by unfold fallB; rw [kids_keysB h]; rfl
theorem fallB_isT {r : Nat} {l : List (Int × Int)} (hl : l.length = 2 ^ r) (h : fallB r l = false) : IsT r l := by
  refine keysB_kids hl ?_
  unfold fallB at h
  cases e : keysB ((r : Int), l)
  · rw [e] at h; cases h
  · rfl
theorem fallB_yes {r : Nat} {l : List (Int × Int)} (hl : l.length = 2 ^ r) (h : ¬ IsT r l) : fallB r l = true := by
  cases e : fallB r l
  · exact absurd (fallB_isT hl e) h
  · rfl

set_option maxHeartbeats 16000000 in
set_option maxRecDepth 4000 in
theorem falls_step (r blk off n cap : Nat) (l : List (Int × Int)) (w : World) (hr : r ≤ 5) (hn0 : 0 < n) (HN : Hid (l.length = n)) (HL : Hid (l.length = 2 ^ r)) (HR : Hid (RdAt w blk off l.toArray)) (hcap : n ≤ cap)
    (IH : Hid (∀ j, j < r → ∀ (v : Value) (l : List (Int × Int)) (w : World), Sl w v l.toArray → l.length = 2 ^ j → Calls Tryd.prog 32 #[v] w fun e w' => e = .returned (.bool (fallB j l)) ∧ Below w.heap.size w w')) :
    Calls Tryd.prog 32 #[.slice (some ⟨blk, off, none⟩) n cap] w fun e w' => e = .returned (.bool (fallB r l)) ∧ Below w.heap.size w w' := by
  have hz0 : (0 : Int) < (n : Int) := by omega
  have hs : Sl w (.slice (some ⟨blk, off, none⟩) n cap) l.toArray := by
    have := Sl.of_rd (cap := cap) HR.out (by rw [List.size_toArray, HN.out]; exact hcap)
    rw [List.size_toArray, HN.out] at this; exact this
  have cB := below_any _ r l w hs hr HL.out
  have k0 : w.cell? ⟨blk, off, none⟩ = some (.int .i64 (keyL l 0)) := by
    have h1 := (HR.out.2 0 (by rw [List.size_toArray, HN.out]; exact hn0)).1
    simp only [Nat.zero_mul, Nat.add_zero] at h1
    rw [h1, keyL_arr (by rw [HN.out]; exact hn0)]
  have hbw : blk < w.heap.size := HR.out.1
  clear hs
  generalize hkr : keyL l 0 = kr at k0
  have HKR : Hid (keyL l 0 = kr) := hkr
  clear hkr
  go_enter Tryd.func32, Tryd.ntmps32
  go_wp2_with fail
  refine cB.mono ?_
  rintro e w1 ⟨d, he, hd, hb1⟩
  obtain ⟨s0, s1, s2, s3, s4, s5, rfl⟩ := six hd.1
  have he' : e = .returned (.agg #[.slice s0.1 s0.2.1 s0.2.2, .slice s1.1 s1.2.1 s1.2.2, .slice s2.1 s2.2.1 s2.2.2, .slice s3.1 s3.2.1 s3.2.2, .slice s4.1 s4.2.1 s4.2.2, .slice s5.1 s5.2.1 s5.2.2]) := he
  subst he'
  have HD : Hid (DgAt w [s0, s1, s2, s3, s4, s5] (partD r l)) := hd
  clear he hd cB
  go_wp2
  go_loopg [7] 6 (fun gg v7 wr => ∃ k : Nat, v7 = .int .i64 k ∧ k ≤ 6 ∧ 6 - k ≤ gg ∧ Hid (∀ j, j < k → j < r → IsT j (partD r l j) ∧ keyL l 0 ≤ keyL (partD r l j) 0) ∧ Hid (Below w.heap.size w wr))
  case atStart => exact ⟨0, rfl, by omega, by omega, (fun j hj => absurd hj (Nat.not_lt_zero _)), hb1⟩
  case round =>
    obtain ⟨k, rfl, hk, hg, HI, HB⟩ := hrel
    have hB : w.heap.size ≤ wr.heap.size := HB.out.size
    by_cases hlt : k < 6
    · have hlz : (k : Int) < 6 := by omega
      obtain ⟨⟨p, m, c⟩, es, hs⟩ := HD.out.2 k hlt
      have jx := ixk s0 s1 s2 s3 s4 s5 k (p, m, c) es
      simp only at jx hs
      clear es
      by_cases hkr : k < r
      · have hlen := partD_len HL.out hkr
        have hpos := two_pos k
        have hm : m = (partD r l k).length := hs.count
        have hm0 : 0 < m := by omega
        obtain ⟨p', c', e', hc', h0 | ⟨b, o, rfl, hrd⟩⟩ := id hs
        · rw [List.size_toArray] at h0; omega
        simp only [Value.slice.injEq] at e'
        obtain ⟨rfl, hm2, rfl⟩ := e'
        clear hm2
        have hbw2 : b < w.heap.size := hrd.1
        have q0 : w.cell? ⟨b, o, none⟩ = some (.int .i64 (keyL (partD r l k) 0)) := by
          have h1 := (hrd.2 0 (by rw [List.size_toArray]; omega)).1
          simp only [Nat.zero_mul, Nat.add_zero] at h1
          rw [h1, keyL_arr (by omega)]
        have x0 := (HB.out.cell (p := ⟨b, o, none⟩) hbw2).trans q0
        have x1 := (HB.out.cell (p := ⟨blk, off, none⟩) hbw).trans k0
        have hmz : (0 : Int) < (m : Int) := by omega
        have hd1 : decide (0 < m) = true := decide_eq_true hm0
        have hbr : b < wr.heap.size := by omega
        have hblr : blk < wr.heap.size := by omega
        have CF : Hid (∀ W, Below wr.heap.size wr W → Calls Tryd.prog 32 #[.slice (some ⟨b, o, none⟩) m c] W fun e w' => e = .returned (.bool (fallB k (partD r l k))) ∧ Below W.heap.size W w') := fun W hb => IH.out k hkr _ _ W ((hs.below HB.out).below hb) hlen
        generalize hkp : keyL (partD r l k) 0 = kp at q0 x0
        have HKP : Hid (keyL (partD r l k) 0 = kp) := hkp
        have HLN : Hid ((partD r l k).length = 2 ^ k) := hlen
        have HHK : Hid (k < r) := hkr
        clear hkp hlen hpos hm hs hrd q0
        by_cases hless : kp < kr
        · have hd2 : decide (kp < kr) = true := decide_eq_true hless
          have HF : Hid (fallB r l = true) := fallB_yes HL.out (fun hT => by have := ((isT_parts HL.out).1 hT k HHK.out).2; rw [HKR.out, HKP.out] at this; omega)
          go_wp2_with fail
          go_quiet (fail)
          go_wp2
          go_ret
          exact ⟨by rw [HF.out]; rfl, below_drewN HB.out nq⟩
        · have hd2 : decide (kp < kr) = false := decide_eq_false hless
          cases hfb : fallB k (partD r l k) with
          | true =>
            have HFB : Hid (fallB k (partD r l k) = true) := hfb
            have HF : Hid (fallB r l = true) := fallB_yes HL.out (fun hT => by have h1 := ((isT_parts HL.out).1 hT k HHK.out).1; rw [fallB_no h1] at hfb; cases hfb)
            rw [hfb] at CF
            clear hfb
            go_wp2_with fail
            go_region_held3 (fun w' => w'.cell? ⟨b, o, none⟩ = some (.int .i64 kp) ∧ w'.cell? ⟨blk, off, none⟩ = some (.int .i64 kr)) (first | go_keep | (exact ⟨j0, j1⟩)) (first | (go_at_call 32; refine (CF.out _ (below_drewN (Below.refl _ _) 1)).mono ?_; rintro e w2 ⟨rfl, hb2'⟩; have hb2 : Below wr.heap.size wr w2 := (below_drewN (Below.refl _ _) 1).trans hb2'; have j0 := (hb2.cell (p := ⟨b, o, none⟩) hbr).trans x0; have j1 := (hb2.cell (p := ⟨blk, off, none⟩) hblr).trans x1; clear hb2'))
            all_goals
              go_wp2
              go_ret
              exact ⟨by rw [HF.out]; rfl, HB.out.trans (hb2.mono hB)⟩
          | false =>
            have HFB : Hid (fallB k (partD r l k) = false) := hfb
            have HI' : Hid (∀ j, j < k + 1 → j < r → IsT j (partD r l j) ∧ keyL l 0 ≤ keyL (partD r l j) 0) := by
              show ∀ j, _
              intro j hj hjr
              rcases Nat.lt_or_ge j k with a | a
              · exact HI.out j a hjr
              · obtain rfl : j = k := by omega
                exact ⟨fallB_isT HLN.out hfb, by rw [HKR.out, HKP.out]; omega⟩
            rw [hfb] at CF
            clear hfb
            go_wp2_with fail
            go_region_held3 (fun w' => w'.cell? ⟨b, o, none⟩ = some (.int .i64 kp) ∧ w'.cell? ⟨blk, off, none⟩ = some (.int .i64 kr)) (first | go_keep | (exact ⟨j0, j1⟩)) (first | (go_at_call 32; refine (CF.out _ (below_drewN (Below.refl _ _) 1)).mono ?_; rintro e w2 ⟨rfl, hb2'⟩; have hb2 : Below wr.heap.size wr w2 := (below_drewN (Below.refl _ _) 1).trans hb2'; have j0 := (hb2.cell (p := ⟨b, o, none⟩) hbr).trans x0; have j1 := (hb2.cell (p := ⟨blk, off, none⟩) hblr).trans x1; clear hb2'))
            all_goals
              go_wp2
              go_roundg (6 - (k + 1))
              case measure => omega
              case rel => exact ⟨k + 1, by go_num, by omega, Nat.le_refl _, HI', HB.out.trans (hb2.mono hB)⟩
      · have hm : m = 0 := by
          have : m = (partD r l k).length := hs.count
          unfold partD at this; rw [if_neg hkr] at this; exact this
        subst hm
        have HI' : Hid (∀ j, j < k + 1 → j < r → IsT j (partD r l j) ∧ keyL l 0 ≤ keyL (partD r l j) 0) := by
          show ∀ j, _
          intro j hj hjr
          rcases Nat.lt_or_ge j k with a | a
          · exact HI.out j a hjr
          · omega
        clear hs
        go_wp2_with fail
        go_quiet (fail)
        go_wp2
        go_roundg (6 - (k + 1))
        case measure => omega
        case rel => exact ⟨k + 1, by go_num, by omega, Nat.le_refl _, HI', below_drewN HB.out nq⟩
    · obtain rfl : k = 6 := by omega
      have HF : Hid (fallB r l = false) := fallB_no ((isT_parts HL.out).2 fun j hj => HI.out j (by omega) hj)
      go_wp2
      go_ret
      exact ⟨by rw [HF.out]; rfl, HB.out⟩
theorem falls_to : ∀ (m r : Nat), r < m → r ≤ 5 → ∀ (v : Value) (l : List (Int × Int)) (w : World), Sl w v l.toArray → l.length = 2 ^ r → Calls Tryd.prog 32 #[v] w fun e w' => e = .returned (.bool (fallB r l)) ∧ Below w.heap.size w w'
  | 0, r, h, _, _, _, _, _, _ => absurd h (Nat.not_lt_zero _)
  | m + 1, r, h, h5, v, l, w, hs, hl => by
    have hp := two_pos r
    obtain ⟨p, c, rfl, hc, h0 | ⟨blk, off, rfl, hr⟩⟩ := hs
    · rw [List.size_toArray, hl] at h0; omega
    · rw [List.size_toArray] at hc ⊢
      exact falls_step r blk off l.length c l w h5 (by omega) rfl hl hr hc fun j hj v l w a b => falls_to m j (by omega) (by omega) v l w a b
theorem falls_any (r : Nat) (hr : r ≤ 5) (v : Value) (l : List (Int × Int)) (w : World) (hs : Sl w v l.toArray) (hl : l.length = 2 ^ r) : Calls Tryd.prog 32 #[v] w fun e w' => e = .returned (.bool (fallB r l)) ∧ Below w.heap.size w w' := falls_to (r + 1) r (Nat.lt_succ_self r) hr v l w hs hl
#print axioms falls_any
end Go.Proofs.YtmkjalpgeljnkaaDoor
