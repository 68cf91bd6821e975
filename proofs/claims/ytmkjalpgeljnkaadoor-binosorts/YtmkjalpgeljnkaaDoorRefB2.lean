/-
  The document's heaps of trees: the place above the one at a place of a tree.
-/
import Derived.Test.YtmkjalpgeljnkaaDoorRefB1
namespace Go.Proofs.YtmkjalpgeljnkaaDoor
open Go.RowKit Go.Sort Go.Proofs

theorem aboveK_skip {r root from_ k : Nat} (h : from_ + twoN r ≤ k) : aboveK (r + 1) root from_ k = aboveK r root (from_ + twoN r) k := by
  unfold twoN at h ⊢; simp only [aboveK]; rw [if_pos h]
theorem aboveK_here {r root from_ : Nat} : aboveK (r + 1) root from_ from_ = root := by
  have := two_pos r
  simp only [aboveK]; rw [if_neg (by omega), if_pos trivial]
theorem aboveK_down {r root from_ k : Nat} (h : ¬ from_ + twoN r ≤ k) (e : k ≠ from_) : aboveK (r + 1) root from_ k = aboveK r from_ (from_ + 1) k := by
  unfold twoN at h; simp only [aboveK]; rw [if_neg h, if_neg e]
theorem twoN_one {r : Nat} (h : 1 < twoN r) : 1 ≤ r := by
  cases r with
  | zero => simp [twoN] at h
  | succ r => omega

set_option maxHeartbeats 4000000 in
theorem above_any (R k A : Nat) (hR : R ≤ 6) (hk : 1 ≤ k) (hk2 : k < twoN R) (HA : Hid (aboveK R 0 1 k = A)) (w : World) :
    Calls Tryd.prog 28 #[.int .i64 R, .int .i64 k] w fun e w' => e = .returned (.int .i64 A) ∧ w' = w := by
  have hkb : k ≤ 1048576 := by have := twoN_small (n := R) (by omega); omega
  go_enter Tryd.func28, Tryd.ntmps28
  go_wp2
  go_loopg [0, 5] R (fun g vr v5 wr => ∃ rank root : Nat, vr = .int .i64 rank ∧ v5 = .int .i64 root ∧ rank ≤ g ∧ rank ≤ 6 ∧ root < k ∧ k < root + twoN rank ∧ Hid (aboveK rank root (root + 1) k = A) ∧ Hid (w = wr))
  case atStart => exact ⟨R, 0, rfl, rfl, Nat.le_refl _, hR, by omega, by omega, HA, rfl⟩
  case round =>
    obtain ⟨rank, root, rfl, rfl, hg, hr6, h1, h2, HK, HW⟩ := hrel
    obtain ⟨r0, rfl⟩ : ∃ r0, rank = r0 + 1 := ⟨rank - 1, by have := twoN_one (r := rank) (by omega); omega⟩
    have hw1 : IntKind.i64.wrap ((root : Int) + 1) = (root : Int) + 1 := by rw [IntKind.wrap_i64]; omega
    have hw2 : IntKind.i64.wrap (((r0 + 1 : Nat) : Int) - 1) = (r0 : Int) := by rw [IntKind.wrap_i64]; omega
    go_wp2
    go_loopg [6, 7] r0 (fun g v6 v7 wq => ∃ fr r : Nat, v6 = .int .i64 fr ∧ v7 = .int .i64 r ∧ r ≤ g ∧ r ≤ r0 ∧ fr ≤ k ∧ k + 1 < fr + twoN (r + 1) ∧ Hid (aboveK (r + 1) root fr k = A) ∧ Hid (w = wq))
    case atStart => exact ⟨root + 1, r0, by go_num, rfl, Nat.le_refl _, Nat.le_refl _, by omega, by omega, HK, HW⟩
    case round =>
      obtain ⟨fr, r, rfl, rfl, hg2, hr0, h3, h4, HK2, HW2⟩ := hrel
      have cp := fun w => pow2_any r (by omega) w
      obtain ⟨q, hq⟩ : ∃ q, twoN r = q := ⟨_, rfl⟩
      have hqs := twoN_small (n := r) (by omega)
      have hqp := twoN_pos r
      rw [twoN_succ, hq] at h4
      rw [hq] at hqs hqp cp
      have HQ : Hid (twoN r = q) := hq
      clear hq
      have hw3 : IntKind.i64.wrap ((fr : Int) + (q : Int)) = (fr : Int) + (q : Int) := by rw [IntKind.wrap_i64]; omega
      by_cases hge : fr + q ≤ k
      · have hgz : (fr : Int) + (q : Int) ≤ (k : Int) := by omega
        obtain ⟨r1, rfl⟩ : ∃ r1, r = r1 + 1 := ⟨r - 1, by have := twoN_one (r := r) (by rw [HQ.out]; omega); omega⟩
        have hw4 : IntKind.i64.wrap (((r1 + 1 : Nat) : Int) - 1) = (r1 : Int) := by rw [IntKind.wrap_i64]; omega
        have HK3 : Hid (aboveK (r1 + 1) root (fr + q) k = A) := by
          show _ = _
          have e := aboveK_skip (r := r1 + 1) (root := root) (from_ := fr) (k := k) (by rw [HQ.out]; exact hge)
          rw [HQ.out] at e
          rw [← e]; exact HK2.out
        go_wp2_with (first | (go_at_call 27; refine (cp _).mono ?_; rintro e w' ⟨rfl, rfl⟩))
        go_roundg r1
        case measure => omega
        case rel => exact ⟨fr + q, r1, by go_num, rfl, Nat.le_refl _, by omega, hge, by rw [HQ.out]; omega, HK3, HW2⟩
      · have hgz : ¬ (fr : Int) + (q : Int) ≤ (k : Int) := by omega
        by_cases he : k = fr
        · subst he
          have HE : Hid (A = root) := by show _ = _; rw [← HK2.out]; exact aboveK_here
          go_wp2_with (first | (go_at_call 27; refine (cp _).mono ?_; rintro e w' ⟨rfl, rfl⟩))
          go_ret
          exact ⟨by rw [HE.out]; rfl, HW2.out.symm⟩
        · have heq : ((k : Int) == (fr : Int)) = false := beq_eq_false_iff_ne.2 (by omega)
          have HK3 : Hid (aboveK r fr (fr + 1) k = A) := by show _ = _; rw [← HK2.out, aboveK_down (by rw [HQ.out]; exact hge) he]
          go_wp2_with (first | (go_at_call 27; refine (cp _).mono ?_; rintro e w' ⟨rfl, rfl⟩))
          go_roundg r
          case measure => omega
          case rel => exact ⟨r, fr, rfl, rfl, Nat.le_refl _, by omega, by omega, by rw [HQ.out]; omega, HK3, HW2⟩
#print axioms above_any
end Go.Proofs.YtmkjalpgeljnkaaDoor
