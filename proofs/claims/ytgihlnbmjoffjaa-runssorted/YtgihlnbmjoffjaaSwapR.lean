/-
  slices.swapRangeCmpFunc and slices.rotateCmpFunc at items: two neighbouring stretches change places.
-/
import Derived.Test.YtgihlnbmjoffjaaEnc
namespace Go.Proofs.Ytgihlnbmjoffjaa
open Go.RowKit Go.Sort Go.Proofs

set_option maxHeartbeats 2000000 in
set_option maxRecDepth 100000 in
theorem swapRange_any (w0 : World) (blk off cap N a b n : Nat) (d : Array (Int × Int)) (fv : Value) (W : World)
    (h : At w0 blk off N d W) (hab : a + n ≤ b) (hb : b + n ≤ N) (hsz : N < 4611686018427387904) :
    Calls Try.prog 54 #[.slice (some ⟨blk, off, none⟩) N cap, .int .i64 a, .int .i64 b, .int .i64 n, fv] W fun e w' =>
      e = .returned (.tuple #[]) ∧ At w0 blk off N (swapR d a b n) w' := by
  go_enter Try.func54, Try.ntmps54
  go_wp2
  go_loopg [10] n (fun g vi wr => ∃ (i : Nat), vi = .int .i64 i ∧ i + g = n ∧ At w0 blk off N (swapR d a b i) wr)
  case atStart => exact ⟨0, rfl, by omega, h⟩
  case round =>
    obtain ⟨i, rfl, hg, HS⟩ := hrel
    by_cases hlt : i < n
    · obtain ⟨x, hx⟩ : ∃ x, (swapR d a b i)[a + i]! = x := ⟨_, rfl⟩
      obtain ⟨y, hy⟩ : ∃ y, (swapR d a b i)[b + i]! = y := ⟨_, rfl⟩
      obtain ⟨cx0, cx1, fx0, fx1⟩ := HS.drew.cell (i := a + i) (by omega)
      obtain ⟨cy0, cy1, fy0, fy1⟩ := HS.drew.cell (i := b + i) (by omega)
      rw [hx] at cx0 cx1
      rw [hy] at cy0 cy1
      simp at cx0 cx1 cy0 cy1 fx0 fx1 fy0 fy1
      have b1 : (a : Int) + (i : Int) < (N : Int) := by omega
      have b2 : (b : Int) + (i : Int) < (N : Int) := by omega
      have HX : Hid _ := hx
      have HY : Hid _ := hy
      clear hx hy
      go_wp2_with fail
      go_region
      go_wp2
      go_roundg (n - (i + 1))
      case measure => omega
      case rel => exact ⟨i + 1, by go_num, by omega, HS.swap (by omega) (by omega) HX.out HY.out⟩
    · go_wp2
      go_end0
      obtain rfl : i = n := by omega
      exact ⟨rfl, HS⟩

set_option maxHeartbeats 2000000 in
set_option maxRecDepth 100000 in
theorem rotate_any (w0 : World) (blk off cap N a m b : Nat) (d : Array (Int × Int)) (fv : Value) (W : World)
    (h : At w0 blk off N d W) (ham : a < m) (hmb : m < b) (hb : b ≤ N) (hsz : N < 4611686018427387904) :
    Calls Try.prog 52 #[.slice (some ⟨blk, off, none⟩) N cap, .int .i64 a, .int .i64 m, .int .i64 b, fv] W fun e w' =>
      e = .returned (.tuple #[]) ∧ ∃ d', Rot a m b d d' ∧ At w0 blk off N d' w' := by
  go_enter Try.func52, Try.ntmps52
  go_wp2
  go_loopg [10, 11] (b - a) (fun g vi vj wr => ∃ (i j : Nat) (dk : Array (Int × Int)), vi = .int .i64 i ∧ vj = .int .i64 j ∧ 1 ≤ i ∧ 1 ≤ j ∧ i ≤ m ∧ m + j ≤ N ∧ i + j ≤ g ∧
    At w0 blk off N dk wr ∧ Aside (∀ d', Rot (m - i) m (m + j) dk d' → Rot a m b d d'))
  case atStart =>
    exact ⟨m - a, b - m, d, by go_num, by go_num, by omega, by omega, by omega, by omega, by omega, h, (show Aside _ from by
      intro d' hd
      rwa [show m - (m - a) = a by omega, show m + (b - m) = b by omega] at hd)⟩
  case round =>
    obtain ⟨i, j, dk, rfl, rfl, hi, hj, him, hjm, hg, HS, HT⟩ := hrel
    by_cases hij : i = j
    · subst hij
      go_wp2_with fail
      rw [show (m : Int) - (i : Int) = ((m - i : Nat) : Int) by omega]
      refine (swapRange_any w0 blk off cap N (m - i) m i dk fv _ HS (by omega) (by omega) hsz).mono ?_
      rintro e w' ⟨rfl, h'⟩
      go_wp2
      go_end0
      exact ⟨rfl, _, HT.out _ (rot_last dk m i him (by rw [HS.size]; exact hjm)), h'⟩
    · by_cases hlt : j < i
      · have q0 : ((i : Int) == (j : Int)) = false := beq_eq_false_iff_ne.2 (by omega)
        have q1 : (j : Int) < (i : Int) := by omega
        go_wp2_with fail
        rw [show (m : Int) - (i : Int) = ((m - i : Nat) : Int) by omega]
        refine (swapRange_any w0 blk off cap N (m - i) m j dk fv _ HS (by omega) (by omega) hsz).mono ?_
        rintro e w' ⟨rfl, h'⟩
        go_wp2
        go_roundg (i - j + j)
        case measure => omega
        case rel =>
          exact ⟨i - j, j, _, by go_num, rfl, by omega, hj, by omega, hjm, Nat.le_refl _, h', (show Aside _ from fun d' hd => HT.out d' (rot_big dk d' m i j hlt him (by rw [HS.size]; exact hjm) hd))⟩
      · have q0 : ((i : Int) == (j : Int)) = false := beq_eq_false_iff_ne.2 (by omega)
        have q1 : ¬ (j : Int) < (i : Int) := by omega
        go_wp2_with fail
        rw [show (m : Int) - (i : Int) = ((m - i : Nat) : Int) by omega, show (m : Int) + (j : Int) - (i : Int) = ((m + j - i : Nat) : Int) by omega]
        refine (swapRange_any w0 blk off cap N (m - i) (m + j - i) i dk fv _ HS (by omega) (by omega) hsz).mono ?_
        rintro e w' ⟨rfl, h'⟩
        go_wp2
        go_roundg (i + (j - i))
        case measure => omega
        case rel =>
          exact ⟨i, j - i, _, rfl, by go_num, hi, by omega, him, by omega, Nat.le_refl _, h', (show Aside _ from fun d' hd => HT.out d' (rot_small dk d' m i j (by omega) him (by rw [HS.size]; exact hjm) hd))⟩
#print axioms rotate_any
end Go.Proofs.Ytgihlnbmjoffjaa
