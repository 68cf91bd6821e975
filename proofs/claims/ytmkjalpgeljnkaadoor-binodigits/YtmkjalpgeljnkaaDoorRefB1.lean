/-
  The document's heaps of trees: powers of two, the place above, the size, two trees linked.
-/
import Derived.Test.YtmkjalpgeljnkaaDoorElT
import Derived.Test.YtmkjalpgeljnkaaDoorBHeap
namespace Go.Proofs.YtmkjalpgeljnkaaDoor
open Go.RowKit Go.Sort Go.Proofs

/-- A power of two, laid aside. -/
def twoN (n : Nat) : Nat := 2 ^ n
theorem twoN_eq (n : Nat) : twoN n = 2 ^ n := rfl
theorem twoN_succ (n : Nat) : twoN (n + 1) = twoN n * 2 := by unfold twoN; rw [Nat.pow_succ]
theorem twoN_pos (n : Nat) : 0 < twoN n := two_pos n
theorem twoN_small {n : Nat} (h : n ≤ 20) : twoN n ≤ 1048576 := Nat.le_trans (Nat.pow_le_pow_right (by omega) h) (by decide)
set_option maxHeartbeats 1000000 in
theorem pow2_any (n : Nat) (hn : n ≤ 20) (w : World) : Calls Tryd.prog 27 #[.int .i64 n] w fun e w' => e = .returned (.int .i64 (twoN n : Nat)) ∧ w' = w := by
  go_enter Tryd.func27, Tryd.ntmps27
  go_wp2
  go_loopg [3, 4] n (fun g vp vi wr => ∃ i q : Nat, vi = .int .i64 i ∧ vp = .int .i64 q ∧ i ≤ n ∧ n - i ≤ g ∧ Hid (q = twoN i) ∧ Hid (w = wr))
  case atStart => exact ⟨0, 1, rfl, rfl, Nat.zero_le _, by omega, rfl, rfl⟩
  case round =>
    obtain ⟨i, q, rfl, rfl, hin, hg, HQ, HW⟩ := hrel
    have hq : q ≤ 1048576 := by rw [HQ.out]; exact twoN_small (by omega)
    by_cases hlt : i < n
    · have hlz : (i : Int) < (n : Int) := by omega
      have hw : IntKind.i64.wrap ((q : Int) * 2) = (q : Int) * 2 := by rw [IntKind.wrap_i64]; omega
      have HQ' : Hid (q * 2 = twoN (i + 1)) := by show _ = _; rw [HQ.out, twoN_succ]
      clear HQ
      go_wp2
      go_roundg (n - (i + 1))
      case measure => omega
      case rel => exact ⟨i + 1, q * 2, by go_num, by go_num, by omega, Nat.le_refl _, HQ', HW⟩
    · have hlz : ¬ (i : Int) < (n : Int) := by omega
      obtain rfl : i = n := by omega
      go_wp2
      go_ret
      exact ⟨by rw [← HQ.out]; rfl, HW.out.symm⟩
end Go.Proofs.YtmkjalpgeljnkaaDoor
