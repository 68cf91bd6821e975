/-
  The document's answers on lists of items: what is wrong with them.
-/
import Derived.Test.YtcjfbenbdjlodaaDoorRd
namespace Go.Proofs.YtcjfbenbdjlodaaDoor
open Go.RowKit Go.Sort Go.Proofs

theorem in_any (n lo hi : Int) (w : World) : Calls Tryd.prog 19 #[.int .i64 n, .int .i64 lo, .int .i64 hi] w fun e w' => e = .returned (.bool (decide (lo ≤ n) && decide (n ≤ hi))) ∧ w' = w := by
  by_cases h1 : lo ≤ n
  · by_cases h2 : n ≤ hi
    · rw [decide_eq_true h1, decide_eq_true h2]
      go_enter Tryd.func19, Tryd.ntmps19
      go_wp2
      go_ret
      exact ⟨rfl, rfl⟩
    · rw [decide_eq_true h1, decide_eq_false h2]
      go_enter Tryd.func19, Tryd.ntmps19
      go_wp2
      go_ret
      exact ⟨rfl, rfl⟩
  · rw [decide_eq_false h1, Bool.false_and]
    go_enter Tryd.func19, Tryd.ntmps19
    go_wp2
    go_ret
    exact ⟨rfl, rfl⟩
theorem ret_int {a b : Int} (h : a = b) : Ending.returned (.int .i64 b) = .returned (.int .i64 a) := by rw [h]

def outN (xs : Array (Int × Int)) : Int := if anyOut xs then 1 else 0
theorem refItems_many (p : Option Addr) (n cap : Nat) (w : World) (h : 60 < n) (hbig : n ≤ 9223372036854775807) :
    Calls Tryd.prog 5 #[.slice p n cap] w fun e w' => e = .returned (.int .i64 4) ∧ w' = w := by
  have hz : (60 : Int) < (n : Int) := by omega
  go_enter Tryd.func5, Tryd.ntmps5
  go_wp2
  go_ret
  exact ⟨rfl, rfl⟩
theorem refItems_none (p : Option Addr) (cap : Nat) (w : World) :
    Calls Tryd.prog 5 #[.slice p 0 cap] w fun e w' => e = .returned (.int .i64 0) ∧ w' = w := by
  go_enter Tryd.func5, Tryd.ntmps5
  go_wp2
  go_loop [3] (fun i => i = .int .i64 0) (fun _ => 0)
  case atStart => rfl
  case round =>
    subst hrel
    go_wp2
    go_ret
    exact ⟨rfl, rfl⟩
set_option maxHeartbeats 2000000 in
theorem refItems_some (blk off cap n : Nat) (xs : Array (Int × Int)) (w : World) (hx : RdAt w blk off xs) (hn : Hid (xs.size = n)) (hsz : n ≤ 60) :
    Calls Tryd.prog 5 #[.slice (some ⟨blk, off, none⟩) n cap] w fun e w' => e = .returned (.int .i64 (outN xs)) ∧ w' = w := by
  have HX : Aside _ := hx
  clear hx
  go_enter Tryd.func5, Tryd.ntmps5
  go_wp2
  go_loop [3] (fun vi => ∃ i : Nat, vi = .int .i64 i ∧ i ≤ n ∧ Aside (∀ j, j < i → outB xs[j]! = false)) (fun vi => n - (intOf vi).toNat)
  case atStart => exact ⟨0, rfl, Nat.zero_le _, (show Aside _ from fun j hj => by omega)⟩
  case round =>
    obtain ⟨i, rfl, hin, HO⟩ := hrel
    by_cases hlt : i < n
    · have hlz : (i : Int) < (n : Int) := by omega
      obtain ⟨x, y, hxy⟩ : ∃ x y, xs[i]! = (x, y) := ⟨_, _, rfl⟩
      obtain ⟨c0, c1⟩ := HX.out.2 i (by rw [hn.out]; exact hlt)
      rw [hxy] at c0 c1
      have HXY : Hid (xs[i]! = (x, y)) := hxy
      clear hxy
      have k1 := in_any x (-1000000) 1000000 w
      have k2 := in_any y 0 1000000 w
      by_cases h1 : -1000000 ≤ x ∧ x ≤ 1000000
      · rw [decide_eq_true h1.1, decide_eq_true h1.2] at k1
        by_cases h2 : 0 ≤ y ∧ y ≤ 1000000
        · rw [decide_eq_true h2.1, decide_eq_true h2.2] at k2
          have HF : Hid (outB (x, y) = false) := decide_eq_false (by simp only; omega)
          clear h1 h2
          go_wp2_with fail
          refine k1.mono ?_
          rintro e w1 ⟨rfl, rfl⟩
          go_wp2_with fail
          refine k2.mono ?_
          rintro e w1 ⟨rfl, rfl⟩
          go_wp2
          go_round
          case rel =>
            refine ⟨i + 1, by go_num, by omega, (show Aside _ from fun j hj => ?_)⟩
            rcases Nat.lt_or_ge j i with c | c
            · exact HO.out j c
            · obtain rfl : j = i := by omega
              rw [HXY.out]; exact HF.out
          case measure => simp [intOf]; omega
        · have e2 : (decide (0 ≤ y) && decide (y ≤ 1000000)) = false := by simpa using h2
          rw [e2] at k2
          have hany : anyOut xs = true := anyOut_true (k := i) (by rw [hn.out]; exact hlt) (by rw [HXY.out]; exact decide_eq_true (by simp only; omega))
          have HA : Hid (outN xs = 1) := by show _ = _; unfold outN; rw [hany]; rfl
          clear h1 h2 e2 hany
          go_wp2_with fail
          refine k1.mono ?_
          rintro e w1 ⟨rfl, rfl⟩
          go_wp2_with fail
          refine k2.mono ?_
          rintro e w1 ⟨rfl, rfl⟩
          go_wp2
          go_ret
          exact ⟨ret_int HA.out, rfl⟩
      · have e1 : (decide (-1000000 ≤ x) && decide (x ≤ 1000000)) = false := by simpa using h1
        rw [e1] at k1
        have hany : anyOut xs = true := anyOut_true (k := i) (by rw [hn.out]; exact hlt) (by rw [HXY.out]; exact decide_eq_true (by simp only; omega))
        have HA : Hid (outN xs = 1) := by show _ = _; unfold outN; rw [hany]; rfl
        clear h1 e1 hany
        go_wp2_with fail
        refine k1.mono ?_
        rintro e w1 ⟨rfl, rfl⟩
        go_wp2
        go_ret
        exact ⟨ret_int HA.out, rfl⟩
    · have hlz : ¬ (i : Int) < (n : Int) := by omega
      have hany : anyOut xs = false := anyOut_false fun j hj => HO.out j (by rw [hn.out] at hj; omega)
      have HA : Hid (outN xs = 0) := by show _ = _; unfold outN; rw [hany]; rfl
      clear hany
      go_wp2
      go_ret
      exact ⟨ret_int HA.out, rfl⟩
theorem refItems_any (v : Value) (xs : Array (Int × Int)) (w : World) (h : Sl w v xs) (hbig : xs.size ≤ 9223372036854775807) :
    Calls Tryd.prog 5 #[v] w fun e w' => e = .returned (.int .i64 (wrong xs : Nat)) ∧ w' = w := by
  obtain ⟨p, cap, rfl, _, hp⟩ := h
  unfold wrong
  by_cases h60 : 60 < xs.size
  · rw [if_pos h60]; exact refItems_many p _ cap w h60 hbig
  · rw [if_neg h60]
    rcases hp with hp | ⟨blk, off, rfl, hr⟩
    · rw [show anyOut xs = false from anyOut_false fun i hi => by omega, hp]; exact refItems_none p cap w
    · have := refItems_some blk off cap xs.size xs w hr rfl (by omega)
      unfold outN at this
      cases h : anyOut xs <;> rw [h] at this <;> exact this
end Go.Proofs.YtcjfbenbdjlodaaDoor
