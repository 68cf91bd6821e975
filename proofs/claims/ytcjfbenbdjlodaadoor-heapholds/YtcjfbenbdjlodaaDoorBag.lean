/-
  Are two lists of items the same but for their order? And a list of two.
-/
import Derived.Test.YtcjfbenbdjlodaaDoorSame
namespace Go.Proofs.YtcjfbenbdjlodaaDoor
open Go.RowKit Go.Sort Go.Proofs

/-- How often an item is among the first. -/
def cntTo (xs : Array (Int × Int)) (x0 x1 : Int) : Nat → Nat
  | 0 => 0
  | j + 1 => cntTo xs x0 x1 j + if (xs[j]!.1 == x0 && xs[j]!.2 == x1) = true then 1 else 0
theorem cntTo_le (xs : Array (Int × Int)) (x0 x1 : Int) : ∀ j, cntTo xs x0 x1 j ≤ j
  | 0 => Nat.le_refl _
  | j + 1 => by have := cntTo_le xs x0 x1 j; rw [cntTo]; split <;> omega
theorem cntTo_take (xs : Array (Int × Int)) (x0 x1 : Int) : ∀ j, j ≤ xs.size → cntTo xs x0 x1 j = (xs.toList.take j).count (x0, x1)
  | 0, _ => by simp [cntTo]
  | j + 1, h => by
    have hj : j < xs.toList.length := by simp; omega
    rw [cntTo, cntTo_take xs x0 x1 j (by omega), List.take_succ_eq_append_getElem hj, List.count_append, getD_toList xs j hj]
    congr 1
    obtain ⟨a, b⟩ := xs[j]!
    by_cases h1 : a = x0 <;> by_cases h2 : b = x1 <;> simp [h1, h2]
theorem cntTo_count (xs : Array (Int × Int)) (x0 x1 : Int) : cntTo xs x0 x1 xs.size = xs.toList.count (x0, x1) := by
  rw [cntTo_take xs x0 x1 _ (Nat.le_refl _), List.take_of_length_le (by simp)]

def bagB (xs ys : Array (Int × Int)) : Bool := decide (xs.size = ys.size) && (List.range xs.size).all fun i => decide (cntTo xs xs[i]!.1 xs[i]!.2 xs.size = cntTo ys xs[i]!.1 xs[i]!.2 xs.size)
theorem bagB_true {xs ys : Array (Int × Int)} (hs : xs.size = ys.size) (h : ∀ i, i < xs.size → cntTo xs xs[i]!.1 xs[i]!.2 xs.size = cntTo ys xs[i]!.1 xs[i]!.2 xs.size) : bagB xs ys = true := by
  unfold bagB
  rw [Bool.and_eq_true, List.all_eq_true]
  exact ⟨decide_eq_true hs, fun i hi => decide_eq_true (h i (List.mem_range.1 hi))⟩
theorem bagB_false {xs ys : Array (Int × Int)} {i : Nat} (hi : i < xs.size) (h : cntTo xs xs[i]!.1 xs[i]!.2 xs.size ≠ cntTo ys xs[i]!.1 xs[i]!.2 xs.size) : bagB xs ys = false := by
  unfold bagB
  rw [Bool.and_eq_false_iff, List.all_eq_false]
  exact Or.inr ⟨i, List.mem_range.2 hi, by simpa using h⟩
theorem bagB_size {xs ys : Array (Int × Int)} (h : xs.size ≠ ys.size) : bagB xs ys = false := by unfold bagB; simp [h]
theorem bagB_elim {xs ys : Array (Int × Int)} (h : bagB xs ys = true) : xs.size = ys.size ∧ ∀ z, z ∈ xs.toList → xs.toList.count z = ys.toList.count z := by
  unfold bagB at h
  rw [Bool.and_eq_true, List.all_eq_true] at h
  have hs : xs.size = ys.size := of_decide_eq_true h.1
  refine ⟨hs, fun z hz => ?_⟩
  obtain ⟨i, hi, rfl⟩ := List.getElem_of_mem hz
  have hi' : i < xs.size := by simpa using hi
  have := of_decide_eq_true (h.2 i (List.mem_range.2 hi'))
  rw [cntTo_count] at this
  rw [hs, cntTo_count] at this
  rw [getD_toList]
  exact this
theorem bagB_intro {xs ys : Array (Int × Int)} (hs : xs.size = ys.size) (h : ∀ z, xs.toList.count z = ys.toList.count z) : bagB xs ys = true :=
  bagB_true hs fun i _ => by rw [cntTo_count, h]; rw [hs, cntTo_count]

theorem bag_unlike (p1 p2 : Option Addr) (n m c1 c2 : Nat) (w : World) (h : n ≠ m) :
    Calls Tryd.prog 17 #[.slice p1 n c1, .slice p2 m c2] w fun e w' => e = .returned (.bool false) ∧ ∃ q, w' = w.drewN q := by
  have hz : ((n : Int) == (m : Int)) = false := beq_eq_false_iff_ne.2 (by omega)
  go_enter Tryd.func17, Tryd.ntmps17
  go_wp2
  go_ret
  exact ⟨rfl, 0, rfl⟩
theorem bag_none (p1 p2 : Option Addr) (c1 c2 : Nat) (w : World) :
    Calls Tryd.prog 17 #[.slice p1 0 c1, .slice p2 0 c2] w fun e w' => e = .returned (.bool true) ∧ ∃ q, w' = w.drewN q := by
  go_enter Tryd.func17, Tryd.ntmps17
  go_wp2
  go_loop [5] (fun i => i = .int .i64 0) (fun _ => 0)
  case atStart => rfl
  case round =>
    subst hrel
    go_wp2
    go_ret
    exact ⟨rfl, 0, rfl⟩

set_option maxHeartbeats 4000000 in
theorem bag_some (b1 o1 c1 b2 o2 c2 n : Nat) (xs ys : Array (Int × Int)) (w : World) (hx : RdAt w b1 o1 xs) (hy : RdAt w b2 o2 ys) (hn : Hid (xs.size = n)) (hm : Hid (ys.size = n)) (hsz : n ≤ 4611686018427387904) :
    Calls Tryd.prog 17 #[.slice (some ⟨b1, o1, none⟩) n c1, .slice (some ⟨b2, o2, none⟩) n c2] w fun e w' => e = .returned (.bool (bagB xs ys)) ∧ ∃ q, w' = w.drewN q := by
  have HX : Aside _ := hx
  have HY : Aside _ := hy
  clear hx hy
  have k4 := guard_item
  go_enter Tryd.func17, Tryd.ntmps17
  go_wp2
  go_loopg [5] n (fun g vi wr => ∃ i q : Nat, vi = .int .i64 i ∧ i + g = n ∧ wr = w.drewN q ∧ Aside (∀ j, j < i → cntTo xs xs[j]!.1 xs[j]!.2 n = cntTo ys xs[j]!.1 xs[j]!.2 n))
  case atStart => exact ⟨0, 0, rfl, by omega, rfl, (show Aside _ from fun j hj => by omega)⟩
  case round =>
    obtain ⟨i, q, rfl, hg, rfl, HO⟩ := hrel
    by_cases hlt : i < n
    · have hlz : (i : Int) < (n : Int) := by omega
      obtain ⟨x0, x1, hx⟩ : ∃ x y, xs[i]! = (x, y) := ⟨_, _, rfl⟩
      have cx := HX.out.2 i (by rw [hn.out]; exact hlt)
      rw [hx] at cx
      obtain ⟨cx0, cx1⟩ := cx
      have HXX : Hid _ := hx
      clear hx
      go_wp2
      go_loopg [6, 7] n (fun g vm vj wr => ∃ j q : Nat, vj = .int .i64 j ∧ vm = .int .i64 ((cntTo xs x0 x1 j : Int) - (cntTo ys x0 x1 j : Int)) ∧ j + g = n ∧ wr = w.drewN q)
      case atStart => exact ⟨0, q, rfl, rfl, by omega, rfl⟩
      case round =>
        obtain ⟨j, q2, rfl, rfl, hgj, rfl⟩ := hrel
        have l1 := cntTo_le xs x0 x1 j
        have l2 := cntTo_le ys x0 x1 j
        by_cases hjt : j < n
        · have hjz : (j : Int) < (n : Int) := by omega
          obtain ⟨a0, a1, ha⟩ : ∃ x y, xs[j]! = (x, y) := ⟨_, _, rfl⟩
          obtain ⟨b0, b1', hbb⟩ : ∃ x y, ys[j]! = (x, y) := ⟨_, _, rfl⟩
          have ca := HX.out.2 j (by rw [hn.out]; exact hjt)
          have cb := HY.out.2 j (by rw [hm.out]; exact hjt)
          rw [ha] at ca
          rw [hbb] at cb
          obtain ⟨ca0, ca1⟩ := ca
          obtain ⟨cb0, cb1⟩ := cb
          have hX1 : cntTo xs x0 x1 (j + 1) = cntTo xs x0 x1 j + if (a0 == x0 && a1 == x1) = true then 1 else 0 := by rw [cntTo, ha]
          have hY1 : cntTo ys x0 x1 (j + 1) = cntTo ys x0 x1 j + if (b0 == x0 && b1' == x1) = true then 1 else 0 := by rw [cntTo, hbb]
          clear ha hbb
          obtain ⟨A, hA⟩ : ∃ A, cntTo xs x0 x1 j = A := ⟨_, rfl⟩
          obtain ⟨B, hB⟩ : ∃ B, cntTo ys x0 x1 j = B := ⟨_, rfl⟩
          rw [hA] at l1 hX1 ⊢
          rw [hB] at l2 hY1 ⊢
          clear hA hB
          have e1 := fun w => equalIn_item a0 a1 x0 x1 w
          have e2 := fun w => equalIn_item b0 b1' x0 x1 w
          have f1 := fun w => eql_item a0 a1 x0 x1 w
          have f2 := fun w => eql_item b0 b1' x0 x1 w
          generalize (a0 == x0 && a1 == x1) = ra at e1 f1 hX1
          generalize (b0 == x0 && b1' == x1) = rb at e2 f2 hY1
          have HX1 : Hid _ := hX1
          have HY1 : Hid _ := hY1
          clear hX1 hY1
          cases ra <;> cases rb
          all_goals
            go_wp2_with fail
            go_quiet (fail)
            go_wp2_with fail
            go_quiet (fail)
            go_wp2
            go_roundg (n - (j + 1))
            case measure => omega
            case rel => exact ⟨j + 1, _, by go_num, by rw [HX1.out, HY1.out]; simp only [if_true, Bool.false_eq_true, if_false]; go_num, by omega, by first | rfl | rw [World.drewN_drewN]⟩
        · have hjz : ¬ (j : Int) < (n : Int) := by omega
          obtain rfl : j = n := by omega
          by_cases he : cntTo xs x0 x1 j = cntTo ys x0 x1 j
          · have hz : ((cntTo xs x0 x1 j : Int) - (cntTo ys x0 x1 j : Int) == 0) = true := beq_iff_eq.2 (by omega)
            have HE : Hid _ := he
            clear he
            go_wp2
            go_roundg (j - (i + 1))
            case measure => omega
            case rel =>
              refine ⟨i + 1, q2, by go_num, by omega, rfl, (show Aside _ from fun k hk => ?_)⟩
              rcases Nat.lt_or_ge k i with c | c
              · exact HO.out k c
              · obtain rfl : k = i := by omega
                rw [HXX.out]; exact HE.out
          · have hz : ((cntTo xs x0 x1 j : Int) - (cntTo ys x0 x1 j : Int) == 0) = false := beq_eq_false_iff_ne.2 (by omega)
            have ef : bagB xs ys = false := bagB_false (i := i) (by rw [hn.out]; exact hlt) (by rw [HXX.out, hn.out]; exact he)
            have EF : Hid _ := ef
            clear ef he
            go_wp2
            go_ret
            exact ⟨ret_bb EF.out, q2, rfl⟩
    · have hlz : ¬ (i : Int) < (n : Int) := by omega
      have ef : bagB xs ys = true := bagB_true (hn.out.trans hm.out.symm) fun j hj => by rw [hn.out]; exact HO.out j (by rw [hn.out] at hj; omega)
      have EF : Hid _ := ef
      clear ef
      go_wp2
      go_ret
      exact ⟨ret_bb EF.out, q, rfl⟩

theorem bag_any (u v : Value) (xs ys : Array (Int × Int)) (w : World) (hx : Sl w u xs) (hy : Sl w v ys) (hn : xs.size ≤ 4611686018427387904) :
    Calls Tryd.prog 17 #[u, v] w fun e w' => e = .returned (.bool (bagB xs ys)) ∧ ∃ q, w' = w.drewN q := by
  obtain ⟨p1, c1, rfl, _, hx⟩ := hx
  obtain ⟨p2, c2, rfl, _, hy⟩ := hy
  by_cases hs : xs.size = ys.size
  · by_cases h0 : xs.size = 0
    · rw [bagB_true hs (fun i hi => by omega), ← hs, h0]
      exact bag_none p1 p2 c1 c2 w
    · rcases hx with hx | ⟨b1, o1, rfl, hx⟩
      · exact absurd hx h0
      rcases hy with hy | ⟨b2, o2, rfl, hy⟩
      · exact absurd (hs.trans hy) h0
      rw [← hs]
      exact bag_some b1 o1 c1 b2 o2 c2 xs.size xs ys w hx hy rfl hs.symm hn
  · rw [bagB_size hs]
    exact bag_unlike p1 p2 _ _ c1 c2 w hs
#print axioms bag_any
end Go.Proofs.YtcjfbenbdjlodaaDoor
