/-
  The document's leaning heaps: a part of a list.
-/
import Derived.Test.YtoaabpoicacogaaDoorElN
import Derived.Test.YtoaabpoicacogaaDoorLChk
namespace Go.Proofs.YtoaabpoicacogaaDoor
open Go.RowKit Go.Proofs

/-- The nodes from a on up to i, moved. -/
def cutN (xs : List Nd) (a i : Nat) : List Nd := ((xs.drop a).take (i - a)).map (LT.mvN (-(a : Int)))
theorem cutN_none (xs : List Nd) (a : Nat) : cutN xs a a = [] := by simp [cutN]
theorem cutN_len {xs : List Nd} {a i : Nat} (h : i ≤ xs.length) : (cutN xs a i).length = i - a := by simp [cutN]; omega
theorem cutN_succ {xs : List Nd} {a i : Nat} (ha : a ≤ i) {x : Nd} (hx : xs[i]? = some x) : cutN xs a (i + 1) = cutN xs a i ++ [LT.mvN (-(a : Int)) x] := by
  obtain ⟨hi, rfl⟩ := List.getElem?_eq_some_iff.1 hx
  unfold cutN
  have hl : i - a < (xs.drop a).length := by simp; omega
  rw [show i + 1 - a = (i - a) + 1 by omega, List.take_succ_eq_append_getElem hl, List.map_append]
  congr 1
  simp [show a + (i - a) = i by omega]

set_option maxHeartbeats 8000000 in
set_option maxRecDepth 4000 in
theorem part_some (blk off n cap a b : Nat) (xs : List Nd) (w : World) (hab : a ≤ b) (hbn : b ≤ n) (hn : n ≤ 100) (HN : Hid (xs.length = n)) (HR : Hid (RdE EN w blk off xs)) (HP : Hid (∀ x ∈ xs, -1 ≤ x.2.2.1 ∧ x.2.2.1 ≤ 1000 ∧ -1 ≤ x.2.2.2 ∧ x.2.2.2 ≤ 1000)) :
    Calls Tryd.prog 30 #[.slice (some ⟨blk, off, none⟩) n cap, .int .i64 a, .int .i64 b] w fun e w' => ∃ u, e = .returned u ∧ OwnE EN w' w.heap.size u (cutN xs a b) ∧ Below w.heap.size w w' := by
  go_enter Tryd.func30, Tryd.ntmps30
  go_wp2
  go_loopg [7, 8] (b - a) (fun gg vo vi wr => ∃ i : Nat, vi = .int .i64 i ∧ a ≤ i ∧ i ≤ b ∧ b - i ≤ gg ∧ Hid (OwnE EN wr w.heap.size vo (cutN xs a i)) ∧ Hid (Below w.heap.size w wr))
  case atStart => exact ⟨a, rfl, Nat.le_refl _, hab, Nat.le_refl _, (show OwnE _ _ _ _ _ by rw [cutN_none]; exact OwnE.nil EN _ _), Below.refl _ _⟩
  case round =>
    obtain ⟨i, rfl, hai, hib, hg, HO, HB⟩ := hrel
    by_cases hlt : i < b
    · have hlz : (i : Int) < (b : Int) := by omega
      have hnz : (i : Int) < (n : Int) := by omega
      obtain ⟨⟨k, d, L, R⟩, hx⟩ : ∃ x, xs[i]? = some x := ⟨xs[i]'(by rw [HN.out]; omega), by simp⟩
      obtain ⟨c0, c1, c2, c3⟩ := (HR.out.below HB.out HR.out.1).node hx
      obtain ⟨p1, p2, p3, p4⟩ := HP.out _ (List.mem_of_getElem? hx)
      have HC := cutN_succ (a := a) hai hx
      have HC' : Hid (cutN xs a (i + 1) = cutN xs a i ++ [(k, d, LT.mv (-(a : Int)) L, LT.mv (-(a : Int)) R)]) := HC
      have hlen : (cutN xs a i).length ≤ 100 := by rw [cutN_len (by rw [HN.out]; omega)]; omega
      have hB : w.heap.size ≤ wr.heap.size := HB.out.size
      simp only at p1 p2 p3 p4
      clear hx HC
      by_cases hL : L = -1
      · have eL : LT.mv (-(a : Int)) L = -1 := by unfold LT.mv; rw [if_pos hL]
        by_cases hR : R = -1
        · have eR : LT.mv (-(a : Int)) R = -1 := by unfold LT.mv; rw [if_pos hR]
          subst hL
          subst hR
          have HC2 : Hid (cutN xs a (i + 1) = cutN xs a i ++ [(k, d, -1, -1)]) := by show _ = _; rw [HC'.out]; simp only [eL]
          clear eL eR HC'
          go_wp2_with (first | (at_builtin; refine wpList_appendE EN rfl (.tmp 36) (.tmp 38) rfl w.heap.size u7 (cutN xs a i) (k, d, -1, -1) ⟨wr.heap.size + 1, 0, none⟩ 1 rfl ((HO.out.alloc _).alloc _) rfl (new_node _ _ (by simp) _ _ _ _) (by omega) (by simp; omega) ?_; intro v' w' hA hgr hk))
          have hb' : Below w.heap.size w w' := ((HB.out.alloc hB _).alloc (by simp; omega) _).trans (below_ownE ((HO.out.alloc _).alloc _) hgr (Nat.le_refl _) (by simp; omega))
          have HA : Hid (OwnE EN w' w.heap.size v' (cutN xs a (i + 1))) := by show OwnE _ _ _ _ _; rw [HC2.out]; exact hA
          clear hgr hk hA
          go_roundg (b - (i + 1))
          case measure => omega
          case rel => exact ⟨i + 1, by go_num, by omega, by omega, Nat.le_refl _, HA, hb'⟩
        · have eR : LT.mv (-(a : Int)) R = R - a := by unfold LT.mv; rw [if_neg hR]; omega
          have hRq : (R == -1) = false := beq_eq_false_iff_ne.2 hR
          subst hL
          have HC2 : Hid (cutN xs a (i + 1) = cutN xs a i ++ [(k, d, -1, R - a)]) := by show _ = _; rw [HC'.out]; simp only [eL, eR]
          clear eL eR HC'
          go_wp2_with (first | (at_builtin; refine wpList_appendE EN rfl (.tmp 36) (.tmp 38) rfl w.heap.size u7 (cutN xs a i) (k, d, -1, R - a) ⟨wr.heap.size + 1, 0, none⟩ 1 rfl ((HO.out.alloc _).alloc _) rfl (new_node _ _ (by simp) _ _ _ _) (by omega) (by simp; omega) ?_; intro v' w' hA hgr hk))
          have hb' : Below w.heap.size w w' := ((HB.out.alloc hB _).alloc (by simp; omega) _).trans (below_ownE ((HO.out.alloc _).alloc _) hgr (Nat.le_refl _) (by simp; omega))
          have HA : Hid (OwnE EN w' w.heap.size v' (cutN xs a (i + 1))) := by show OwnE _ _ _ _ _; rw [HC2.out]; exact hA
          clear hgr hk hA
          go_roundg (b - (i + 1))
          case measure => omega
          case rel => exact ⟨i + 1, by go_num, by omega, by omega, Nat.le_refl _, HA, hb'⟩
      · have eL : LT.mv (-(a : Int)) L = L - a := by unfold LT.mv; rw [if_neg hL]; omega
        have hLq : (L == -1) = false := beq_eq_false_iff_ne.2 hL
        by_cases hR : R = -1
        · have eR : LT.mv (-(a : Int)) R = -1 := by unfold LT.mv; rw [if_pos hR]
          subst hR
          have HC2 : Hid (cutN xs a (i + 1) = cutN xs a i ++ [(k, d, L - a, -1)]) := by show _ = _; rw [HC'.out]; simp only [eL, eR]
          clear eL eR HC'
          go_wp2_with (first | (at_builtin; refine wpList_appendE EN rfl (.tmp 36) (.tmp 38) rfl w.heap.size u7 (cutN xs a i) (k, d, L - a, -1) ⟨wr.heap.size + 1, 0, none⟩ 1 rfl ((HO.out.alloc _).alloc _) rfl (new_node _ _ (by simp) _ _ _ _) (by omega) (by simp; omega) ?_; intro v' w' hA hgr hk))
          have hb' : Below w.heap.size w w' := ((HB.out.alloc hB _).alloc (by simp; omega) _).trans (below_ownE ((HO.out.alloc _).alloc _) hgr (Nat.le_refl _) (by simp; omega))
          have HA : Hid (OwnE EN w' w.heap.size v' (cutN xs a (i + 1))) := by show OwnE _ _ _ _ _; rw [HC2.out]; exact hA
          clear hgr hk hA
          go_roundg (b - (i + 1))
          case measure => omega
          case rel => exact ⟨i + 1, by go_num, by omega, by omega, Nat.le_refl _, HA, hb'⟩
        · have eR : LT.mv (-(a : Int)) R = R - a := by unfold LT.mv; rw [if_neg hR]; omega
          have hRq : (R == -1) = false := beq_eq_false_iff_ne.2 hR
          have HC2 : Hid (cutN xs a (i + 1) = cutN xs a i ++ [(k, d, L - a, R - a)]) := by show _ = _; rw [HC'.out]; simp only [eL, eR]
          clear eL eR HC'
          go_wp2_with (first | (at_builtin; refine wpList_appendE EN rfl (.tmp 36) (.tmp 38) rfl w.heap.size u7 (cutN xs a i) (k, d, L - a, R - a) ⟨wr.heap.size + 1, 0, none⟩ 1 rfl ((HO.out.alloc _).alloc _) rfl (new_node _ _ (by simp) _ _ _ _) (by omega) (by simp; omega) ?_; intro v' w' hA hgr hk))
          have hb' : Below w.heap.size w w' := ((HB.out.alloc hB _).alloc (by simp; omega) _).trans (below_ownE ((HO.out.alloc _).alloc _) hgr (Nat.le_refl _) (by simp; omega))
          have HA : Hid (OwnE EN w' w.heap.size v' (cutN xs a (i + 1))) := by show OwnE _ _ _ _ _; rw [HC2.out]; exact hA
          clear hgr hk hA
          go_roundg (b - (i + 1))
          case measure => omega
          case rel => exact ⟨i + 1, by go_num, by omega, by omega, Nat.le_refl _, HA, hb'⟩
    · have hlz : ¬ (i : Int) < (b : Int) := by omega
      have HO' : Hid (OwnE EN wr w.heap.size u7 (cutN xs a b)) := by show OwnE _ _ _ _ _; rw [show b = i by omega]; exact HO.out
      go_wp2
      go_ret
      exact ⟨_, rfl, HO'.out, HB.out⟩

theorem enc_places : ∀ (t : LT) (o : Nat), ∀ x ∈ LT.enc o t, (-1 : Int) ≤ x.2.2.1 ∧ x.2.2.1 ≤ ((o + t.size : Nat) : Int) ∧ -1 ≤ x.2.2.2 ∧ x.2.2.2 ≤ ((o + t.size : Nat) : Int)
  | ⟨none⟩, _, x, hx => by simp [LT.enc] at hx
  | ⟨some (k, i, l, r)⟩, o, x, hx => by
    have hp : ∀ (u : LT) (q : Nat), (-1 : Int) ≤ LT.place q u ∧ LT.place q u ≤ (q : Int) := fun u q => by cases u using LT.parts <;> simp [LT.place] <;> omega
    simp only [LT.enc, List.mem_cons, List.mem_append] at hx
    rcases hx with rfl | hx | hx
    · have h1 := hp l (o + 1)
      have h2 := hp r (o + 1 + l.size)
      simp only [LT.size]
      refine ⟨h1.1, ?_, h2.1, ?_⟩ <;> omega
    · have := enc_places l (o + 1) x hx
      simp only [LT.size]; omega
    · have := enc_places r (o + 1 + l.size) x hx
      simp only [LT.size]; omega
theorem cutN_left (k d : Int) (a b : LT) : cutN (LT.enc 0 (.node k d a b)) 1 (1 + a.size) = LT.enc 0 a := by
  unfold cutN
  rw [show LT.enc 0 (.node k d a b) = _ :: (LT.enc 1 a ++ LT.enc (1 + a.size) b) by simp [LT.enc]; rfl, List.drop_succ_cons, List.drop_zero, show 1 + a.size - 1 = (LT.enc 1 a).length by rw [LT.enc_length]; omega, List.take_left]
  exact LT.enc_mv a 1 0 _ (by omega)
theorem cutN_right (k d : Int) (a b : LT) : cutN (LT.enc 0 (.node k d a b)) (1 + a.size) (1 + a.size + b.size) = LT.enc 0 b := by
  unfold cutN
  rw [show LT.enc 0 (.node k d a b) = (_ :: LT.enc 1 a) ++ LT.enc (1 + a.size) b by simp [LT.enc]; rfl, List.drop_append_of_le_length (by simp [LT.enc_length]; omega), List.drop_eq_nil_of_le (by simp [LT.enc_length]; omega), List.nil_append, show 1 + a.size + b.size - (1 + a.size) = (LT.enc (1 + a.size) b).length by rw [LT.enc_length]; omega, List.take_length]
  exact LT.enc_mv b (1 + a.size) 0 _ (by omega)

set_option maxHeartbeats 4000000 in
theorem lefts_any (blk off n cap : Nat) (k d : Int) (a b : LT) (w : World) (hn : n ≤ 60) (HN : Hid (a.size + b.size + 1 = n)) (HR : Hid (RdE EN w blk off (LT.enc 0 (.node k d a b)))) :
    Calls Tryd.prog 31 #[.slice (some ⟨blk, off, none⟩) n cap] w fun e w' => ∃ u, e = .returned u ∧ OwnE EN w' w.heap.size u (LT.enc 0 a) ∧ Below w.heap.size w w' := by
  have hx : (LT.enc 0 (.node k d a b))[0]? = some (k, d, LT.place 1 a, LT.place (1 + a.size) b) := by simp [LT.enc]
  obtain ⟨c0, c1, c2, c3⟩ := HR.out.node hx
  simp only [Nat.zero_mul, Nat.add_zero] at c0 c1 c2 c3
  have hnz : (0 : Int) < (n : Int) := by have := HN.out; omega
  have hc := part_some blk off n cap 1 (1 + a.size) (LT.enc 0 (.node k d a b)) w (by omega) (by have := HN.out; omega) (by omega) (show _ = _ by rw [LT.enc_length]; exact HN.out) HR
    (show ∀ x ∈ _, _ from fun x hx => by have := enc_places _ 0 x hx; have h2 := HN.out; simp only [LT.size] at this; omega)
  rw [cutN_left] at hc
  by_cases ha : a = .nil
  · subst ha
    rw [LT.place_nil] at c2
    clear hc hx
    go_enter Tryd.func31, Tryd.ntmps31
    go_wp2
    go_ret
    exact ⟨_, rfl, OwnE.nil EN _ _, Below.refl _ _⟩
  · rw [LT.place_ne _ ha] at c2
    have hq : (((1 : Nat) : Int) == -1) = false := by decide
    by_cases hb : b = .nil
    · subst hb
      rw [LT.place_nil] at c3
      have hn2 : ((1 + a.size : Nat) : Int) = (n : Int) := by have := HN.out; simp [LT.size] at this; omega
      rw [hn2] at hc
      have HC : Hid _ := hc
      clear hc hx
      go_enter Tryd.func31, Tryd.ntmps31
      go_wp2_with fail
      refine Calls.mono HC.out ?_
      rintro e w1 ⟨u, rfl, hA, hb1⟩
      have HA : Hid (OwnE EN w1 w.heap.size u (LT.enc 0 a)) := hA
      clear hA
      go_wp2
      go_ret
      exact ⟨_, rfl, HA.out, hb1⟩
    · rw [LT.place_ne _ hb] at c3
      obtain ⟨m, hm⟩ : ∃ m, 1 + a.size = m := ⟨_, rfl⟩
      rw [hm] at c3 hc
      have hq2 : ((m : Int) == -1) = false := beq_eq_false_iff_ne.2 (by omega)
      have HC : Hid _ := hc
      clear hc hx
      go_enter Tryd.func31, Tryd.ntmps31
      go_wp2_with fail
      refine Calls.mono HC.out ?_
      rintro e w1 ⟨u, rfl, hA, hb1⟩
      have HA : Hid (OwnE EN w1 w.heap.size u (LT.enc 0 a)) := hA
      clear hA
      go_wp2
      go_ret
      exact ⟨_, rfl, HA.out, hb1⟩
set_option maxHeartbeats 4000000 in
theorem rights_any (blk off n cap : Nat) (k d : Int) (a b : LT) (w : World) (hn : n ≤ 60) (HN : Hid (a.size + b.size + 1 = n)) (HR : Hid (RdE EN w blk off (LT.enc 0 (.node k d a b)))) :
    Calls Tryd.prog 32 #[.slice (some ⟨blk, off, none⟩) n cap] w fun e w' => ∃ u, e = .returned u ∧ OwnE EN w' w.heap.size u (LT.enc 0 b) ∧ Below w.heap.size w w' := by
  have hx : (LT.enc 0 (.node k d a b))[0]? = some (k, d, LT.place 1 a, LT.place (1 + a.size) b) := by simp [LT.enc]
  obtain ⟨c0, c1, c2, c3⟩ := HR.out.node hx
  simp only [Nat.zero_mul, Nat.add_zero] at c0 c1 c2 c3
  have hnz : (0 : Int) < (n : Int) := by have := HN.out; omega
  have hc := part_some blk off n cap (1 + a.size) (1 + a.size + b.size) (LT.enc 0 (.node k d a b)) w (by omega) (by have := HN.out; omega) (by omega) (show _ = _ by rw [LT.enc_length]; exact HN.out) HR
    (show ∀ x ∈ _, _ from fun x hx => by have := enc_places _ 0 x hx; have h2 := HN.out; simp only [LT.size] at this; omega)
  rw [cutN_right, show 1 + a.size + b.size = n by have := HN.out; omega] at hc
  by_cases hb : b = .nil
  · subst hb
    rw [LT.place_nil] at c3
    clear hc hx
    go_enter Tryd.func32, Tryd.ntmps32
    go_wp2
    go_ret
    exact ⟨_, rfl, OwnE.nil EN _ _, Below.refl _ _⟩
  · rw [LT.place_ne _ hb] at c3
    obtain ⟨m, hm⟩ : ∃ m, 1 + a.size = m := ⟨_, rfl⟩
    rw [hm] at c3 hc
    have hq2 : ((m : Int) == -1) = false := beq_eq_false_iff_ne.2 (by omega)
    have HC : Hid _ := hc
    clear hc hx
    go_enter Tryd.func32, Tryd.ntmps32
    go_wp2_with fail
    refine Calls.mono HC.out ?_
    rintro e w1 ⟨u, rfl, hA, hb1⟩
    have HA : Hid (OwnE EN w1 w.heap.size u (LT.enc 0 b)) := hA
    clear hA
    go_wp2
    go_ret
    exact ⟨_, rfl, HA.out, hb1⟩
#print axioms rights_any
end Go.Proofs.YtoaabpoicacogaaDoor
