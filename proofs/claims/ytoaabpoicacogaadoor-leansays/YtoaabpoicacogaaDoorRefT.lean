/-
  The document's leaning heaps: a tree of an item and two parts.
-/
import Derived.Test.YtoaabpoicacogaaDoorRefL
namespace Go.Proofs.YtoaabpoicacogaaDoor
open Go.RowKit Go.Proofs

theorem own_built (W : World) (base g : Nat) (hb : base ≤ W.heap.size) (hg : g = W.heap.size) (k d l r : Int) : OwnE EN (W.alloc (.cells #[.int .i64 k, .int .i64 d, .int .i64 l, .int .i64 r] 38)) base (.slice (some ⟨g, 0, none⟩) 1 1) [(k, d, l, r)] := by
  subst hg
  exact ⟨rfl, Or.inr ⟨W.heap.size, 1, #[.int .i64 k, .int .i64 d, .int .i64 l, .int .i64 r], rfl, hb, (show (W.heap.push (.cells #[.int .i64 k, .int .i64 d, .int .i64 l, .int .i64 r] 38))[W.heap.size]? = some (.cells #[.int .i64 k, .int .i64 d, .int .i64 l, .int .i64 r] 38) by simp), Nat.le_refl _, by unfold maxLen; omega, rfl, rfl⟩⟩
/-- What stands behind the root: the first part's nodes one further on, the second one's behind them. -/
def behind (xs ys : List Nd) : List Nd := xs.map (LT.mvN 1) ++ ys.map (LT.mvN (1 + (xs.length : Int)))
theorem behind_len (xs ys : List Nd) : (behind xs ys).length = xs.length + ys.length := by simp [behind]
theorem behind_one {xs ys : List Nd} {k : Nat} {x : Nd} (hx : xs[k]? = some x) : (behind xs ys).take (k + 1) = (behind xs ys).take k ++ [LT.mvN 1 x] := by
  have hk := (List.getElem?_eq_some_iff.1 hx).1
  have e2 : (behind xs ys)[k]? = some (LT.mvN 1 x) := by unfold behind; rw [List.getElem?_append_left (by simpa using hk), List.getElem?_map, hx]; rfl
  obtain ⟨hl, e3⟩ := List.getElem?_eq_some_iff.1 e2
  rw [List.take_succ_eq_append_getElem hl, e3]
theorem behind_two {xs ys : List Nd} {k n : Nat} {y : Nd} (hn : xs.length = n) (hk : n ≤ k) (hy : ys[k - n]? = some y) : (behind xs ys).take (k + 1) = (behind xs ys).take k ++ [LT.mvN (1 + (n : Int)) y] := by
  subst hn
  have e2 : (behind xs ys)[k]? = some (LT.mvN (1 + (xs.length : Int)) y) := by unfold behind; rw [List.getElem?_append_right (by simpa using hk), List.length_map, List.getElem?_map, hy]; rfl
  obtain ⟨hl, e3⟩ := List.getElem?_eq_some_iff.1 e2
  rw [List.take_succ_eq_append_getElem hl, e3]

set_option maxHeartbeats 16000000 in
set_option maxRecDepth 4000 in
theorem tree_AB (ba oa na bb ob nb ca cb : Nat) (x0 x1 : Int) (xs ys : List Nd) (w : World) (ha : 0 < na) (HNA : Hid (xs.length = na)) (HRA : Hid (RdE EN w ba oa xs)) (HPA : Hid (∀ x ∈ xs, -1 ≤ x.2.2.1 ∧ x.2.2.1 ≤ 1000 ∧ -1 ≤ x.2.2.2 ∧ x.2.2.2 ≤ 1000)) (hb : 0 < nb) (HNB : Hid (ys.length = nb)) (HRB : Hid (RdE EN w bb ob ys)) (HPB : Hid (∀ x ∈ ys, -1 ≤ x.2.2.1 ∧ x.2.2.1 ≤ 1000 ∧ -1 ≤ x.2.2.2 ∧ x.2.2.2 ≤ 1000)) (_hn : na + nb ≤ 100) :
    Calls Tryd.prog 33 #[.agg #[.int .i64 x0, .int .i64 x1], .slice (some ⟨ba, oa, none⟩) na ca, .slice (some ⟨bb, ob, none⟩) nb cb] w fun e w' => ∃ u, e = .returned u ∧ OwnE EN w' w.heap.size u ((x0, x1, 1, 1 + (na : Int)) :: behind xs ys) ∧ Below w.heap.size w w' := by
  have haz : (0 : Int) < (na : Int) := by omega
  have hbz : (0 : Int) < (nb : Int) := by omega
  obtain ⟨root, hroot⟩ : ∃ root : Nd, root = (x0, x1, 1, 1 + (na : Int)) := ⟨_, rfl⟩
  have HRT : Hid (root = (x0, x1, 1, 1 + (na : Int))) := hroot
  clear hroot
  go_enter Tryd.func33, Tryd.ntmps33
  go_wp2
  have HO0 : Hid (OwnE EN (((w.alloc (.cells #[.int .i64 x0, .int .i64 x1] 24)).alloc (.cells #[.int .i64 x0, .int .i64 x1, .int .i64 (1), .int .i64 (1 + (na : Int))] 38)).alloc (.cells #[.int .i64 x0, .int .i64 x1, .int .i64 (1), .int .i64 (1 + (na : Int))] 38)) w.heap.size (.slice (some ⟨w.heap.size + 1 + 1, 0, none⟩) 1 1) [root]) := by show OwnE _ _ _ _ _; rw [HRT.out]; exact own_built _ _ _ (by simp; omega) (by simp) _ _ _ _
  have HB0 : Hid (Below w.heap.size w (((w.alloc (.cells #[.int .i64 x0, .int .i64 x1] 24)).alloc (.cells #[.int .i64 x0, .int .i64 x1, .int .i64 (1), .int .i64 (1 + (na : Int))] 38)).alloc (.cells #[.int .i64 x0, .int .i64 x1, .int .i64 (1), .int .i64 (1 + (na : Int))] 38))) := (((Below.refl _ _).alloc (Nat.le_refl _) _).alloc (by simp) _).alloc (by simp; omega) _
  go_loopg [8, 9] (na + nb) (fun gg vo vk wr => ∃ k : Nat, vk = .int .i64 k ∧ k ≤ na + nb ∧ na + nb - k ≤ gg ∧ Hid (OwnE EN wr w.heap.size vo (root :: (behind xs ys).take k)) ∧ Hid (Below w.heap.size w wr))
  case atStart => exact ⟨0, rfl, Nat.zero_le _, Nat.le_refl _, HO0, HB0⟩
  case round =>
    obtain ⟨k, rfl, hkn, hg, HO, HB⟩ := hrel
    have hB : w.heap.size ≤ wr.heap.size := HB.out.size
    by_cases hlt : k < na + nb
    · have hlz : (k : Int) < (na : Int) + (nb : Int) := by omega
      by_cases hka : k < na
      · have hkz : (k : Int) < (na : Int) := by omega
        obtain ⟨⟨q, d, L, R⟩, hx⟩ : ∃ x, xs[k]? = some x := ⟨xs[k]'(by rw [HNA.out]; omega), by simp⟩
        have hbl : ba < wr.heap.size := (HRA.out.below HB.out HRA.out.1).1
        obtain ⟨c0, c1, c2, c3⟩ := (HRA.out.below HB.out HRA.out.1).node hx
        obtain ⟨p1, p2, p3, p4⟩ := HPA.out _ (List.mem_of_getElem? hx)
        have HC' : Hid ((behind xs ys).take (k + 1) = (behind xs ys).take k ++ [(q, d, LT.mv 1 L, LT.mv 1 R)]) := behind_one hx
        simp only at p1 p2 p3 p4
        clear hx
        by_cases hL : L = -1
        · have eL : LT.mv (1) L = -1 := by unfold LT.mv; rw [if_pos hL]
          by_cases hR : R = -1
          · have eR : LT.mv (1) R = -1 := by unfold LT.mv; rw [if_pos hR]
            have HC2 : Hid (root :: (behind xs ys).take (k + 1) = (root :: (behind xs ys).take k) ++ [(q, d, -1, -1)]) := by show _ = _; rw [HC'.out, eL, eR]; rfl
            clear eL eR HC'
            subst hL
            subst hR
            go_wp2_with (first | (at_builtin; refine wpList_appendE EN rfl (.tmp 73) (.tmp 75) rfl w.heap.size u8 (root :: (behind xs ys).take k) (q, d, -1, -1) ⟨wr.heap.size + 1, 0, none⟩ 1 rfl ((HO.out.alloc _).alloc _) rfl (new_node _ _ (by simp) _ _ _ _) (by simp; omega) (by simp; omega) ?_; intro v' w' hA hgr hk))
            have hb' : Below w.heap.size w w' := ((HB.out.alloc hB _).alloc (by simp; omega) _).trans (below_ownE ((HO.out.alloc _).alloc _) hgr (Nat.le_refl _) (by simp; omega))
            have HA : Hid (OwnE EN w' w.heap.size v' (root :: (behind xs ys).take (k + 1))) := by show OwnE _ _ _ _ _; rw [HC2.out]; exact hA
            clear hgr hk hA
            go_roundg (na + nb - (k + 1))
            case measure => omega
            case rel => exact ⟨k + 1, by go_num, by omega, by omega, HA, hb'⟩
          · have eR : LT.mv (1) R = R + (1) := by unfold LT.mv; rw [if_neg hR]
            have hRq : (R == -1) = false := beq_eq_false_iff_ne.2 hR
            have HC2 : Hid (root :: (behind xs ys).take (k + 1) = (root :: (behind xs ys).take k) ++ [(q, d, -1, R + 1)]) := by show _ = _; rw [HC'.out, eL, eR]; rfl
            clear eL eR HC'
            subst hL
            go_wp2_with (first | (at_builtin; refine wpList_appendE EN rfl (.tmp 73) (.tmp 75) rfl w.heap.size u8 (root :: (behind xs ys).take k) (q, d, -1, R + 1) ⟨wr.heap.size + 1, 0, none⟩ 1 rfl ((HO.out.alloc _).alloc _) rfl (new_node _ _ (by simp) _ _ _ _) (by simp; omega) (by simp; omega) ?_; intro v' w' hA hgr hk))
            have hb' : Below w.heap.size w w' := ((HB.out.alloc hB _).alloc (by simp; omega) _).trans (below_ownE ((HO.out.alloc _).alloc _) hgr (Nat.le_refl _) (by simp; omega))
            have HA : Hid (OwnE EN w' w.heap.size v' (root :: (behind xs ys).take (k + 1))) := by show OwnE _ _ _ _ _; rw [HC2.out]; exact hA
            clear hgr hk hA
            go_roundg (na + nb - (k + 1))
            case measure => omega
            case rel => exact ⟨k + 1, by go_num, by omega, by omega, HA, hb'⟩
        · have eL : LT.mv (1) L = L + (1) := by unfold LT.mv; rw [if_neg hL]
          have hLq : (L == -1) = false := beq_eq_false_iff_ne.2 hL
          by_cases hR : R = -1
          · have eR : LT.mv (1) R = -1 := by unfold LT.mv; rw [if_pos hR]
            have HC2 : Hid (root :: (behind xs ys).take (k + 1) = (root :: (behind xs ys).take k) ++ [(q, d, L + 1, -1)]) := by show _ = _; rw [HC'.out, eL, eR]; rfl
            clear eL eR HC'
            subst hR
            go_wp2_with (first | (at_builtin; refine wpList_appendE EN rfl (.tmp 73) (.tmp 75) rfl w.heap.size u8 (root :: (behind xs ys).take k) (q, d, L + 1, -1) ⟨wr.heap.size + 1, 0, none⟩ 1 rfl ((HO.out.alloc _).alloc _) rfl (new_node _ _ (by simp) _ _ _ _) (by simp; omega) (by simp; omega) ?_; intro v' w' hA hgr hk))
            have hb' : Below w.heap.size w w' := ((HB.out.alloc hB _).alloc (by simp; omega) _).trans (below_ownE ((HO.out.alloc _).alloc _) hgr (Nat.le_refl _) (by simp; omega))
            have HA : Hid (OwnE EN w' w.heap.size v' (root :: (behind xs ys).take (k + 1))) := by show OwnE _ _ _ _ _; rw [HC2.out]; exact hA
            clear hgr hk hA
            go_roundg (na + nb - (k + 1))
            case measure => omega
            case rel => exact ⟨k + 1, by go_num, by omega, by omega, HA, hb'⟩
          · have eR : LT.mv (1) R = R + (1) := by unfold LT.mv; rw [if_neg hR]
            have hRq : (R == -1) = false := beq_eq_false_iff_ne.2 hR
            have HC2 : Hid (root :: (behind xs ys).take (k + 1) = (root :: (behind xs ys).take k) ++ [(q, d, L + 1, R + 1)]) := by show _ = _; rw [HC'.out, eL, eR]; rfl
            clear eL eR HC'
            go_wp2_with (first | (at_builtin; refine wpList_appendE EN rfl (.tmp 73) (.tmp 75) rfl w.heap.size u8 (root :: (behind xs ys).take k) (q, d, L + 1, R + 1) ⟨wr.heap.size + 1, 0, none⟩ 1 rfl ((HO.out.alloc _).alloc _) rfl (new_node _ _ (by simp) _ _ _ _) (by simp; omega) (by simp; omega) ?_; intro v' w' hA hgr hk))
            have hb' : Below w.heap.size w w' := ((HB.out.alloc hB _).alloc (by simp; omega) _).trans (below_ownE ((HO.out.alloc _).alloc _) hgr (Nat.le_refl _) (by simp; omega))
            have HA : Hid (OwnE EN w' w.heap.size v' (root :: (behind xs ys).take (k + 1))) := by show OwnE _ _ _ _ _; rw [HC2.out]; exact hA
            clear hgr hk hA
            go_roundg (na + nb - (k + 1))
            case measure => omega
            case rel => exact ⟨k + 1, by go_num, by omega, by omega, HA, hb'⟩
      · have hkz : ¬ (k : Int) < (na : Int) := by omega
        obtain ⟨⟨q, d, L, R⟩, hx⟩ : ∃ x, ys[k - na]? = some x := ⟨ys[k - na]'(by rw [HNB.out]; omega), by simp⟩
        have hbl : bb < wr.heap.size := (HRB.out.below HB.out HRB.out.1).1
        obtain ⟨c0, c1, c2, c3⟩ := (HRB.out.below HB.out HRB.out.1).node hx
        obtain ⟨p1, p2, p3, p4⟩ := HPB.out _ (List.mem_of_getElem? hx)
        have HC' : Hid ((behind xs ys).take (k + 1) = (behind xs ys).take k ++ [(q, d, LT.mv (1 + (na : Int)) L, LT.mv (1 + (na : Int)) R)]) := behind_two HNA.out (by omega) hx
        obtain ⟨m, hm⟩ : ∃ m, k - na = m := ⟨_, rfl⟩
        rw [hm] at c0 c1 c2 c3
        have hmz : (k : Int) - (na : Int) = (m : Int) := by omega
        have hmn : (m : Int) < (nb : Int) := by omega
        simp only at p1 p2 p3 p4
        clear hx
        by_cases hL : L = -1
        · have eL : LT.mv (1 + (na : Int)) L = -1 := by unfold LT.mv; rw [if_pos hL]
          by_cases hR : R = -1
          · have eR : LT.mv (1 + (na : Int)) R = -1 := by unfold LT.mv; rw [if_pos hR]
            have HC2 : Hid (root :: (behind xs ys).take (k + 1) = (root :: (behind xs ys).take k) ++ [(q, d, -1, -1)]) := by show _ = _; rw [HC'.out, eL, eR]; rfl
            clear eL eR HC'
            subst hL
            subst hR
            go_wp2_with (first | (at_builtin; refine wpList_appendE EN rfl (.tmp 73) (.tmp 75) rfl w.heap.size u8 (root :: (behind xs ys).take k) (q, d, -1, -1) ⟨wr.heap.size + 1, 0, none⟩ 1 rfl ((HO.out.alloc _).alloc _) rfl (new_node _ _ (by simp) _ _ _ _) (by simp; omega) (by simp; omega) ?_; intro v' w' hA hgr hk))
            have hb' : Below w.heap.size w w' := ((HB.out.alloc hB _).alloc (by simp; omega) _).trans (below_ownE ((HO.out.alloc _).alloc _) hgr (Nat.le_refl _) (by simp; omega))
            have HA : Hid (OwnE EN w' w.heap.size v' (root :: (behind xs ys).take (k + 1))) := by show OwnE _ _ _ _ _; rw [HC2.out]; exact hA
            clear hgr hk hA
            go_roundg (na + nb - (k + 1))
            case measure => omega
            case rel => exact ⟨k + 1, by go_num, by omega, by omega, HA, hb'⟩
          · have eR : LT.mv (1 + (na : Int)) R = R + (1 + (na : Int)) := by unfold LT.mv; rw [if_neg hR]
            have hRq : (R == -1) = false := beq_eq_false_iff_ne.2 hR
            have HC2 : Hid (root :: (behind xs ys).take (k + 1) = (root :: (behind xs ys).take k) ++ [(q, d, -1, R + (1 + (na : Int)))]) := by show _ = _; rw [HC'.out, eL, eR]; rfl
            clear eL eR HC'
            subst hL
            go_wp2_with (first | (at_builtin; refine wpList_appendE EN rfl (.tmp 73) (.tmp 75) rfl w.heap.size u8 (root :: (behind xs ys).take k) (q, d, -1, R + (1 + (na : Int))) ⟨wr.heap.size + 1, 0, none⟩ 1 rfl ((HO.out.alloc _).alloc _) rfl (new_node _ _ (by simp) _ _ _ _) (by simp; omega) (by simp; omega) ?_; intro v' w' hA hgr hk))
            have hb' : Below w.heap.size w w' := ((HB.out.alloc hB _).alloc (by simp; omega) _).trans (below_ownE ((HO.out.alloc _).alloc _) hgr (Nat.le_refl _) (by simp; omega))
            have HA : Hid (OwnE EN w' w.heap.size v' (root :: (behind xs ys).take (k + 1))) := by show OwnE _ _ _ _ _; rw [HC2.out]; exact hA
            clear hgr hk hA
            go_roundg (na + nb - (k + 1))
            case measure => omega
            case rel => exact ⟨k + 1, by go_num, by omega, by omega, HA, hb'⟩
        · have eL : LT.mv (1 + (na : Int)) L = L + (1 + (na : Int)) := by unfold LT.mv; rw [if_neg hL]
          have hLq : (L == -1) = false := beq_eq_false_iff_ne.2 hL
          by_cases hR : R = -1
          · have eR : LT.mv (1 + (na : Int)) R = -1 := by unfold LT.mv; rw [if_pos hR]
            have HC2 : Hid (root :: (behind xs ys).take (k + 1) = (root :: (behind xs ys).take k) ++ [(q, d, L + (1 + (na : Int)), -1)]) := by show _ = _; rw [HC'.out, eL, eR]; rfl
            clear eL eR HC'
            subst hR
            go_wp2_with (first | (at_builtin; refine wpList_appendE EN rfl (.tmp 73) (.tmp 75) rfl w.heap.size u8 (root :: (behind xs ys).take k) (q, d, L + (1 + (na : Int)), -1) ⟨wr.heap.size + 1, 0, none⟩ 1 rfl ((HO.out.alloc _).alloc _) rfl (new_node _ _ (by simp) _ _ _ _) (by simp; omega) (by simp; omega) ?_; intro v' w' hA hgr hk))
            have hb' : Below w.heap.size w w' := ((HB.out.alloc hB _).alloc (by simp; omega) _).trans (below_ownE ((HO.out.alloc _).alloc _) hgr (Nat.le_refl _) (by simp; omega))
            have HA : Hid (OwnE EN w' w.heap.size v' (root :: (behind xs ys).take (k + 1))) := by show OwnE _ _ _ _ _; rw [HC2.out]; exact hA
            clear hgr hk hA
            go_roundg (na + nb - (k + 1))
            case measure => omega
            case rel => exact ⟨k + 1, by go_num, by omega, by omega, HA, hb'⟩
          · have eR : LT.mv (1 + (na : Int)) R = R + (1 + (na : Int)) := by unfold LT.mv; rw [if_neg hR]
            have hRq : (R == -1) = false := beq_eq_false_iff_ne.2 hR
            have HC2 : Hid (root :: (behind xs ys).take (k + 1) = (root :: (behind xs ys).take k) ++ [(q, d, L + (1 + (na : Int)), R + (1 + (na : Int)))]) := by show _ = _; rw [HC'.out, eL, eR]; rfl
            clear eL eR HC'
            go_wp2_with (first | (at_builtin; refine wpList_appendE EN rfl (.tmp 73) (.tmp 75) rfl w.heap.size u8 (root :: (behind xs ys).take k) (q, d, L + (1 + (na : Int)), R + (1 + (na : Int))) ⟨wr.heap.size + 1, 0, none⟩ 1 rfl ((HO.out.alloc _).alloc _) rfl (new_node _ _ (by simp) _ _ _ _) (by simp; omega) (by simp; omega) ?_; intro v' w' hA hgr hk))
            have hb' : Below w.heap.size w w' := ((HB.out.alloc hB _).alloc (by simp; omega) _).trans (below_ownE ((HO.out.alloc _).alloc _) hgr (Nat.le_refl _) (by simp; omega))
            have HA : Hid (OwnE EN w' w.heap.size v' (root :: (behind xs ys).take (k + 1))) := by show OwnE _ _ _ _ _; rw [HC2.out]; exact hA
            clear hgr hk hA
            go_roundg (na + nb - (k + 1))
            case measure => omega
            case rel => exact ⟨k + 1, by go_num, by omega, by omega, HA, hb'⟩
    · have hlz : ¬ (k : Int) < (na : Int) + (nb : Int) := by omega
      have HF : Hid (OwnE EN wr w.heap.size u8 ((x0, x1, 1, 1 + (na : Int)) :: behind xs ys)) := by
        show OwnE _ _ _ _ _
        have := HO.out
        rw [List.take_of_length_le (by rw [behind_len, HNA.out, HNB.out]; omega), HRT.out] at this
        exact this
      go_wp2
      go_ret
      exact ⟨_, rfl, HF.out, HB.out⟩

set_option maxHeartbeats 16000000 in
set_option maxRecDepth 4000 in
theorem tree_A0 (ba oa na ca cb : Nat) (pb : Option Addr) (x0 x1 : Int) (xs ys : List Nd) (w : World) (ha : 0 < na) (HNA : Hid (xs.length = na)) (HRA : Hid (RdE EN w ba oa xs)) (HPA : Hid (∀ x ∈ xs, -1 ≤ x.2.2.1 ∧ x.2.2.1 ≤ 1000 ∧ -1 ≤ x.2.2.2 ∧ x.2.2.2 ≤ 1000)) (HNB : Hid (ys.length = 0)) (_hn : na + 0 ≤ 100) :
    Calls Tryd.prog 33 #[.agg #[.int .i64 x0, .int .i64 x1], .slice (some ⟨ba, oa, none⟩) na ca, .slice pb 0 cb] w fun e w' => ∃ u, e = .returned u ∧ OwnE EN w' w.heap.size u ((x0, x1, 1, -1) :: behind xs ys) ∧ Below w.heap.size w w' := by
  have haz : (0 : Int) < (na : Int) := by omega
  obtain ⟨root, hroot⟩ : ∃ root : Nd, root = (x0, x1, 1, -1) := ⟨_, rfl⟩
  have HRT : Hid (root = (x0, x1, 1, -1)) := hroot
  clear hroot
  go_enter Tryd.func33, Tryd.ntmps33
  go_wp2
  have HO0 : Hid (OwnE EN (((w.alloc (.cells #[.int .i64 x0, .int .i64 x1] 24)).alloc (.cells #[.int .i64 x0, .int .i64 x1, .int .i64 (1), .int .i64 (-1)] 38)).alloc (.cells #[.int .i64 x0, .int .i64 x1, .int .i64 (1), .int .i64 (-1)] 38)) w.heap.size (.slice (some ⟨w.heap.size + 1 + 1, 0, none⟩) 1 1) [root]) := by show OwnE _ _ _ _ _; rw [HRT.out]; exact own_built _ _ _ (by simp; omega) (by simp) _ _ _ _
  have HB0 : Hid (Below w.heap.size w (((w.alloc (.cells #[.int .i64 x0, .int .i64 x1] 24)).alloc (.cells #[.int .i64 x0, .int .i64 x1, .int .i64 (1), .int .i64 (-1)] 38)).alloc (.cells #[.int .i64 x0, .int .i64 x1, .int .i64 (1), .int .i64 (-1)] 38))) := (((Below.refl _ _).alloc (Nat.le_refl _) _).alloc (by simp) _).alloc (by simp; omega) _
  go_loopg [8, 9] (na + 0) (fun gg vo vk wr => ∃ k : Nat, vk = .int .i64 k ∧ k ≤ na + 0 ∧ na + 0 - k ≤ gg ∧ Hid (OwnE EN wr w.heap.size vo (root :: (behind xs ys).take k)) ∧ Hid (Below w.heap.size w wr))
  case atStart => exact ⟨0, rfl, Nat.zero_le _, Nat.le_refl _, HO0, HB0⟩
  case round =>
    obtain ⟨k, rfl, hkn, hg, HO, HB⟩ := hrel
    have hB : w.heap.size ≤ wr.heap.size := HB.out.size
    by_cases hlt : k < na + 0
    · have hlz : (k : Int) < (na : Int) := by omega
      have hkz : (k : Int) < (na : Int) := by omega
      obtain ⟨⟨q, d, L, R⟩, hx⟩ : ∃ x, xs[k]? = some x := ⟨xs[k]'(by rw [HNA.out]; omega), by simp⟩
      have hbl : ba < wr.heap.size := (HRA.out.below HB.out HRA.out.1).1
      obtain ⟨c0, c1, c2, c3⟩ := (HRA.out.below HB.out HRA.out.1).node hx
      obtain ⟨p1, p2, p3, p4⟩ := HPA.out _ (List.mem_of_getElem? hx)
      have HC' : Hid ((behind xs ys).take (k + 1) = (behind xs ys).take k ++ [(q, d, LT.mv 1 L, LT.mv 1 R)]) := behind_one hx
      simp only at p1 p2 p3 p4
      clear hx
      by_cases hL : L = -1
      · have eL : LT.mv (1) L = -1 := by unfold LT.mv; rw [if_pos hL]
        by_cases hR : R = -1
        · have eR : LT.mv (1) R = -1 := by unfold LT.mv; rw [if_pos hR]
          have HC2 : Hid (root :: (behind xs ys).take (k + 1) = (root :: (behind xs ys).take k) ++ [(q, d, -1, -1)]) := by show _ = _; rw [HC'.out, eL, eR]; rfl
          clear eL eR HC'
          subst hL
          subst hR
          go_wp2_with (first | (at_builtin; refine wpList_appendE EN rfl (.tmp 73) (.tmp 75) rfl w.heap.size u8 (root :: (behind xs ys).take k) (q, d, -1, -1) ⟨wr.heap.size + 1, 0, none⟩ 1 rfl ((HO.out.alloc _).alloc _) rfl (new_node _ _ (by simp) _ _ _ _) (by simp; omega) (by simp; omega) ?_; intro v' w' hA hgr hk))
          have hb' : Below w.heap.size w w' := ((HB.out.alloc hB _).alloc (by simp; omega) _).trans (below_ownE ((HO.out.alloc _).alloc _) hgr (Nat.le_refl _) (by simp; omega))
          have HA : Hid (OwnE EN w' w.heap.size v' (root :: (behind xs ys).take (k + 1))) := by show OwnE _ _ _ _ _; rw [HC2.out]; exact hA
          clear hgr hk hA
          go_roundg (na + 0 - (k + 1))
          case measure => omega
          case rel => exact ⟨k + 1, by go_num, by omega, by omega, HA, hb'⟩
        · have eR : LT.mv (1) R = R + (1) := by unfold LT.mv; rw [if_neg hR]
          have hRq : (R == -1) = false := beq_eq_false_iff_ne.2 hR
          have HC2 : Hid (root :: (behind xs ys).take (k + 1) = (root :: (behind xs ys).take k) ++ [(q, d, -1, R + 1)]) := by show _ = _; rw [HC'.out, eL, eR]; rfl
          clear eL eR HC'
          subst hL
          go_wp2_with (first | (at_builtin; refine wpList_appendE EN rfl (.tmp 73) (.tmp 75) rfl w.heap.size u8 (root :: (behind xs ys).take k) (q, d, -1, R + 1) ⟨wr.heap.size + 1, 0, none⟩ 1 rfl ((HO.out.alloc _).alloc _) rfl (new_node _ _ (by simp) _ _ _ _) (by simp; omega) (by simp; omega) ?_; intro v' w' hA hgr hk))
          have hb' : Below w.heap.size w w' := ((HB.out.alloc hB _).alloc (by simp; omega) _).trans (below_ownE ((HO.out.alloc _).alloc _) hgr (Nat.le_refl _) (by simp; omega))
          have HA : Hid (OwnE EN w' w.heap.size v' (root :: (behind xs ys).take (k + 1))) := by show OwnE _ _ _ _ _; rw [HC2.out]; exact hA
          clear hgr hk hA
          go_roundg (na + 0 - (k + 1))
          case measure => omega
          case rel => exact ⟨k + 1, by go_num, by omega, by omega, HA, hb'⟩
      · have eL : LT.mv (1) L = L + (1) := by unfold LT.mv; rw [if_neg hL]
        have hLq : (L == -1) = false := beq_eq_false_iff_ne.2 hL
        by_cases hR : R = -1
        · have eR : LT.mv (1) R = -1 := by unfold LT.mv; rw [if_pos hR]
          have HC2 : Hid (root :: (behind xs ys).take (k + 1) = (root :: (behind xs ys).take k) ++ [(q, d, L + 1, -1)]) := by show _ = _; rw [HC'.out, eL, eR]; rfl
          clear eL eR HC'
          subst hR
          go_wp2_with (first | (at_builtin; refine wpList_appendE EN rfl (.tmp 73) (.tmp 75) rfl w.heap.size u8 (root :: (behind xs ys).take k) (q, d, L + 1, -1) ⟨wr.heap.size + 1, 0, none⟩ 1 rfl ((HO.out.alloc _).alloc _) rfl (new_node _ _ (by simp) _ _ _ _) (by simp; omega) (by simp; omega) ?_; intro v' w' hA hgr hk))
          have hb' : Below w.heap.size w w' := ((HB.out.alloc hB _).alloc (by simp; omega) _).trans (below_ownE ((HO.out.alloc _).alloc _) hgr (Nat.le_refl _) (by simp; omega))
          have HA : Hid (OwnE EN w' w.heap.size v' (root :: (behind xs ys).take (k + 1))) := by show OwnE _ _ _ _ _; rw [HC2.out]; exact hA
          clear hgr hk hA
          go_roundg (na + 0 - (k + 1))
          case measure => omega
          case rel => exact ⟨k + 1, by go_num, by omega, by omega, HA, hb'⟩
        · have eR : LT.mv (1) R = R + (1) := by unfold LT.mv; rw [if_neg hR]
          have hRq : (R == -1) = false := beq_eq_false_iff_ne.2 hR
          have HC2 : Hid (root :: (behind xs ys).take (k + 1) = (root :: (behind xs ys).take k) ++ [(q, d, L + 1, R + 1)]) := by show _ = _; rw [HC'.out, eL, eR]; rfl
          clear eL eR HC'
          go_wp2_with (first | (at_builtin; refine wpList_appendE EN rfl (.tmp 73) (.tmp 75) rfl w.heap.size u8 (root :: (behind xs ys).take k) (q, d, L + 1, R + 1) ⟨wr.heap.size + 1, 0, none⟩ 1 rfl ((HO.out.alloc _).alloc _) rfl (new_node _ _ (by simp) _ _ _ _) (by simp; omega) (by simp; omega) ?_; intro v' w' hA hgr hk))
          have hb' : Below w.heap.size w w' := ((HB.out.alloc hB _).alloc (by simp; omega) _).trans (below_ownE ((HO.out.alloc _).alloc _) hgr (Nat.le_refl _) (by simp; omega))
          have HA : Hid (OwnE EN w' w.heap.size v' (root :: (behind xs ys).take (k + 1))) := by show OwnE _ _ _ _ _; rw [HC2.out]; exact hA
          clear hgr hk hA
          go_roundg (na + 0 - (k + 1))
          case measure => omega
          case rel => exact ⟨k + 1, by go_num, by omega, by omega, HA, hb'⟩
    · have hlz : ¬ (k : Int) < (na : Int) := by omega
      have HF : Hid (OwnE EN wr w.heap.size u8 ((x0, x1, 1, -1) :: behind xs ys)) := by
        show OwnE _ _ _ _ _
        have := HO.out
        rw [List.take_of_length_le (by rw [behind_len, HNA.out, HNB.out]; omega), HRT.out] at this
        exact this
      go_wp2
      go_ret
      exact ⟨_, rfl, HF.out, HB.out⟩

set_option maxHeartbeats 16000000 in
set_option maxRecDepth 4000 in
theorem tree_0B (bb ob nb ca cb : Nat) (pa : Option Addr) (x0 x1 : Int) (xs ys : List Nd) (w : World) (HNA : Hid (xs.length = 0)) (hb : 0 < nb) (HNB : Hid (ys.length = nb)) (HRB : Hid (RdE EN w bb ob ys)) (HPB : Hid (∀ x ∈ ys, -1 ≤ x.2.2.1 ∧ x.2.2.1 ≤ 1000 ∧ -1 ≤ x.2.2.2 ∧ x.2.2.2 ≤ 1000)) (_hn : 0 + nb ≤ 100) :
    Calls Tryd.prog 33 #[.agg #[.int .i64 x0, .int .i64 x1], .slice pa 0 ca, .slice (some ⟨bb, ob, none⟩) nb cb] w fun e w' => ∃ u, e = .returned u ∧ OwnE EN w' w.heap.size u ((x0, x1, -1, 1) :: behind xs ys) ∧ Below w.heap.size w w' := by
  have hbz : (0 : Int) < (nb : Int) := by omega
  obtain ⟨root, hroot⟩ : ∃ root : Nd, root = (x0, x1, -1, 1) := ⟨_, rfl⟩
  have HRT : Hid (root = (x0, x1, -1, 1)) := hroot
  clear hroot
  go_enter Tryd.func33, Tryd.ntmps33
  go_wp2
  have HO0 : Hid (OwnE EN (((w.alloc (.cells #[.int .i64 x0, .int .i64 x1] 24)).alloc (.cells #[.int .i64 x0, .int .i64 x1, .int .i64 (-1), .int .i64 (1)] 38)).alloc (.cells #[.int .i64 x0, .int .i64 x1, .int .i64 (-1), .int .i64 (1)] 38)) w.heap.size (.slice (some ⟨w.heap.size + 1 + 1, 0, none⟩) 1 1) [root]) := by show OwnE _ _ _ _ _; rw [HRT.out]; exact own_built _ _ _ (by simp; omega) (by simp) _ _ _ _
  have HB0 : Hid (Below w.heap.size w (((w.alloc (.cells #[.int .i64 x0, .int .i64 x1] 24)).alloc (.cells #[.int .i64 x0, .int .i64 x1, .int .i64 (-1), .int .i64 (1)] 38)).alloc (.cells #[.int .i64 x0, .int .i64 x1, .int .i64 (-1), .int .i64 (1)] 38))) := (((Below.refl _ _).alloc (Nat.le_refl _) _).alloc (by simp) _).alloc (by simp; omega) _
  go_loopg [8, 9] (0 + nb) (fun gg vo vk wr => ∃ k : Nat, vk = .int .i64 k ∧ k ≤ 0 + nb ∧ 0 + nb - k ≤ gg ∧ Hid (OwnE EN wr w.heap.size vo (root :: (behind xs ys).take k)) ∧ Hid (Below w.heap.size w wr))
  case atStart => exact ⟨0, rfl, Nat.zero_le _, Nat.le_refl _, HO0, HB0⟩
  case round =>
    obtain ⟨k, rfl, hkn, hg, HO, HB⟩ := hrel
    have hB : w.heap.size ≤ wr.heap.size := HB.out.size
    by_cases hlt : k < 0 + nb
    · have hlz : (k : Int) < (nb : Int) := by omega
      obtain ⟨⟨q, d, L, R⟩, hx⟩ : ∃ x, ys[k]? = some x := ⟨ys[k]'(by rw [HNB.out]; omega), by simp⟩
      have hbl : bb < wr.heap.size := (HRB.out.below HB.out HRB.out.1).1
      obtain ⟨c0, c1, c2, c3⟩ := (HRB.out.below HB.out HRB.out.1).node hx
      obtain ⟨p1, p2, p3, p4⟩ := HPB.out _ (List.mem_of_getElem? hx)
      have HC' : Hid ((behind xs ys).take (k + 1) = (behind xs ys).take k ++ [(q, d, LT.mv 1 L, LT.mv 1 R)]) := behind_two (n := 0) HNA.out (Nat.zero_le _) hx
      simp only at p1 p2 p3 p4
      clear hx
      by_cases hL : L = -1
      · have eL : LT.mv (1) L = -1 := by unfold LT.mv; rw [if_pos hL]
        by_cases hR : R = -1
        · have eR : LT.mv (1) R = -1 := by unfold LT.mv; rw [if_pos hR]
          have HC2 : Hid (root :: (behind xs ys).take (k + 1) = (root :: (behind xs ys).take k) ++ [(q, d, -1, -1)]) := by show _ = _; rw [HC'.out, eL, eR]; rfl
          clear eL eR HC'
          subst hL
          subst hR
          go_wp2_with (first | (at_builtin; refine wpList_appendE EN rfl (.tmp 73) (.tmp 75) rfl w.heap.size u8 (root :: (behind xs ys).take k) (q, d, -1, -1) ⟨wr.heap.size + 1, 0, none⟩ 1 rfl ((HO.out.alloc _).alloc _) rfl (new_node _ _ (by simp) _ _ _ _) (by simp; omega) (by simp; omega) ?_; intro v' w' hA hgr hk))
          have hb' : Below w.heap.size w w' := ((HB.out.alloc hB _).alloc (by simp; omega) _).trans (below_ownE ((HO.out.alloc _).alloc _) hgr (Nat.le_refl _) (by simp; omega))
          have HA : Hid (OwnE EN w' w.heap.size v' (root :: (behind xs ys).take (k + 1))) := by show OwnE _ _ _ _ _; rw [HC2.out]; exact hA
          clear hgr hk hA
          go_roundg (0 + nb - (k + 1))
          case measure => omega
          case rel => exact ⟨k + 1, by go_num, by omega, by omega, HA, hb'⟩
        · have eR : LT.mv (1) R = R + (1) := by unfold LT.mv; rw [if_neg hR]
          have hRq : (R == -1) = false := beq_eq_false_iff_ne.2 hR
          have HC2 : Hid (root :: (behind xs ys).take (k + 1) = (root :: (behind xs ys).take k) ++ [(q, d, -1, R + 1)]) := by show _ = _; rw [HC'.out, eL, eR]; rfl
          clear eL eR HC'
          subst hL
          go_wp2_with (first | (at_builtin; refine wpList_appendE EN rfl (.tmp 73) (.tmp 75) rfl w.heap.size u8 (root :: (behind xs ys).take k) (q, d, -1, R + 1) ⟨wr.heap.size + 1, 0, none⟩ 1 rfl ((HO.out.alloc _).alloc _) rfl (new_node _ _ (by simp) _ _ _ _) (by simp; omega) (by simp; omega) ?_; intro v' w' hA hgr hk))
          have hb' : Below w.heap.size w w' := ((HB.out.alloc hB _).alloc (by simp; omega) _).trans (below_ownE ((HO.out.alloc _).alloc _) hgr (Nat.le_refl _) (by simp; omega))
          have HA : Hid (OwnE EN w' w.heap.size v' (root :: (behind xs ys).take (k + 1))) := by show OwnE _ _ _ _ _; rw [HC2.out]; exact hA
          clear hgr hk hA
          go_roundg (0 + nb - (k + 1))
          case measure => omega
          case rel => exact ⟨k + 1, by go_num, by omega, by omega, HA, hb'⟩
      · have eL : LT.mv (1) L = L + (1) := by unfold LT.mv; rw [if_neg hL]
        have hLq : (L == -1) = false := beq_eq_false_iff_ne.2 hL
        by_cases hR : R = -1
        · have eR : LT.mv (1) R = -1 := by unfold LT.mv; rw [if_pos hR]
          have HC2 : Hid (root :: (behind xs ys).take (k + 1) = (root :: (behind xs ys).take k) ++ [(q, d, L + 1, -1)]) := by show _ = _; rw [HC'.out, eL, eR]; rfl
          clear eL eR HC'
          subst hR
          go_wp2_with (first | (at_builtin; refine wpList_appendE EN rfl (.tmp 73) (.tmp 75) rfl w.heap.size u8 (root :: (behind xs ys).take k) (q, d, L + 1, -1) ⟨wr.heap.size + 1, 0, none⟩ 1 rfl ((HO.out.alloc _).alloc _) rfl (new_node _ _ (by simp) _ _ _ _) (by simp; omega) (by simp; omega) ?_; intro v' w' hA hgr hk))
          have hb' : Below w.heap.size w w' := ((HB.out.alloc hB _).alloc (by simp; omega) _).trans (below_ownE ((HO.out.alloc _).alloc _) hgr (Nat.le_refl _) (by simp; omega))
          have HA : Hid (OwnE EN w' w.heap.size v' (root :: (behind xs ys).take (k + 1))) := by show OwnE _ _ _ _ _; rw [HC2.out]; exact hA
          clear hgr hk hA
          go_roundg (0 + nb - (k + 1))
          case measure => omega
          case rel => exact ⟨k + 1, by go_num, by omega, by omega, HA, hb'⟩
        · have eR : LT.mv (1) R = R + (1) := by unfold LT.mv; rw [if_neg hR]
          have hRq : (R == -1) = false := beq_eq_false_iff_ne.2 hR
          have HC2 : Hid (root :: (behind xs ys).take (k + 1) = (root :: (behind xs ys).take k) ++ [(q, d, L + 1, R + 1)]) := by show _ = _; rw [HC'.out, eL, eR]; rfl
          clear eL eR HC'
          go_wp2_with (first | (at_builtin; refine wpList_appendE EN rfl (.tmp 73) (.tmp 75) rfl w.heap.size u8 (root :: (behind xs ys).take k) (q, d, L + 1, R + 1) ⟨wr.heap.size + 1, 0, none⟩ 1 rfl ((HO.out.alloc _).alloc _) rfl (new_node _ _ (by simp) _ _ _ _) (by simp; omega) (by simp; omega) ?_; intro v' w' hA hgr hk))
          have hb' : Below w.heap.size w w' := ((HB.out.alloc hB _).alloc (by simp; omega) _).trans (below_ownE ((HO.out.alloc _).alloc _) hgr (Nat.le_refl _) (by simp; omega))
          have HA : Hid (OwnE EN w' w.heap.size v' (root :: (behind xs ys).take (k + 1))) := by show OwnE _ _ _ _ _; rw [HC2.out]; exact hA
          clear hgr hk hA
          go_roundg (0 + nb - (k + 1))
          case measure => omega
          case rel => exact ⟨k + 1, by go_num, by omega, by omega, HA, hb'⟩
    · have hlz : ¬ (k : Int) < (nb : Int) := by omega
      have HF : Hid (OwnE EN wr w.heap.size u8 ((x0, x1, -1, 1) :: behind xs ys)) := by
        show OwnE _ _ _ _ _
        have := HO.out
        rw [List.take_of_length_le (by rw [behind_len, HNA.out, HNB.out]; omega), HRT.out] at this
        exact this
      go_wp2
      go_ret
      exact ⟨_, rfl, HF.out, HB.out⟩

set_option maxHeartbeats 16000000 in
set_option maxRecDepth 4000 in
theorem tree_00 (ca cb : Nat) (pa : Option Addr) (pb : Option Addr) (x0 x1 : Int) (xs ys : List Nd) (w : World) (HNA : Hid (xs.length = 0)) (HNB : Hid (ys.length = 0)) (_hn : 0 + 0 ≤ 100) :
    Calls Tryd.prog 33 #[.agg #[.int .i64 x0, .int .i64 x1], .slice pa 0 ca, .slice pb 0 cb] w fun e w' => ∃ u, e = .returned u ∧ OwnE EN w' w.heap.size u ((x0, x1, -1, -1) :: behind xs ys) ∧ Below w.heap.size w w' := by
  have HE : Hid (behind xs ys = []) := by show _ = _; exact List.eq_nil_of_length_eq_zero (by rw [behind_len, HNA.out, HNB.out])
  obtain ⟨root, hroot⟩ : ∃ root : Nd, root = (x0, x1, -1, -1) := ⟨_, rfl⟩
  have HRT : Hid (root = (x0, x1, -1, -1)) := hroot
  clear hroot
  go_enter Tryd.func33, Tryd.ntmps33
  go_wp2
  have HO0 : Hid (OwnE EN (((w.alloc (.cells #[.int .i64 x0, .int .i64 x1] 24)).alloc (.cells #[.int .i64 x0, .int .i64 x1, .int .i64 (-1), .int .i64 (-1)] 38)).alloc (.cells #[.int .i64 x0, .int .i64 x1, .int .i64 (-1), .int .i64 (-1)] 38)) w.heap.size (.slice (some ⟨w.heap.size + 1 + 1, 0, none⟩) 1 1) [root]) := by show OwnE _ _ _ _ _; rw [HRT.out]; exact own_built _ _ _ (by simp; omega) (by simp) _ _ _ _
  have HB0 : Hid (Below w.heap.size w (((w.alloc (.cells #[.int .i64 x0, .int .i64 x1] 24)).alloc (.cells #[.int .i64 x0, .int .i64 x1, .int .i64 (-1), .int .i64 (-1)] 38)).alloc (.cells #[.int .i64 x0, .int .i64 x1, .int .i64 (-1), .int .i64 (-1)] 38))) := (((Below.refl _ _).alloc (Nat.le_refl _) _).alloc (by simp) _).alloc (by simp; omega) _
  go_loopg [8, 9] (0 + 0) (fun gg vo vk wr => ∃ k : Nat, vk = .int .i64 k ∧ k ≤ 0 + 0 ∧ 0 + 0 - k ≤ gg ∧ Hid (OwnE EN wr w.heap.size vo (root :: (behind xs ys).take k)) ∧ Hid (Below w.heap.size w wr))
  case atStart => exact ⟨0, rfl, Nat.zero_le _, Nat.le_refl _, HO0, HB0⟩
  case round =>
    obtain ⟨k, rfl, hkn, hg, HO, HB⟩ := hrel
    have hB : w.heap.size ≤ wr.heap.size := HB.out.size
    have HF : Hid (OwnE EN wr w.heap.size u8 ((x0, x1, -1, -1) :: behind xs ys)) := by
      show OwnE _ _ _ _ _
      have := HO.out
      rw [List.take_of_length_le (by rw [behind_len, HNA.out, HNB.out]; omega), HRT.out] at this
      exact this
    go_wp2
    go_ret
    exact ⟨_, rfl, HF.out, HB.out⟩

theorem behind_enc (a b : LT) : behind (LT.enc 0 a) (LT.enc 0 b) = LT.enc 1 a ++ LT.enc (1 + a.size) b := by
  unfold behind
  rw [LT.enc_mv a 0 1 1 (by omega), LT.enc_length, LT.enc_mv b 0 (1 + a.size) (1 + (a.size : Int)) (by omega)]
theorem enc_small {t : LT} (h : t.size ≤ 100) : ∀ x ∈ LT.enc 0 t, (-1 : Int) ≤ x.2.2.1 ∧ x.2.2.1 ≤ 1000 ∧ -1 ≤ x.2.2.2 ∧ x.2.2.2 ≤ 1000 := fun x hx => by have := enc_places t 0 x hx; omega
/-- The document's tree of an item and two parts. -/
theorem tree_any (u v : Value) (k i : Int) (a b : LT) (w : World) (hu : SlE EN w u (LT.enc 0 a)) (hv : SlE EN w v (LT.enc 0 b)) (hn : a.size + b.size ≤ 100) :
    Calls Tryd.prog 33 #[.agg #[.int .i64 k, .int .i64 i], u, v] w fun e w' => ∃ r, e = .returned r ∧ OwnE EN w' w.heap.size r (LT.enc 0 (.node k i a b)) ∧ Below w.heap.size w w' := by
  obtain ⟨pa, ca, rfl, _, _⟩ := id hu
  obtain ⟨pb, cb, rfl, _, _⟩ := id hv
  have la := LT.enc_length a 0
  have lb := LT.enc_length b 0
  rw [la] at hu ⊢
  rw [lb] at hv ⊢
  by_cases ha : a = .nil
  · by_cases hb : b = .nil
    · subst ha; subst hb
      exact tree_00 ca cb pa pb k i [] [] w rfl rfl (by omega)
    · have h0 := LT.size_pos hb
      obtain ⟨bb, ob, rfl, _, _, hr⟩ := hv.some h0
      subst ha
      have c := tree_0B bb ob b.size ca cb pa k i [] (LT.enc 0 b) w rfl h0 lb hr (enc_small (by omega)) (by omega)
      rw [show ((k, i, (-1 : Int), (1 : Int)) : Nd) :: behind [] (LT.enc 0 b) = LT.enc 0 (.node k i .nil b) by
        rw [show behind [] (LT.enc 0 b) = _ from behind_enc .nil b]; simp [LT.enc, LT.size, LT.place_nil, LT.place_ne _ hb]] at c
      exact c
  · have h0 := LT.size_pos ha
    obtain ⟨ba, oa, rfl, _, _, hr⟩ := hu.some h0
    by_cases hb : b = .nil
    · subst hb
      have c := tree_A0 ba oa a.size ca cb pb k i (LT.enc 0 a) [] w h0 la hr (enc_small (by omega)) rfl (by omega)
      rw [show ((k, i, (1 : Int), (-1 : Int)) : Nd) :: behind (LT.enc 0 a) [] = LT.enc 0 (.node k i a .nil) by
        rw [show behind (LT.enc 0 a) [] = _ from behind_enc a .nil]; simp [LT.enc, LT.place_nil, LT.place_ne _ ha]] at c
      exact c
    · have h1 := LT.size_pos hb
      obtain ⟨bb, ob, rfl, _, _, hr1⟩ := hv.some h1
      have c := tree_AB ba oa a.size bb ob b.size ca cb k i (LT.enc 0 a) (LT.enc 0 b) w h0 la hr (enc_small (by omega)) h1 lb hr1 (enc_small (by omega)) hn
      rw [show ((k, i, (1 : Int), 1 + (a.size : Int)) : Nd) :: behind (LT.enc 0 a) (LT.enc 0 b) = LT.enc 0 (.node k i a b) by
        rw [behind_enc]; simp [LT.enc, LT.place_ne _ ha, LT.place_ne _ hb]] at c
      exact c
#print axioms tree_any
end Go.Proofs.YtoaabpoicacogaaDoor
