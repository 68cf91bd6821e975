/-
  The document's HeapMake and HeapPop.
-/
import Derived.Test.YtcjfbenbdjlodaaDoorRefHeap
import Derived.Test.YtcjfbenbdjlodaaDoorHeapM
namespace Go.Proofs.YtcjfbenbdjlodaaDoor
open Go.RowKit Go.Sort Go.Proofs

theorem own_form {w : World} {base : Nat} {v : Value} {ys : List (Int × Int)} (h : OwnI w base v ys) : ∃ p c, v = .slice p ys.length c := by
  obtain ⟨_, ⟨rfl, h0⟩ | ⟨g, cap, cur, rfl, _⟩⟩ := h
  · exact ⟨none, 0, by rw [h0]⟩
  · exact ⟨_, _, rfl⟩

set_option maxHeartbeats 4000000 in
theorem refMake_none (p : Option Addr) (cap : Nat) (w : World) :
    Calls Tryd.prog 6 #[.slice p 0 cap] w fun e w' => ∃ u, e = .returned u ∧ Sl w' u #[] ∧ Below w.heap.size w w' := by
  have HS : Hid (Sl w (.slice p 0 cap) #[]) := (show Sl _ _ _ from ⟨p, cap, rfl, Nat.zero_le _, Or.inl rfl⟩)
  go_enter Tryd.func6, Tryd.ntmps6
  go_wp2_with (first | (at_builtin; refine wpList_append_sl rfl (.tmp 5) (.tmp 6) rfl w.heap.size (.slice none 0 0) (.slice p 0 cap) [] #[] rfl rfl (OwnI.nil _ _) HS.out (by simp) (Nat.le_refl _) ?_; intro v1 w1 hA1 hg1; have hb1 : Below w.heap.size w w1 := (Below.refl _ _).grown hg1 (Nat.le_refl _) (fun k e => by cases e); have HA1 : Hid (OwnI w1 w.heap.size v1 []) := hA1; obtain ⟨p1, c1, hv1⟩ := own_form HA1.out; clear hA1 hg1; subst hv1))
  go_loop [4] (fun i => i = .int .i64 (-1)) (fun _ => 0)
  case atStart => rfl
  case round =>
    subst hrel
    go_wp2
    go_ret
    exact ⟨_, rfl, HA1.out.sl, hb1⟩

set_option maxHeartbeats 8000000 in
set_option maxRecDepth 4000 in
theorem refMake_some (p : Option Addr) (n cap : Nat) (xs : Array (Int × Int)) (w : World) (hn0 : 0 < n) (hn : n ≤ 60) (HN : Hid (xs.size = n)) (HS : Hid (Sl w (.slice p n cap) xs)) :
    Calls Tryd.prog 6 #[.slice p n cap] w fun e w' => ∃ u, e = .returned u ∧ Sl w' u (hmake xs) ∧ Below w.heap.size w w' := by
  go_enter Tryd.func6, Tryd.ntmps6
  go_wp2_with (first | (at_builtin; refine wpList_append_sl rfl (.tmp 5) (.tmp 6) rfl w.heap.size (.slice none 0 0) (.slice p n cap) [] xs rfl rfl (OwnI.nil _ _) HS.out (by rw [HN.out]; simp; omega) (Nat.le_refl _) ?_; intro v1 w1 hA1 hg1; have hb1 : Below w.heap.size w w1 := (Below.refl _ _).grown hg1 (Nat.le_refl _) (fun k e => by cases e); obtain ⟨g, cp, hv1, hgb, hcp, hw1⟩ := OwnI.wr (n := n) (by simp [HN.out]) hn0 hA1; have HW1 : Hid (WrAt w1 g 0 xs) := (by show WrAt _ _ _ _; have := hw1; rw [List.nil_append, Array.toArray_toList] at this; exact this); clear hA1 hg1 hw1; subst hv1))
  go_loopg [4] n (fun gg vi wr => ∃ k : Nat, CountsDown k vi ∧ k ≤ gg ∧ k ≤ n ∧ ∃ d : Array (Int × Int), Hid (d.size = n) ∧ Hid (WrAt wr g 0 d) ∧ Hid (mkTo k d = hmake xs) ∧ Hid (Below w.heap.size w wr))
  case atStart => exact ⟨n, countsDown_sub _, Nat.le_refl _, Nat.le_refl _, xs, HN, HW1, (show _ = _ by unfold hmake; rw [HN.out]), hb1⟩
  case round =>
    obtain ⟨k, ⟨rfl, rfl⟩ | ⟨m, rfl, rfl⟩, hkg, hkn, d, HD, HW, HE, HB⟩ := hrel
    · have HSL : Hid (Sl wr (.slice (some ⟨g, 0, none⟩) n cp) (hmake xs)) := by
        show Sl _ _ _
        rw [← HE.out]
        have := Sl.of_rd (cap := cp) HW.out.rd (by rw [HD.out]; exact hcp)
        rw [HD.out] at this; exact this
      go_wp2
      go_ret
      exact ⟨_, rfl, HSL.out, HB.out⟩
    · have hm : m < n := by omega
      have HE' : Hid (mkTo m (sinkA d m) = hmake xs) := by show _ = _; rw [← HE.out]; exact (mkTo_succ m d).symm
      have HD' : Hid ((sinkA d m).size = n) := by show _ = _; rw [sinkA_size]; exact HD.out
      clear HE
      have c := refSink_any g 0 cp n hn (n - m) m d wr (Nat.le_refl _) hm HD HW
      go_wp2_with fail
      refine c.mono ?_
      rintro e w4 ⟨rfl, hw4, hg4⟩
      have HW4 : Hid (WrAt w4 g 0 (sinkA d m)) := hw4
      have HB4 : Hid (Below w.heap.size w w4) := below_gb HB.out hg4 hgb HB.out.size
      clear hw4 hg4 c
      go_wp2
      go_roundg m
      case measure => omega
      case rel => exact ⟨m, countsDown_sub _, Nat.le_refl _, by omega, sinkA d m, HD', HW4, HE', HB4⟩
theorem refMake_any (v : Value) (xs : Array (Int × Int)) (w : World) (h : Sl w v xs) (hn : xs.size ≤ 60) :
    Calls Tryd.prog 6 #[v] w fun e w' => ∃ u, e = .returned u ∧ Sl w' u (hmake xs) ∧ Below w.heap.size w w' := by
  obtain ⟨p, cap, rfl, hcap, _⟩ := id h
  rcases Nat.eq_zero_or_pos xs.size with h0 | h0
  · have e0 : xs = #[] := Array.eq_empty_of_size_eq_zero h0
    subst e0
    have e1 : hmake #[] = #[] := Array.eq_empty_of_size_eq_zero (by rw [hmake_size]; rfl)
    rw [e1]; exact refMake_none p cap w
  · exact refMake_some p xs.size cap xs w h0 hn rfl h
#print axioms refMake_any

/-! ### HeapPop -/
/-- A slice value that holds the items xs, in a block from B on. -/
def SlF (w : World) (B : Nat) (v : Value) (xs : Array (Int × Int)) : Prop :=
  ∃ p cap, v = .slice p xs.size cap ∧ xs.size ≤ cap ∧ (xs.size = 0 ∨ ∃ blk off, p = some ⟨blk, off, none⟩ ∧ B ≤ blk ∧ RdAt w blk off xs)
theorem SlF.nil (w : World) (B : Nat) : SlF w B (.slice none 0 0) #[] := ⟨none, 0, rfl, Nat.le_refl _, Or.inl rfl⟩
theorem SlF.sl {w : World} {B : Nat} {v : Value} {xs : Array (Int × Int)} (h : SlF w B v xs) : Sl w v xs := by
  obtain ⟨p, cap, rfl, hc, h | ⟨blk, off, rfl, _, hr⟩⟩ := h
  · exact ⟨p, cap, rfl, hc, Or.inl h⟩
  · exact ⟨_, cap, rfl, hc, Or.inr ⟨blk, off, rfl, hr⟩⟩
theorem SlF.kept {w w' : World} {B F : Nat} {v : Value} {xs : Array (Int × Int)} (h : SlF w B v xs) (hg : w.grownBy w' (some F)) (hF : F < B) : Sl w' v xs := by
  obtain ⟨p, cap, rfl, hc, h | ⟨blk, off, rfl, hb, hr⟩⟩ := h
  · exact ⟨p, cap, rfl, hc, Or.inl h⟩
  · have hk := hg.block blk hr.1 (by simp; omega)
    exact ⟨_, cap, rfl, hc, Or.inr ⟨blk, off, rfl, Nat.lt_of_lt_of_le hr.1 hg.size, fun i hi => ⟨(World.cell?_of_block (a := ⟨blk, off + i * 2, none⟩) hk).trans (hr.2 i hi).1, (World.cell?_of_block (a := ⟨blk, off + i * 2 + 1, none⟩) hk).trans (hr.2 i hi).2⟩⟩⟩
theorem pop_list {x z : Int × Int} {mid : List (Int × Int)} : ((x :: mid ++ [z]).toArray.pop).setIfInBounds 0 z = ([] ++ [z] ++ mid).toArray := by
  apply Array.ext'
  have e : (x :: (mid ++ [z])).dropLast = x :: mid := by rw [← List.cons_append, List.dropLast_concat]
  simp [e]
theorem mid_rd {w : World} {blk off : Nat} {x z : Int × Int} {mid : List (Int × Int)} (h : RdAt w blk off (x :: mid ++ [z]).toArray) : RdAt w blk (off + 2) mid.toArray := by
  refine ⟨h.1, fun i hi => ?_⟩
  have hi' : i < mid.length := by simpa using hi
  have e : (x :: mid ++ [z]).toArray[i + 1]! = mid.toArray[i]! := by
    rw [getElem!_pos _ (i + 1) (by simp; omega), getElem!_pos _ i hi]
    simp [List.getElem_append_left hi']
  have := h.2 (i + 1) (by simp; omega)
  rw [e] at this
  exact ⟨by rw [show off + 2 + i * 2 = off + (i + 1) * 2 by omega]; exact this.1, by rw [show off + 2 + i * 2 + 1 = off + (i + 1) * 2 + 1 by omega]; exact this.2⟩
theorem last_rd {w : World} {blk off m : Nat} {x z : Int × Int} {mid : List (Int × Int)} (h : RdAt w blk off (x :: mid ++ [z]).toArray) (hm : mid.length = m) : w.cell? ⟨blk, off + (m + 1) * 2, none⟩ = some (.int .i64 z.1) ∧ w.cell? ⟨blk, off + (m + 1) * 2 + 1, none⟩ = some (.int .i64 z.2) := by
  have := h.2 (m + 1) (by simp; omega)
  rw [getElem!_pos _ (m + 1) (by simp; omega)] at this
  simpa [← hm] using this

set_option maxHeartbeats 4000000 in
theorem refPop_few (p : Option Addr) (n cap : Nat) (w : World) (hn : n ≤ 1) :
    Calls Tryd.prog 14 #[.slice p n cap] w fun e w' => e = .returned (.slice none 0 0) ∧ Below w.heap.size w w' := by
  have hz : ¬ (1 : Int) < (n : Int) := by omega
  go_enter Tryd.func14, Tryd.ntmps14
  go_wp2
  go_ret
  exact ⟨rfl, Below.refl _ _⟩
set_option maxHeartbeats 8000000 in
set_option maxRecDepth 4000 in
theorem refPop_some (blk off cap m : Nat) (x : Int × Int) (z0 z1 : Int) (mid : List (Int × Int)) (w : World) (hm : m ≤ 58) (hcap : m + 2 ≤ cap) (HM : Hid (mid.length = m)) (HR : Hid (RdAt w blk off (x :: mid ++ [(z0, z1)]).toArray)) :
    Calls Tryd.prog 14 #[.slice (some ⟨blk, off, none⟩) (m + 2) cap] w fun e w' => ∃ u, e = .returned u ∧ SlF w' w.heap.size u (sinkA ([] ++ [(z0, z1)] ++ mid).toArray 0) ∧ Below w.heap.size w w' := by
  have hz : (1 : Int) < (m : Int) + 2 := by omega
  have hz1 : (m : Int) + 1 < (m : Int) + 2 := by omega
  have hz2 : (0 : Int) ≤ (m : Int) + 1 := by omega
  have ht : ((m : Int) + 1).toNat = m + 1 := by omega
  obtain ⟨l0, l1⟩ := last_rd HR.out HM.out
  go_enter Tryd.func14, Tryd.ntmps14
  go_wp2_with (first | (at_builtin; refine wpList_append_item rfl (.tmp 7) (.tmp 14) rfl w.heap.size (.slice none 0 0) [] (z0, z1) ⟨w.heap.size, 0, none⟩ 1 rfl (OwnI.nil _ _) rfl (by simp) (by simp [Addr.add]) (by simp) (by simp) ?_; intro v1 w1 hA1 hg1 hk1; have hb1 : Below w.heap.size w w1 := ((Below.refl _ _).alloc (Nat.le_refl _) _).grown hg1 (by simp) (fun k e => by cases e); have HM1 : Hid (RdAt w1 blk (off + 2) mid.toArray) := mid_rd (HR.out.below hb1 HR.out.1); have HSM : Hid (Sl w1 (.slice (some ⟨blk, off + 2, none⟩) m (cap - 1)) mid.toArray) := (show Sl _ _ _ from ⟨_, cap - 1, by rw [List.size_toArray, HM.out], by rw [List.size_toArray, HM.out]; omega, Or.inr ⟨blk, off + 2, rfl, HM1.out⟩⟩); clear hg1 hk1 l0 l1) | (at_builtin; refine wpList_append_sl rfl (.tmp 16) (.tmp 21) rfl w.heap.size v1 (.slice (some ⟨blk, off + 2, none⟩) m (cap - 1)) ([] ++ [(z0, z1)]) mid.toArray rfl rfl hA1 HSM.out (by rw [List.size_toArray, HM.out]; simp; omega) hb1.size ?_; intro v2 w2 hA2 hg2; have hb2 : Below w.heap.size w w2 := hb1.trans (below_of_grown hA1 hg2 (Nat.le_refl _) hb1.size); have hA2' : OwnI w2 w.heap.size v2 ([] ++ [(z0, z1)] ++ mid) := hA2; obtain ⟨g, cp, hv2, hgb, hcp, hw2⟩ := OwnI.wr (n := m + 1) (by simp [HM.out]) (Nat.succ_pos _) hA2'; have HW2 : Hid (WrAt w2 g 0 ([] ++ [(z0, z1)] ++ mid).toArray) := hw2; clear hA1 hA2 hA2' hg2 hw2 HSM HM1; subst hv2))
  have HSZ : Hid (([] ++ [(z0, z1)] ++ mid).toArray.size = m + 1) := by show _ = _; simp [HM.out]
  have c := refSink_any g 0 cp (m + 1) (by omega) (m + 1) 0 ([] ++ [(z0, z1)] ++ mid).toArray w2 (by omega) (Nat.succ_pos _) HSZ HW2
  refine c.mono ?_
  rintro e w4 ⟨rfl, hw4, hg4⟩
  have HS4 : Hid (SlF w4 w.heap.size (.slice (some ⟨g, 0, none⟩) (m + 1) cp) (sinkA ([] ++ [(z0, z1)] ++ mid).toArray 0)) := by
    show SlF _ _ _ _
    have hs : (sinkA ([] ++ [(z0, z1)] ++ mid).toArray 0).size = m + 1 := by rw [sinkA_size]; exact HSZ.out
    exact ⟨_, cp, by rw [hs], by rw [hs]; exact hcp, Or.inr ⟨g, 0, rfl, hgb, hw4.rd⟩⟩
  have hb4 := below_gb hb2 hg4 hgb hb2.size
  clear c hw4 hg4 HW2
  go_wp2
  go_ret
  exact ⟨_, rfl, HS4.out, hb4⟩
theorem refPop_any (v : Value) (xs : Array (Int × Int)) (w : World) (h : Sl w v xs) (hn : xs.size ≤ 60) :
    Calls Tryd.prog 14 #[v] w fun e w' => ∃ u, e = .returned u ∧ SlF w' w.heap.size u (hpop xs) ∧ Below w.heap.size w w' := by
  obtain ⟨p, cap, rfl, hcap, hp⟩ := id h
  by_cases h1 : xs.size ≤ 1
  · have e0 : hpop xs = #[] := by unfold hpop; rw [if_pos h1]
    rw [e0]
    exact (refPop_few p _ cap w h1).mono fun e w' ⟨a, b⟩ => ⟨_, a, SlF.nil _ _, b⟩
  · rcases hp with hp | ⟨blk, off, rfl, hr⟩
    · omega
    · obtain ⟨l⟩ := xs
      match l, h1, hn, hcap, hr with
      | [], h1, _, _, _ => exact absurd (by simp) h1
      | [_], h1, _, _, _ => exact absurd (by simp) h1
      | x :: y :: r, _, hn, hcap, hr =>
        obtain ⟨mid, z, hz⟩ : ∃ mid z, y :: r = mid ++ [z] := ⟨(y :: r).dropLast, (y :: r).getLast (by simp), (List.dropLast_concat_getLast (by simp)).symm⟩
        rw [hz] at hn hcap hr ⊢
        obtain ⟨z0, z1⟩ := z
        have hs : (x :: (mid ++ [(z0, z1)])).toArray.size = mid.length + 2 := by simp
        rw [hs] at hn hcap ⊢
        have e0 : hpop (x :: (mid ++ [(z0, z1)])).toArray = sinkA ([] ++ [(z0, z1)] ++ mid).toArray 0 := by
          unfold hpop
          have eg : (x :: (mid ++ [(z0, z1)])).toArray[mid.length + 2 - 1]! = (z0, z1) := by rw [getElem!_pos _ _ (by simp)]; simp
          rw [hs, if_neg (by omega), eg]
          exact congrArg (sinkA · 0) pop_list
        rw [e0]
        exact refPop_some blk off cap mid.length x z0 z1 mid w (by omega) hcap rfl hr
#print axioms refPop_any
end Go.Proofs.YtcjfbenbdjlodaaDoor
