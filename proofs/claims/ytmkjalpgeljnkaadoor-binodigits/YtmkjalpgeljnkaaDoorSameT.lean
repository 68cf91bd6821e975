/-
  The statements' own Trees and TreeItems: are two heaps of trees the same; all items of one.
-/
import Derived.Test.YtmkjalpgeljnkaaDoorElT
import Derived.Test.YtmkjalpgeljnkaaDoorSame
namespace Go.Proofs.YtmkjalpgeljnkaaDoor
open Go.RowKit Go.Sort Go.Proofs

theorem trees_none (p1 p2 : Option Addr) (c1 c2 : Nat) (w : World) :
    Calls Tryd.prog 13 #[.slice p1 0 c1, .slice p2 0 c2] w fun e w' => e = .returned (.bool true) ∧ ∃ q, w' = w.drewN q := by
  go_enter Tryd.func13, Tryd.ntmps13
  go_wp2
  go_loop [5] (fun i => i = .int .i64 0) (fun _ => 0)
  case atStart => rfl
  case round =>
    subst hrel
    go_wp2
    go_ret
    exact ⟨rfl, 0, rfl⟩
set_option maxHeartbeats 4000000 in
theorem trees_some (p1 p2 : Option Addr) (c1 c2 n : Nat) (h : List (Int × List (Int × Int))) (w : World) (HX : Hid (HpAt w (.slice p1 n c1) h)) (HY : Hid (HpAt w (.slice p2 n c2) h)) (hn : Hid (h.length = n)) (hsz : n ≤ 1000) (HL : Hid (∀ t ∈ h, t.2.length ≤ 1000)) :
    Calls Tryd.prog 13 #[.slice p1 n c1, .slice p2 n c2] w fun e w' => e = .returned (.bool true) ∧ ∃ q, w' = w.drewN q := by
  go_enter Tryd.func13, Tryd.ntmps13
  go_wp2
  go_loopg [5] n (fun g vi wr => ∃ i q : Nat, vi = .int .i64 i ∧ i ≤ n ∧ n - i ≤ g ∧ wr = w.drewN q)
  case atStart => exact ⟨0, 0, rfl, Nat.zero_le _, by omega, rfl⟩
  case round =>
    obtain ⟨i, q, rfl, hin, hg, rfl⟩ := hrel
    by_cases hlt : i < n
    · have hlz : (i : Int) < (n : Int) := by omega
      obtain ⟨⟨r, l⟩, hx⟩ : ∃ x, h[i]? = some x := ⟨h[i]'(by rw [hn.out]; omega), by simp⟩
      obtain ⟨b1, o1, q1, d1, rfl, hb1, x0, x1, sx⟩ := HX.out.tree hx
      obtain ⟨b2, o2, q2, d2, rfl, hb2, y0, y1, sy⟩ := HY.out.tree hx
      have hl := HL.out (r, l) (List.mem_of_getElem? hx)
      simp only at hl
      have sx' := sx.below (below_drewN (Below.refl _ _) q)
      have sy' := sy.below (below_drewN (Below.refl _ _) q)
      have x0' : (w.drewN q).cell? ⟨b1, o1 + i * 2, none⟩ = some (.int .i64 r) := x0
      have x1' : (w.drewN q).cell? ⟨b1, o1 + i * 2 + 1, none⟩ = some (.slice q1 l.length d1) := x1
      have y0' : (w.drewN q).cell? ⟨b2, o2 + i * 2, none⟩ = some (.int .i64 r) := y0
      have y1' : (w.drewN q).cell? ⟨b2, o2 + i * 2 + 1, none⟩ = some (.slice q2 l.length d2) := y1
      obtain ⟨wq, hwq⟩ : ∃ wq, w.drewN q = wq := ⟨_, rfl⟩
      rw [hwq] at sx' sy' x0' x1' y0' y1' ⊢
      have HWQ : Hid (w.drewN q = wq) := hwq
      clear x0 x1 y0 y1 sx sy hwq
      have ci : ∀ k, Calls Tryd.prog 38 #[.slice q1 l.length d1, .slice q2 l.length d2] (wq.drewN k) fun e w' => e = .returned (.bool true) ∧ ∃ m, w' = wq.drewN m := fun k => by
        have := items_any _ _ l.toArray l.toArray (wq.drewN k) (sx'.below (below_drewN (Below.refl _ _) k)) (sy'.below (below_drewN (Below.refl _ _) k)) (by simp; omega)
        rw [decide_eq_true rfl] at this
        exact this.mono fun e w' ⟨a, m, b⟩ => ⟨a, k + m, by rw [b, World.drewN_drewN]⟩
      have hrr : (r != r) = false := bne_self_eq_false r
      generalize l.length = ln at *
      clear hx sx' sy' hl
      go_wp2_with fail
      go_quiet (first | (go_at_call 38; exact ci _))
      go_wp2
      go_roundg (n - (i + 1))
      case measure => omega
      case rel => exact ⟨i + 1, q + nq, by go_num, by omega, Nat.le_refl _, by rw [← HWQ.out, World.drewN_drewN]⟩
    · have hlz : ¬ (i : Int) < (n : Int) := by omega
      go_wp2
      go_ret
      exact ⟨rfl, q, rfl⟩
theorem trees_same (u v : Value) (h : List (Int × List (Int × Int))) (w : World) (hu : HpAt w u h) (hv : HpAt w v h) (hn : h.length ≤ 1000) (hl : ∀ t ∈ h, t.2.length ≤ 1000) :
    Calls Tryd.prog 13 #[u, v] w fun e w' => e = .returned (.bool true) ∧ Below w.heap.size w w' := by
  obtain ⟨p1, c1, rfl⟩ := hu.form
  obtain ⟨p2, c2, rfl⟩ := hv.form
  exact (trees_some p1 p2 c1 c2 h.length h w hu hv rfl hn hl).mono fun e w' ⟨a, q, b⟩ => ⟨a, by rw [b]; exact below_drewN (Below.refl _ _) q⟩
/-- All items, tree by tree. -/
def allZ (h : List (Int × List (Int × Int))) : List (Int × Int) := h.flatMap (·.2)
theorem allZ_succ {h : List (Int × List (Int × Int))} {i : Nat} {r : Int} {l : List (Int × Int)} (hi : h[i]? = some (r, l)) : allZ (h.take (i + 1)) = allZ (h.take i) ++ l := by
  obtain ⟨hlt, e⟩ := List.getElem?_eq_some_iff.1 hi
  unfold allZ
  rw [List.take_succ_eq_append_getElem hlt, List.flatMap_append, e]
  simp
theorem allZ_le (h : List (Int × List (Int × Int))) (i : Nat) : (allZ (h.take i)).length ≤ (allZ h).length := by
  have e : allZ h = allZ (h.take i) ++ allZ (h.drop i) := by unfold allZ; rw [← List.flatMap_append, List.take_append_drop]
  rw [e, List.length_append]; omega
set_option maxHeartbeats 4000000 in
theorem treeItems_some (p : Option Addr) (n cap : Nat) (h : List (Int × List (Int × Int))) (w : World) (hn : n ≤ 1000) (HN : Hid (h.length = n)) (HA : Hid ((allZ h).length ≤ 1000)) (HH : Hid (HpAt w (.slice p n cap) h)) :
    Calls Tryd.prog 21 #[.slice p n cap] w fun e w' => ∃ u, e = .returned u ∧ OwnI w' w.heap.size u (allZ h) ∧ Below w.heap.size w w' := by
  go_enter Tryd.func21, Tryd.ntmps21
  go_wp2
  go_loopg [3, 4] n (fun gg vo vi wr => ∃ i : Nat, vi = .int .i64 i ∧ i ≤ n ∧ n - i ≤ gg ∧ Hid (OwnI wr w.heap.size vo (allZ (h.take i))) ∧ Hid (Below w.heap.size w wr))
  case atStart => exact ⟨0, rfl, Nat.zero_le _, by omega, (show OwnI _ _ _ _ by simpa [allZ] using OwnI.nil _ _), Below.refl _ _⟩
  case round =>
    obtain ⟨i, rfl, hin, hg, HO, HB⟩ := hrel
    by_cases hlt : i < n
    · have hlz : (i : Int) < (n : Int) := by omega
      obtain ⟨⟨r, l⟩, hx⟩ : ∃ x, h[i]? = some x := ⟨h[i]'(by rw [HN.out]; omega), by simp⟩
      obtain ⟨blk, off, q, c, rfl, hb, c0, c1, sl⟩ := HH.out.tree hx
      have t1 := (HB.out.cell (p := ⟨blk, off + i * 2 + 1, none⟩) hb).trans c1
      have HE : Hid (allZ (h.take (i + 1)) = allZ (h.take i) ++ l) := allZ_succ hx
      have HLE : Hid ((allZ (h.take i)).length + l.length ≤ 1000) := by show _ ≤ _; have h1 := allZ_le h (i + 1); rw [HE.out, List.length_append] at h1; have := HA.out; omega
      have HSL : Hid (Sl wr (.slice q l.length c) l.toArray) := sl.below HB.out
      clear hx sl c0 c1
      go_wp2_with (first | (at_builtin; refine wpList_append_sl rfl (.tmp 11) (.tmp 16) rfl w.heap.size u3 _ (allZ (h.take i)) l.toArray rfl rfl HO.out HSL.out (by rw [List.size_toArray]; have := HLE.out; omega) HB.out.size ?_; intro v2 w2 h2 hg2; have HB2 : Hid (Below w.heap.size w w2) := HB.out.trans (below_of_grown HO.out hg2 (Nat.le_refl _) HB.out.size); have HO2 : Hid (OwnI w2 w.heap.size v2 (allZ (h.take (i + 1)))) := (by show OwnI _ _ _ _; rw [HE.out]; exact h2); clear h2 hg2))
      go_roundg (n - (i + 1))
      case measure => omega
      case rel => exact ⟨i + 1, by go_num, by omega, Nat.le_refl _, HO2, HB2⟩
    · have hlz : ¬ (i : Int) < (n : Int) := by omega
      have HO' : Hid (OwnI wr w.heap.size u3 (allZ h)) := by show OwnI _ _ _ _; have := HO.out; rw [List.take_of_length_le (by rw [HN.out]; omega)] at this; exact this
      go_wp2
      go_ret
      exact ⟨_, rfl, HO'.out, HB.out⟩
#print axioms treeItems_some
end Go.Proofs.YtmkjalpgeljnkaaDoor
