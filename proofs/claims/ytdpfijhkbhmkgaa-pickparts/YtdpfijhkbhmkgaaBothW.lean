/-
  Two lists, one behind the other, as the statements lay them.
-/
import Derived.Test.YtdpfijhkbhmkgaaOwnA
namespace Go.Proofs.Ytdpfijhkbhmkgaa
open Go.RowKit Go.Sort Go.Proofs

theorem both_any (p q : Option Addr) (ca cb A B : Nat) (xs ys : Array (Int × Int)) (w : World) (hx : Sl w (.slice p A ca) xs) (hy : Sl w (.slice q B cb) ys) (hsz : xs.size + ys.size ≤ 1000000) :
    Calls Try.prog 15 #[.slice p A ca, .slice q B cb] w fun e w' => ∃ u, e = .returned u ∧ OwnI w' w.heap.size u (xs.toList ++ ys.toList) ∧ Below w.heap.size w w' := by
  have HX : Hid (Sl w (.slice p A ca) xs) := hx
  have HY : Hid (Sl w (.slice q B cb) ys) := hy
  clear hx hy
  go_enter Try.func15, Try.ntmps15
  go_wp2_with (first | (at_builtin; refine wpList_append_sl rfl (.tmp 6) (.tmp 7) rfl w.heap.size (.slice none 0 0) _ [] xs rfl rfl (OwnI.nil _ _) HX.out (by simp; omega) (Nat.le_refl _) ?_; intro v5 w5 h5 hg5; have hb5 := below_of_grown (v := .slice none 0 0) (OwnI.nil _ w.heap.size) hg5 (Nat.le_refl _) (Nat.le_refl _); clear hg5) | (at_builtin; refine wpList_append_sl rfl (.tmp 9) (.tmp 10) rfl w.heap.size v5 _ _ ys rfl rfl h5 (HY.out.below hb5) (by simp; omega) hb5.size ?_; intro v6 w6 h6 hg6; have hb6 := hb5.trans (below_of_grown h5 hg6 (Nat.le_refl _) hb5.size); clear hg6))
  go_ret
  exact ⟨_, rfl, by simpa using h6, hb6⟩
end Go.Proofs.Ytdpfijhkbhmkgaa
