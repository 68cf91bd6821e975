/-
  The items of a heap of trees, held against other lists.
-/
import Derived.Test.YtmkjalpgeljnkaaDoorPGrow
import Derived.Test.YtmkjalpgeljnkaaDoorBag
namespace Go.Proofs.YtmkjalpgeljnkaaDoor
open Go.RowKit Go.Sort Go.Proofs

theorem Plants.items {xs : Array (Int × Int)} {n : Nat} {g : List TrL} (h : Plants xs n g) (hn : xs.size = n) : (itemsH g).Perm xs.toList := by
  have := h.perm
  rw [List.take_of_length_le (by simp; omega)] at this
  exact this
/-- Lists with the same items: Bag tells so. -/
theorem bag_perm (u v : Value) (l l' : List (Int × Int)) (w : World) (hx : Sl w u l.toArray) (hy : Sl w v l'.toArray) (hp : l.Perm l') (hn : l.length ≤ 1000) :
    Calls Tryd.prog 20 #[u, v] w fun e w' => e = .returned (.bool true) ∧ Below w.heap.size w w' := by
  have c := bag_any u v l.toArray l'.toArray w hx hy (by simp; omega)
  rw [bagB_intro (by simpa using hp.length_eq) fun z => by simpa using hp.count_eq z] at c
  refine c.mono ?_
  rintro e w' ⟨a, q, b⟩
  exact ⟨a, by rw [b]; exact below_drewN (Below.refl _ _) q⟩
/-- The items of a heap, as TreeItems tells them. -/
theorem treeItems_heap (v : Value) (g : List TrL) (w : World) (h : HpAt w v (zH g)) (hg : OkH g) :
    Calls Tryd.prog 21 #[v] w fun e w' => ∃ p c, e = .returned (.slice p (itemsH g).length c) ∧ Sl w' (.slice p (itemsH g).length c) (itemsH g).toArray ∧ Below w.heap.size w w' := by
  obtain ⟨p, c, hv⟩ := h.form
  rw [zH_len] at hv
  subst hv
  refine (treeItems_some p g.length c (zH g) w (by have := hg.len_le; omega) (by show _ = _; exact zH_len g) (by show _ ≤ _; rw [allZ_zH]; have := hg.size; omega) h).mono ?_
  rintro e w' ⟨u, rfl, ho, hb⟩
  rw [allZ_zH] at ho
  have hs := ho.sl
  obtain ⟨p, c, e, _⟩ := id hs
  rw [List.size_toArray] at e
  subst e
  exact ⟨p, c, rfl, hs, hb⟩
end Go.Proofs.YtmkjalpgeljnkaaDoor
