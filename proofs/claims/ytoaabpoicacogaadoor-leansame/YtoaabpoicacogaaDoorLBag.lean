/-
  The items of a leaning heap, held against other lists.
-/
import Derived.Test.YtoaabpoicacogaaDoorLGrow
import Derived.Test.YtoaabpoicacogaaDoorNItems
import Derived.Test.YtoaabpoicacogaaDoorBag
namespace Go.Proofs.YtoaabpoicacogaaDoor
open Go.RowKit Go.Sort Go.Proofs

theorem enc_itN : ∀ (t : LT) (o : Nat), (LT.enc o t).map itN = t.items
  | ⟨none⟩, _ => rfl
  | ⟨some (k, i, l, r)⟩, o => by
    simp only [LT.enc, LT.items, List.map_cons, List.map_append, enc_itN l, enc_itN r]
    rfl
theorem GrowsL.items {xs : Array (Int × Int)} {n : Nat} {t : LT} (h : GrowsL xs n t) (hn : xs.size = n) : t.items.Perm xs.toList := by
  have := h.perm
  rw [List.take_of_length_le (by simp; omega)] at this
  exact this
theorem melded_items {xs ys : Array (Int × Int)} {n n' : Nat} {s t : LT} (h : GrowsL xs n s) (h' : GrowsL ys n' t) (hn : xs.size = n) (hn' : ys.size = n') : (LT.meld s t).items.Perm (xs.toList ++ ys.toList) :=
  (LT.meld_items s t).trans (List.Perm.append (h.items hn) (h'.items hn'))
/-- Lists with the same items: Bag tells so. -/
theorem bag_perm (u v : Value) (l l' : List (Int × Int)) (w : World) (hx : Sl w u l.toArray) (hy : Sl w v l'.toArray) (hp : l.Perm l') (hn : l.length ≤ 1000) :
    Calls Tryd.prog 20 #[u, v] w fun e w' => e = .returned (.bool true) ∧ Below w.heap.size w w' := by
  have c := bag_any u v l.toArray l'.toArray w hx hy (by simp; omega)
  rw [bagB_intro (by simpa using hp.length_eq) fun z => by simpa using hp.count_eq z] at c
  refine c.mono ?_
  rintro e w' ⟨a, q, b⟩
  exact ⟨a, by rw [b]; exact below_drewN (Below.refl _ _) q⟩
/-- The items of a heap, as NodeItems tells them. -/
theorem nodeItems_tree (v : Value) (t : LT) (w : World) (h : SlE EN w v (LT.enc 0 t)) (hn : t.size ≤ 1000) :
    Calls Tryd.prog 21 #[v] w fun e w' => ∃ p c, e = .returned (.slice p t.size c) ∧ Sl w' (.slice p t.size c) t.items.toArray ∧ Below w.heap.size w w' := by
  refine (nodeItems_any v _ w h (by rw [LT.enc_length]; exact hn)).mono ?_
  rintro e w' ⟨u, rfl, ho, hb⟩
  rw [enc_itN] at ho
  have hs := ho.sl
  obtain ⟨p, c, e, _⟩ := id hs
  rw [List.size_toArray, LT.items_length] at e
  subst e
  exact ⟨p, c, rfl, hs, hb⟩
end Go.Proofs.YtoaabpoicacogaaDoor
