/-
  Plain facts of heaps of trees: trees as lists, linking, melding rank by rank.
-/
import Derived.WalkKit
namespace Go.Proofs.YtmkjalpgeljnkaaDoor

/-- Below the root at place root stand, from place from on, trees of the ranks r - 1, .. 0; no key is less than that of the root above it. -/
def Kids (key : Nat → Int) : Nat → Nat → Nat → Prop
  | 0, _, _ => True
  | r + 1, root, from_ => key root ≤ key from_ ∧ Kids key r from_ (from_ + 1) ∧ Kids key r root (from_ + 2 ^ r)
/-- The place of the root above the one at a place. -/
def aboveK : Nat → Nat → Nat → Nat → Nat
  | 0, root, _, _ => root
  | r + 1, root, from_, at_ => if from_ + 2 ^ r ≤ at_ then aboveK r root (from_ + 2 ^ r) at_ else if at_ = from_ then root else aboveK r from_ (from_ + 1) at_
theorem two_pos (r : Nat) : 0 < 2 ^ r := Nat.pow_pos (by omega)
theorem Kids.above {key : Nat → Int} : ∀ (r root from_ : Nat), Kids key r root from_ → ∀ k, from_ ≤ k → k + 1 < from_ + 2 ^ r → key (aboveK r root from_ k) ≤ key k
  | 0, _, _, _, k, h1, h2 => by simp at h2; omega
  | r + 1, root, from_, ⟨a, b, c⟩, k, h1, h2 => by
    rw [Nat.pow_succ] at h2
    simp only [aboveK]
    by_cases q : from_ + 2 ^ r ≤ k
    · rw [if_pos q]; exact Kids.above r root _ c k q (by omega)
    · rw [if_neg q]
      by_cases e : k = from_
      · rw [if_pos e, e]; exact a
      · rw [if_neg e]; exact Kids.above r from_ _ b k (by omega) (by omega)
theorem Kids.of {key : Nat → Int} : ∀ (r root from_ : Nat), (∀ k, from_ ≤ k → k + 1 < from_ + 2 ^ r → key (aboveK r root from_ k) ≤ key k) → Kids key r root from_
  | 0, _, _, _ => trivial
  | r + 1, root, from_, h => by
    have hp := two_pos r
    have hs : 2 ^ (r + 1) = 2 ^ r + 2 ^ r := by rw [Nat.pow_succ]; omega
    refine ⟨?_, Kids.of r from_ (from_ + 1) fun k h1 h2 => ?_, Kids.of r root (from_ + 2 ^ r) fun k h1 h2 => ?_⟩
    · have := h from_ (Nat.le_refl _) (by omega)
      simp only [aboveK] at this
      rw [if_neg (by omega), if_pos trivial] at this
      exact this
    · have := h k (by omega) (by omega)
      simp only [aboveK] at this
      rw [if_neg (by omega), if_neg (by omega)] at this
      exact this
    · have := h k (by omega) (by omega)
      simp only [aboveK] at this
      rw [if_pos h1] at this
      exact this
/-- It hangs on what stands there alone. -/
theorem Kids.moved {key key' : Nat → Int} : ∀ (r root from_ root' from' : Nat), key' root' = key root → (∀ j, j + 1 < 2 ^ r → key' (from' + j) = key (from_ + j)) → Kids key r root from_ → Kids key' r root' from'
  | 0, _, _, _, _, _, _, _ => trivial
  | r + 1, root, from_, root', from', h1, h2, ⟨a, b, c⟩ => by
    have hp := two_pos r
    have hs : 2 ^ (r + 1) = 2 ^ r + 2 ^ r := by rw [Nat.pow_succ]; omega
    have h0 := h2 0 (by omega)
    simp only [Nat.add_zero] at h0
    refine ⟨by rw [h1, h0]; exact a, Kids.moved r from_ (from_ + 1) from' (from' + 1) h0 (fun j hj => ?_) b, Kids.moved r root (from_ + 2 ^ r) root' (from' + 2 ^ r) h1 (fun j hj => ?_) c⟩
    · have := h2 (j + 1) (by omega)
      rw [show from' + 1 + j = from' + (j + 1) by omega, show from_ + 1 + j = from_ + (j + 1) by omega]; exact this
    · have := h2 (2 ^ r + j) (by omega)
      rw [show from' + 2 ^ r + j = from' + (2 ^ r + j) by omega, show from_ + 2 ^ r + j = from_ + (2 ^ r + j) by omega]; exact this
theorem Kids.least {key : Nat → Int} : ∀ (r root from_ : Nat), Kids key r root from_ → ∀ j, j + 1 < 2 ^ r → key root ≤ key (from_ + j)
  | 0, _, _, _, j, h => by simp at h
  | r + 1, root, from_, ⟨a, b, c⟩, j, h => by
    have hs : 2 ^ (r + 1) = 2 ^ r + 2 ^ r := by rw [Nat.pow_succ]; omega
    by_cases q : 2 ^ r ≤ j
    · have := Kids.least r root _ c (j - 2 ^ r) (by omega)
      rw [show from_ + 2 ^ r + (j - 2 ^ r) = from_ + j by omega] at this
      exact this
    · cases j with
      | zero => exact a
      | succ j =>
        have := Kids.least r from_ _ b j (by omega)
        rw [show from_ + 1 + j = from_ + (j + 1) by omega] at this
        exact Int.le_trans a this
/-- The tree of rank i below the root of one of rank r. -/
theorem Kids.sub {key : Nat → Int} : ∀ (r root from_ : Nat), Kids key r root from_ → ∀ i, i < r → Kids key i (from_ + (2 ^ r - 2 ^ (i + 1))) (from_ + (2 ^ r - 2 ^ (i + 1)) + 1) ∧ key root ≤ key (from_ + (2 ^ r - 2 ^ (i + 1)))
  | 0, _, _, _, i, h => absurd h (Nat.not_lt_zero _)
  | r + 1, root, from_, ⟨a, b, c⟩, i, h => by
    have hs : 2 ^ (r + 1) = 2 ^ r + 2 ^ r := by rw [Nat.pow_succ]; omega
    rcases Nat.lt_or_eq_of_le (Nat.le_of_lt_succ h) with q | rfl
    · have := Kids.sub r root _ c i q
      have hle : 2 ^ (i + 1) ≤ 2 ^ r := Nat.pow_le_pow_right (by omega) q
      rw [show from_ + 2 ^ r + (2 ^ r - 2 ^ (i + 1)) = from_ + (2 ^ (r + 1) - 2 ^ (i + 1)) by rw [hs]; clear hs this; generalize 2 ^ r = A at hle ⊢; generalize 2 ^ (i + 1) = B at hle ⊢; omega] at this
      exact this
    · rw [Nat.sub_self, Nat.add_zero]; exact ⟨b, a⟩

/-- The key of the item at a place of a list. -/
def keyL (l : List (Int × Int)) (i : Nat) : Int := (l[i]?.getD (0, 0)).1
/-- The list is a tree of rank r. -/
structure IsT (r : Nat) (l : List (Int × Int)) : Prop where
  len : l.length = 2 ^ r
  kids : Kids (keyL l) r 0 1
theorem keyL_cons (x : Int × Int) (l : List (Int × Int)) (i : Nat) : keyL (x :: l) (i + 1) = keyL l i := by simp [keyL]
theorem keyL_head (x : Int × Int) (l : List (Int × Int)) : keyL (x :: l) 0 = x.1 := rfl
theorem keyL_left (a b : List (Int × Int)) {i : Nat} (h : i < a.length) : keyL (a ++ b) i = keyL a i := by
  unfold keyL; rw [List.getElem?_append_left h]
theorem keyL_right (a b : List (Int × Int)) (i : Nat) : keyL (a ++ b) (a.length + i) = keyL b i := by
  unfold keyL; rw [List.getElem?_append_right (by omega)]; simp
theorem IsT.one (x : Int × Int) : IsT 0 [x] := ⟨rfl, trivial⟩
theorem IsT.ne {r : Nat} {l : List (Int × Int)} (h : IsT r l) : l ≠ [] := fun e => by have h1 := h.len; rw [e] at h1; have h2 := two_pos r; simp only [List.length_nil] at h1; omega
theorem IsT.cons {r : Nat} {l : List (Int × Int)} (h : IsT r l) : ∃ x t, l = x :: t := by
  cases l with
  | nil => exact absurd rfl h.ne
  | cons x t => exact ⟨x, t, rfl⟩
theorem IsT.least {r : Nat} {x : Int × Int} {l : List (Int × Int)} (h : IsT r (x :: l)) : ∀ y ∈ x :: l, x.1 ≤ y.1 := by
  intro y hy
  rcases List.mem_cons.1 hy with rfl | hm
  · exact Int.le_refl _
  · obtain ⟨j, hj, e⟩ := List.getElem_of_mem hm
    have hl := h.len
    simp only [List.length_cons] at hl
    have := Kids.least r 0 1 h.kids j (by omega)
    rw [Nat.add_comm, keyL_cons, keyL_head] at this
    unfold keyL at this
    rw [List.getElem?_eq_getElem hj, e] at this
    exact this

/-- Two trees linked: the lesser root is the root, the first one's if they are alike. -/
def linkL : List (Int × Int) → List (Int × Int) → List (Int × Int)
  | x :: a, y :: b => if y.1 < x.1 then y :: ((x :: a) ++ b) else x :: ((y :: b) ++ a)
  | a, b => a ++ b
theorem linkL_perm (a b : List (Int × Int)) : (linkL a b).Perm (a ++ b) := by
  unfold linkL
  split
  · split
    · refine List.Perm.trans ?_ List.perm_middle.symm
      exact List.Perm.refl _
    · rename_i x a y b _
      show (x :: ((y :: b) ++ a)).Perm (x :: (a ++ y :: b))
      exact List.Perm.cons _ List.perm_append_comm
  · exact List.Perm.refl _
/-- A root over a tree and the trees of another root. -/
theorem IsT.over {r : Nat} {x y : Int × Int} {s t : List (Int × Int)} (hs : IsT r (y :: s)) (ht : IsT r (x :: t)) (hle : x.1 ≤ y.1) : IsT (r + 1) (x :: ((y :: s) ++ t)) := by
  have h1 := hs.len
  have h2 := ht.len
  simp only [List.length_cons] at h1 h2
  refine ⟨?_, ?_, ?_, ?_⟩
  · simp only [List.length_cons, List.length_append, Nat.pow_succ]; omega
  · rw [keyL_head, show keyL (x :: ((y :: s) ++ t)) 1 = y.1 from rfl]; exact hle
  · refine Kids.moved r 0 1 1 2 rfl (fun j hj => ?_) hs.kids
    rw [show 2 + j = (1 + j) + 1 by omega, keyL_cons, keyL_left _ _ (by simp only [List.length_cons]; omega)]
  · refine Kids.moved (key := keyL (x :: t)) r 0 1 0 (1 + 2 ^ r) rfl (fun j _ => ?_) ht.kids
    rw [show 1 + 2 ^ r + j = (2 ^ r + j) + 1 by omega, keyL_cons, show 1 + j = j + 1 by omega, keyL_cons]
    have := keyL_right (y :: s) t j
    rw [List.length_cons, h1] at this
    exact this
theorem IsT.link {r : Nat} {a b : List (Int × Int)} (ha : IsT r a) (hb : IsT r b) : IsT (r + 1) (linkL a b) := by
  obtain ⟨x, a', rfl⟩ := ha.cons
  obtain ⟨y, b', rfl⟩ := hb.cons
  unfold linkL
  by_cases h : y.1 < x.1
  · simp only [if_pos h]; exact IsT.over ha hb (Int.le_of_lt h)
  · simp only [if_neg h]; exact IsT.over hb ha (by omega)
/-- The trees below a root. -/
theorem IsT.sub {r : Nat} {l : List (Int × Int)} (h : IsT r l) {i : Nat} (hi : i < r) : IsT i ((l.drop (1 + (2 ^ r - 2 ^ (i + 1)))).take (2 ^ i)) := by
  have hs : 2 ^ (i + 1) = 2 ^ i + 2 ^ i := by rw [Nat.pow_succ]; omega
  have hle : 2 ^ (i + 1) ≤ 2 ^ r := Nat.pow_le_pow_right (by omega) hi
  have hp := two_pos i
  have hl := h.len
  have key : ∀ j, j < 2 ^ i → keyL ((l.drop (1 + (2 ^ r - 2 ^ (i + 1)))).take (2 ^ i)) j = keyL l (1 + (2 ^ r - 2 ^ (i + 1)) + j) := fun j hj => by
    unfold keyL
    rw [List.getElem?_take, if_pos hj, List.getElem?_drop]
  refine ⟨by rw [List.length_take, List.length_drop]; omega, ?_⟩
  obtain ⟨k1, _⟩ := Kids.sub r 0 1 h.kids i hi
  refine Kids.moved i _ _ 0 1 (by rw [key 0 hp, Nat.add_zero]) (fun j hj => ?_) k1
  rw [key (1 + j) (by omega), show 1 + (2 ^ r - 2 ^ (i + 1)) + (1 + j) = 1 + (2 ^ r - 2 ^ (i + 1)) + 1 + j by omega]
end Go.Proofs.YtmkjalpgeljnkaaDoor
