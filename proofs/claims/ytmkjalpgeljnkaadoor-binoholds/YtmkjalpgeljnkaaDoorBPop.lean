/-
  Plain facts of heaps of trees: taking the least one out.
-/
import Derived.Test.YtmkjalpgeljnkaaDoorBGood
namespace Go.Proofs.YtmkjalpgeljnkaaDoor
open Go.RowKit Go.Sort Go.Proofs

/-- The key at the root of a heap's i-th tree. -/
def rootK (h : List TrL) (i : Nat) : Int := keyL ((h[i]?.getD (0, [])).2) 0
/-- The first tree with the least root, among the first n. -/
def atTo (h : List TrL) : Nat → Nat
  | 0 => 0
  | n + 1 => if rootK h n < rootK h (atTo h n) then n else atTo h n
theorem atTo_lt (h : List TrL) : ∀ n, 0 < n → atTo h n < n
  | 0, q => absurd q (Nat.lt_irrefl 0)
  | n + 1, _ => by
    unfold atTo
    split
    · omega
    · rcases Nat.eq_zero_or_pos n with q | q
      · subst q; unfold atTo; omega
      · have := atTo_lt h n q; omega
theorem atTo_least (h : List TrL) : ∀ n, ∀ j, j < n → rootK h (atTo h n) ≤ rootK h j
  | 0, j, q => absurd q (Nat.not_lt_zero j)
  | n + 1, j, q => by
    unfold atTo
    by_cases e : rootK h n < rootK h (atTo h n)
    · rw [if_pos e]
      rcases Nat.lt_or_ge j n with a | a
      · have := atTo_least h n j a; omega
      · obtain rfl : j = n := by omega
        exact Int.le_refl _
    · rw [if_neg e]
      rcases Nat.lt_or_ge j n with a | a
      · exact atTo_least h n j a
      · obtain rfl : j = n := by omega
        omega
/-- What is left when a heap's least one is taken out. -/
def popH (h : List TrL) : List TrL :=
  let t := h[atTo h h.length]?.getD (0, [])
  meldH (h.eraseIdx (atTo h h.length)) (partsL t.1 t.2 t.1)
theorem erase_split {α : Type} (h : List α) (i : Nat) {t : α} (e : h[i]? = some t) : h = h.take i ++ t :: h.drop (i + 1) ∧ h.eraseIdx i = h.take i ++ h.drop (i + 1) := by
  obtain ⟨hi, rfl⟩ := List.getElem?_eq_some_iff.1 e
  refine ⟨?_, List.eraseIdx_eq_take_drop_succ h i⟩
  rw [← List.drop_eq_getElem_cons hi, List.take_append_drop]
theorem OkH.pop {h : List TrL} (H : OkH h) (hn : h ≠ []) : ∃ r x l, h[atTo h h.length]? = some (r, x :: l) ∧ OkH (h.eraseIdx (atTo h h.length)) ∧ OkH (partsL r (x :: l) r) ∧
    popH h = meldH (h.eraseIdx (atTo h h.length)) (partsL r (x :: l) r) ∧ OkH (popH h) ∧ (x :: itemsH (popH h)).Perm (itemsH h) ∧ ∀ y ∈ itemsH h, x.1 ≤ y.1 := by
  have hpos : 0 < h.length := List.length_pos_iff.2 hn
  have hat := atTo_lt h h.length hpos
  have hle := atTo_least h h.length
  generalize ea : atTo h h.length = a at hat hle
  obtain ⟨r, m, ht'⟩ : ∃ r m, h[a]? = some (r, m) := ⟨h[a].1, h[a].2, List.getElem?_eq_getElem hat⟩
  have hm : (r, m) ∈ h := List.mem_of_getElem? ht'
  have hT : IsT r m := H.isH.trees _ hm
  obtain ⟨x, l, rfl⟩ := hT.cons
  obtain ⟨hs, he⟩ := erase_split h a ht'
  have hperm : (itemsH h).Perm ((x :: l) ++ itemsH (h.eraseIdx a)) := by
    rw [he]
    conv => lhs; rw [hs]
    rw [itemsH_append, itemsH_cons, itemsH_append]
    refine (List.perm_append_comm_assoc _ _ _).trans ?_
    exact List.Perm.refl _
  have hsub : (h.eraseIdx a).Sublist h := List.eraseIdx_sublist h a
  have hO1 : OkH (h.eraseIdx a) := ⟨⟨fun t q => H.isH.trees t (hsub.subset q), H.isH.rise.sublist hsub⟩, fun t q => H.rank t (hsub.subset q), fun y q => by
      obtain ⟨t, q1, q2⟩ := mem_itemsH.1 q
      exact H.inr y (mem_itemsH.2 ⟨t, hsub.subset q1, q2⟩), by have := hperm.length_eq; have := H.size; simp only [List.length_append] at *; omega⟩
  have hall := parts_all hT
  have hr5 := H.rank _ hm
  have hO2 : OkH (partsL r (x :: l) r) := ⟨partsL_isH hT r (Nat.le_refl _), fun t q => by have := partsL_rank r (x :: l) r t q; simp only at hr5; omega, fun y q => H.inr y (mem_itemsH.2 ⟨_, hm, List.mem_cons_of_mem _ (hall.mem_iff.1 q)⟩), by
      have h1 := hperm.length_eq; have h2 := H.size; have h3 := hall.length_eq; simp only [List.length_append, List.length_cons] at *; omega⟩
  have hpop : popH h = meldH (h.eraseIdx a) (partsL r (x :: l) r) := by
    unfold popH; rw [ea, ht']; rfl
  have hlen : (itemsH (h.eraseIdx a)).length + (itemsH (partsL r (x :: l) r)).length ≤ 60 := by
    have h1 := hperm.length_eq; have h2 := H.size; have h3 := hall.length_eq; simp only [List.length_append, List.length_cons] at *; omega
  obtain ⟨hO3, hp3⟩ := hO1.meld hO2 hlen
  refine ⟨r, x, l, ht', hO1, hO2, hpop, hpop ▸ hO3, ?_, ?_⟩
  · rw [hpop]
    refine (List.Perm.cons x (hp3.trans ((List.Perm.append_left _ hall).trans List.perm_append_comm))).trans ?_
    exact hperm.symm
  · intro y hy
    obtain ⟨⟨q, m'⟩, h1, h2⟩ := mem_itemsH.1 hy
    obtain ⟨j, hj, ej⟩ := List.mem_iff_getElem.1 h1
    have h3 := hle j hj
    have hT' : IsT q m' := H.isH.trees _ h1
    obtain ⟨x', l', rfl⟩ := hT'.cons
    have h4 : x'.1 ≤ y.1 := hT'.least y h2
    have h5 : rootK h a = x.1 := by unfold rootK; rw [ht']; rfl
    have h6 : rootK h j = x'.1 := by unfold rootK; rw [List.getElem?_eq_getElem hj, ej]; rfl
    omega
end Go.Proofs.YtmkjalpgeljnkaaDoor
