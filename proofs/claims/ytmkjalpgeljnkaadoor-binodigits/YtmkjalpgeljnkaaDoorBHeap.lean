/-
  Plain facts of heaps of trees: melding rank by rank, the trees below a root, the digits of a size.
-/
import Derived.Test.YtmkjalpgeljnkaaDoorBMath
namespace Go.Proofs.YtmkjalpgeljnkaaDoor

/-- A tree and its rank. -/
abbrev TrL := Nat × List (Int × Int)
def itemsH (h : List TrL) : List (Int × Int) := h.flatMap (·.2)
theorem itemsH_nil : itemsH [] = [] := rfl
theorem itemsH_cons (t : TrL) (h : List TrL) : itemsH (t :: h) = t.2 ++ itemsH h := by simp [itemsH]
theorem itemsH_append (a b : List TrL) : itemsH (a ++ b) = itemsH a ++ itemsH b := by simp [itemsH]
/-- No tree, or one of rank r. -/
def TE (r : Nat) (l : List (Int × Int)) : Prop := l = [] ∨ IsT r l
/-- Trees of rising ranks. -/
structure IsH (h : List TrL) : Prop where
  trees : ∀ t ∈ h, IsT t.1 t.2
  rise : h.Pairwise (fun a b => a.1 < b.1)
theorem IsH.nil : IsH [] := ⟨fun _ h => (by cases h), List.Pairwise.nil⟩
theorem IsH.tail {t : TrL} {h : List TrL} (H : IsH (t :: h)) : IsH h := ⟨fun u hu => H.trees u (List.mem_cons_of_mem _ hu), (List.pairwise_cons.1 H.rise).2⟩
theorem IsH.one {r : Nat} {l : List (Int × Int)} (h : IsT r l) : IsH [(r, l)] := ⟨fun t ht => by rw [List.mem_singleton.1 ht]; exact h, List.pairwise_singleton _ _⟩

def optL (l : List (Int × Int)) : List (List (Int × Int)) := if l = [] then [] else [l]
/-- Of a rank: a tree carried, one of a, one of b, as far as there are such. -/
def pickL (c x y : List (Int × Int)) : List (List (Int × Int)) := optL c ++ optL x ++ optL y
/-- What is in the heap then. -/
def outD : List (List (Int × Int)) → List (Int × Int)
  | [a] => a
  | [a, _, _] => a
  | _ => []
/-- What is carried. -/
def carD : List (List (Int × Int)) → List (Int × Int)
  | [a, b] => linkL a b
  | [_, a, b] => linkL a b
  | _ => []
def putR (r : Nat) (l : List (Int × Int)) : List TrL := if l = [] then [] else [(r, l)]
/-- Melded, from rank r on, n ranks. -/
def meldTo (x y : Nat → List (Int × Int)) : Nat → Nat → List (Int × Int) → List TrL
  | 0, _, _ => []
  | n + 1, r, c => putR r (outD (pickL c (x r) (y r))) ++ meldTo x y n (r + 1) (carD (pickL c (x r) (y r)))
/-- What is carried behind the last of n ranks. -/
def carTo (x y : Nat → List (Int × Int)) : Nat → Nat → List (Int × Int) → List (Int × Int)
  | 0, _, c => c
  | n + 1, r, c => carTo x y n (r + 1) (carD (pickL c (x r) (y r)))
def catTo (x : Nat → List (Int × Int)) : Nat → Nat → List (Int × Int)
  | 0, _ => []
  | n + 1, r => x r ++ catTo x n (r + 1)

theorem pick_step {r : Nat} {c x y : List (Int × Int)} (hc : TE r c) (hx : TE r x) (hy : TE r y) :
    TE r (outD (pickL c x y)) ∧ TE (r + 1) (carD (pickL c x y)) ∧ (outD (pickL c x y) ++ carD (pickL c x y)).Perm (c ++ (x ++ y)) := by
  rcases hc with rfl | hc
  · rcases hx with rfl | hx
    · rcases hy with rfl | hy
      · simp [pickL, optL, outD, carD, TE]
      · have := hy.ne
        simp [pickL, optL, outD, carD, TE, this, hy]
    · have hxn := hx.ne
      rcases hy with rfl | hy
      · simp [pickL, optL, outD, carD, TE, hxn, hx]
      · have hyn := hy.ne
        simp only [pickL, optL, outD, carD, TE, hxn, hyn, if_true, if_false, List.nil_append, List.cons_append]
        exact ⟨Or.inl trivial, Or.inr (hx.link hy), linkL_perm x y⟩
  · have hcn := hc.ne
    rcases hx with rfl | hx
    · rcases hy with rfl | hy
      · simp [pickL, optL, outD, carD, TE, hcn, hc]
      · have hyn := hy.ne
        simp only [pickL, optL, outD, carD, TE, hcn, hyn, if_true, if_false, List.nil_append, List.append_nil, List.singleton_append]
        exact ⟨Or.inl trivial, Or.inr (hc.link hy), linkL_perm c y⟩
    · have hxn := hx.ne
      rcases hy with rfl | hy
      · simp only [pickL, optL, outD, carD, TE, hcn, hxn, if_true, if_false, List.append_nil, List.singleton_append, List.nil_append]
        exact ⟨Or.inl trivial, Or.inr (hc.link hx), linkL_perm c x⟩
      · have hyn := hy.ne
        simp only [pickL, optL, outD, carD, TE, hcn, hxn, hyn, if_false, List.cons_append]
        exact ⟨Or.inr hc, Or.inr (hx.link hy), List.Perm.append_left _ (linkL_perm x y)⟩
theorem putR_items (r : Nat) (l : List (Int × Int)) : itemsH (putR r l) = l := by
  unfold putR
  split
  · rename_i h; rw [h]; rfl
  · simp [itemsH]
theorem putR_mem {r : Nat} {l : List (Int × Int)} {t : TrL} (h : t ∈ putR r l) : t = (r, l) ∧ l ≠ [] := by
  unfold putR at h
  split at h
  · cases h
  · rename_i q; exact ⟨List.mem_singleton.1 h, q⟩
theorem meldTo_spec (x y : Nat → List (Int × Int)) (hx : ∀ j, TE j (x j)) (hy : ∀ j, TE j (y j)) : ∀ (n r : Nat) (c : List (Int × Int)), TE r c →
    (∀ t ∈ meldTo x y n r c, IsT t.1 t.2 ∧ r ≤ t.1) ∧ (meldTo x y n r c).Pairwise (fun a b => a.1 < b.1) ∧ TE (r + n) (carTo x y n r c) ∧ (itemsH (meldTo x y n r c) ++ carTo x y n r c).Perm (c ++ (catTo x n r ++ catTo y n r))
  | 0, r, c, hc => ⟨fun _ h => (by cases h), List.Pairwise.nil, hc, by simp [meldTo, carTo, catTo, itemsH]⟩
  | n + 1, r, c, hc => by
    obtain ⟨h1, h2, h3⟩ := pick_step hc (hx r) (hy r)
    obtain ⟨i1, i2, i3, i4⟩ := meldTo_spec x y hx hy n (r + 1) _ h2
    refine ⟨?_, ?_, ?_, ?_⟩
    · intro t ht
      rcases List.mem_append.1 ht with q | q
      · obtain ⟨rfl, hne⟩ := putR_mem q
        rcases h1 with e | h1
        · exact absurd e hne
        · exact ⟨h1, Nat.le_refl _⟩
      · have := i1 t q; exact ⟨this.1, by omega⟩
    · show (putR r _ ++ meldTo x y n (r + 1) _).Pairwise _
      rw [List.pairwise_append]
      refine ⟨?_, i2, fun a ha b hb => ?_⟩
      · unfold putR; split <;> simp
      · obtain ⟨rfl, _⟩ := putR_mem ha
        have := (i1 b hb).2
        show r < b.1
        omega
    · show TE (r + (n + 1)) (carTo x y n (r + 1) _)
      rw [show r + (n + 1) = r + 1 + n by omega]; exact i3
    · show (itemsH (putR r _ ++ meldTo x y n (r + 1) _) ++ carTo x y n (r + 1) _).Perm (c ++ ((x r ++ catTo x n (r + 1)) ++ (y r ++ catTo y n (r + 1))))
      rw [itemsH_append, putR_items, List.append_assoc]
      refine (List.Perm.append_left _ i4).trans ?_
      rw [← List.append_assoc]
      refine (List.Perm.append_right _ h3).trans ?_
      simp only [List.append_assoc]
      refine List.Perm.append_left _ (List.Perm.append_left _ ?_)
      rw [← List.append_assoc, ← List.append_assoc]
      exact List.Perm.append_right _ List.perm_append_comm
/-- The tree of a rank, or none. -/
def digitH (h : List TrL) (r : Nat) : List (Int × Int) := ((h.find? (fun t => t.1 == r)).map (·.2)).getD []
theorem digitH_nil (r : Nat) : digitH [] r = [] := rfl
theorem digitH_eq (l : List (Int × Int)) (h : List TrL) (r : Nat) : digitH ((r, l) :: h) r = l := by simp [digitH]
theorem digitH_ne {q r : Nat} (l : List (Int × Int)) (h : List TrL) (e : q ≠ r) : digitH ((q, l) :: h) r = digitH h r := by simp [digitH, e]
theorem digitH_te {h : List TrL} (H : IsH h) (r : Nat) : TE r (digitH h r) := by
  induction h with
  | nil => exact Or.inl rfl
  | cons t h ih =>
    obtain ⟨q, l⟩ := t
    by_cases e : q = r
    · subst e; rw [digitH_eq]; exact Or.inr (H.trees (q, l) (List.mem_cons_self))
    · rw [digitH_ne l h e]; exact ih H.tail
theorem digitH_none {h : List TrL} {r : Nat} (H : ∀ t ∈ h, t.1 ≠ r) : digitH h r = [] := by
  induction h with
  | nil => rfl
  | cons t h ih =>
    obtain ⟨q, l⟩ := t
    rw [digitH_ne l h (H (q, l) List.mem_cons_self)]
    exact ih fun u hu => H u (List.mem_cons_of_mem _ hu)
theorem catTo_congr {x y : Nat → List (Int × Int)} : ∀ (n r : Nat), (∀ j, r ≤ j → x j = y j) → catTo x n r = catTo y n r
  | 0, _, _ => rfl
  | n + 1, r, h => by simp only [catTo]; rw [h r (Nat.le_refl _), catTo_congr n (r + 1) fun j hj => h j (by omega)]
theorem catTo_digit : ∀ (n r : Nat) (h : List TrL), h.Pairwise (fun a b => a.1 < b.1) → (∀ t ∈ h, r ≤ t.1 ∧ t.1 < r + n) → catTo (digitH h) n r = itemsH h
  | 0, r, h, _, hr => by
    cases h with
    | nil => rfl
    | cons t h => have := hr t List.mem_cons_self; omega
  | n + 1, r, h, hp, hr => by
    simp only [catTo]
    cases h with
    | nil =>
      rw [digitH_nil, List.nil_append, catTo_digit n (r + 1) [] List.Pairwise.nil (fun _ h => by cases h)]
    | cons t h =>
      obtain ⟨q, l⟩ := t
      have hq := hr (q, l) List.mem_cons_self
      have hp2 := List.pairwise_cons.1 hp
      by_cases e : q = r
      · subst e
        rw [digitH_eq, itemsH_cons, catTo_congr n (q + 1) (y := digitH h) fun j hj => digitH_ne l h (by omega)]
        rw [catTo_digit n (q + 1) h hp2.2 fun t ht => ⟨by have := hp2.1 t ht; simp only at this; omega, by have := (hr t (List.mem_cons_of_mem _ ht)).2; omega⟩]
      · have hlt : r < q := by have := hq.1; simp only at this; omega
        rw [digitH_none fun t ht => by
          rcases List.mem_cons.1 ht with rfl | m
          · exact e
          · have := hp2.1 t m; simp only at this; omega]
        rw [List.nil_append, catTo_digit n (r + 1) ((q, l) :: h) hp fun t ht => ⟨by
          rcases List.mem_cons.1 ht with rfl | m
          · exact hlt
          · have := hp2.1 t m; simp only at this; omega, by have := (hr t ht).2; omega⟩]
/-- Two heaps melded. -/
def meldH (a b : List TrL) : List TrL := meldTo (digitH a) (digitH b) 8 0 []
theorem rank_le {r k : Nat} {l : List (Int × Int)} (h : IsT r l) {m : Nat} (hl : l.length ≤ m) (hm : m < 2 ^ (k + 1)) : r ≤ k := by
  rcases Nat.lt_or_ge k r with q | q
  · have := Nat.pow_le_pow_right (show 0 < 2 by omega) q
    have h2 := h.len
    omega
  · exact q
theorem mem_items_len {h : List TrL} {t : TrL} (ht : t ∈ h) : t.2.length ≤ (itemsH h).length := by
  induction h with
  | nil => cases ht
  | cons u h ih =>
    rw [itemsH_cons, List.length_append]
    rcases List.mem_cons.1 ht with rfl | m
    · omega
    · have := ih m; omega
theorem meldH_good {a b : List TrL} (ha : IsH a) (hb : IsH b) (h : (itemsH a).length + (itemsH b).length ≤ 120) :
    IsH (meldH a b) ∧ (itemsH (meldH a b)).Perm (itemsH a ++ itemsH b) := by
  have key : ∀ {a : List TrL}, IsH a → (itemsH a).length ≤ 120 → ∀ t ∈ a, 0 ≤ t.1 ∧ t.1 < 0 + 8 := fun {a} ha hl t ht => by
    have h1 := rank_le (k := 6) (ha.trees t ht) (mem_items_len ht) (Nat.lt_of_le_of_lt hl (by decide))
    omega
  obtain ⟨h1, h2, h3, h4⟩ := meldTo_spec (digitH a) (digitH b) (digitH_te ha) (digitH_te hb) 8 0 [] (Or.inl rfl)
  rw [catTo_digit 8 0 a ha.rise (key ha (by omega)), catTo_digit 8 0 b hb.rise (key hb (by omega))] at h4
  have hc : carTo (digitH a) (digitH b) 8 0 [] = [] := by
    rcases h3 with e | h3
    · exact e
    · have e := h4.length_eq
      have l := h3.len
      simp only [List.length_append, List.nil_append] at e
      rw [l] at e
      simp at e
      omega
  rw [hc, List.append_nil, List.nil_append] at h4
  exact ⟨⟨fun t ht => (h1 t ht).1, h2⟩, h4⟩
/-- The trees below a root, by rising ranks. -/
def partsL (r : Nat) (l : List (Int × Int)) : Nat → List TrL
  | 0 => []
  | i + 1 => partsL r l i ++ [(i, (l.drop (1 + (2 ^ r - 2 ^ (i + 1)))).take (2 ^ i))]
theorem partsL_rank (r : Nat) (l : List (Int × Int)) : ∀ i, ∀ t ∈ partsL r l i, t.1 < i
  | 0, t, h => by cases h
  | i + 1, t, h => by
    rcases List.mem_append.1 h with q | q
    · have := partsL_rank r l i t q; omega
    · rw [List.mem_singleton.1 q]; exact Nat.lt_succ_self _
theorem partsL_isH {r : Nat} {l : List (Int × Int)} (h : IsT r l) : ∀ i, i ≤ r → IsH (partsL r l i)
  | 0, _ => IsH.nil
  | i + 1, hi => by
    have ih := partsL_isH h i (by omega)
    refine ⟨fun t ht => ?_, ?_⟩
    · rcases List.mem_append.1 ht with q | q
      · exact ih.trees t q
      · rw [List.mem_singleton.1 q]; exact h.sub (by omega)
    · show (partsL r l i ++ [_]).Pairwise _
      rw [List.pairwise_append]
      exact ⟨ih.rise, List.pairwise_singleton _ _, fun a ha b hb => by rw [List.mem_singleton.1 hb]; exact partsL_rank r l i a ha⟩
theorem partsL_items {r : Nat} {l : List (Int × Int)} (h : l.length = 2 ^ r) : ∀ i, i ≤ r → (itemsH (partsL r l i)).Perm (l.drop (1 + (2 ^ r - 2 ^ i)))
  | 0, _ => by
    have hp := two_pos r
    rw [List.drop_eq_nil_of_le (by rw [h]; simp; omega)]
    exact List.Perm.refl _
  | i + 1, hi => by
    have ih := partsL_items h i (by omega)
    have hs : 2 ^ (i + 1) = 2 ^ i + 2 ^ i := by rw [Nat.pow_succ]; omega
    have hle : 2 ^ (i + 1) ≤ 2 ^ r := Nat.pow_le_pow_right (by omega) hi
    show (itemsH (partsL r l i ++ [_])).Perm _
    rw [itemsH_append]
    refine (List.Perm.append_right _ ih).trans (List.perm_append_comm.trans ?_)
    have e : l.drop (1 + (2 ^ r - 2 ^ i)) = (l.drop (1 + (2 ^ r - 2 ^ (i + 1)))).drop (2 ^ i) := by
      rw [List.drop_drop]
      congr 1
      rw [hs] at hle ⊢
      generalize 2 ^ r = A at hle ⊢
      generalize 2 ^ i = B at hle ⊢
      omega
    rw [e]
    simp only [itemsH, List.flatMap_cons, List.flatMap_nil, List.append_nil]
    rw [List.take_append_drop]
theorem parts_all {r : Nat} {x : Int × Int} {l : List (Int × Int)} (h : IsT r (x :: l)) : (itemsH (partsL r (x :: l) r)).Perm l := by
  have := partsL_items h.len r (Nat.le_refl _)
  rw [Nat.sub_self] at this
  exact this
end Go.Proofs.YtmkjalpgeljnkaaDoor
