/-
  Texts that the proof leans on, packed: RefB7, BGood, BPop, RefB9, DLeast, DDig, DBelow.
-/
import Derived.Test.YtmkjalpgeljnkaaDoorPack2

/-
  The document's heaps of trees: what is wrong with one.
-/
namespace Go.Proofs.YtmkjalpgeljnkaaDoor
open Go.RowKit Go.Sort Go.Proofs

/-- What is wrong with ranks and sizes, tree by tree. -/
def rankE : Int → List (Int × List (Int × Int)) → Nat
  | _, [] => 0
  | last, (r, l) :: h => if r < 0 ∨ 5 < r then 1 else if r ≤ last ∨ l.length ≠ 2 ^ r.toNat then 3 else rankE r h
def outE (h : List (Int × List (Int × Int))) : Nat := if h.any (fun t => t.2.any outB) then 1 else 0
/-- No key is less than that of the root above it. -/
def keysB (t : Int × List (Int × Int)) : Bool := (List.range (t.2.length - 1)).all fun k => decide (keyL t.2 (aboveK t.1.toNat 0 1 (k + 1)) ≤ keyL t.2 (k + 1))
def keysE (h : List (Int × List (Int × Int))) : Nat := if h.all keysB then 0 else 3
/-- What is wrong with a heap of trees. -/
def binoE (h : List (Int × List (Int × Int))) : Nat := if rankE (-1) h = 0 then (if outE h = 0 then (if 60 < sizeZ h then 4 else keysE h) else outE h) else rankE (-1) h
theorem rankE_cons {last r : Int} {l : List (Int × Int)} {h : List (Int × List (Int × Int))} (h1 : ¬ (r < 0 ∨ 5 < r)) (h2 : ¬ (r ≤ last ∨ l.length ≠ 2 ^ r.toNat)) : rankE last ((r, l) :: h) = rankE r h := by simp only [rankE]; rw [if_neg h1, if_neg h2]
theorem drop_get {h : List (Int × List (Int × Int))} {i : Nat} {x : Int × List (Int × Int)} (hx : h[i]? = some x) : h.drop i = x :: h.drop (i + 1) := by
  obtain ⟨hi, e⟩ := List.getElem?_eq_some_iff.1 hx
  rw [List.drop_eq_getElem_cons hi, e]
/-- What the first loop knows. -/
structure Ranks (h : List (Int × List (Int × Int))) (i : Nat) (last : Int) (all : Nat) : Prop where
  eq : rankE (-1) h = rankE last (h.drop i)
  low : (i : Int) - 1 ≤ last
  high : last ≤ 5
  sum : all = sizeZ (h.take i)
  le : all ≤ 32 * i
  each : ∀ t ∈ h.take i, 0 ≤ t.1 ∧ t.1 ≤ 5 ∧ t.2.length = 2 ^ t.1.toNat
theorem Ranks.start (h : List (Int × List (Int × Int))) : Ranks h 0 (-1) 0 := ⟨by simp, by omega, by omega, by simp [sizeZ], by omega, fun t ht => by simp at ht⟩
theorem Ranks.step {h : List (Int × List (Int × Int))} {i all : Nat} {last r : Int} {l : List (Int × Int)} (H : Ranks h i last all) (hx : h[i]? = some (r, l)) (h1 : ¬ (r < 0 ∨ 5 < r)) (h2 : ¬ (r ≤ last ∨ l.length ≠ 2 ^ r.toNat)) : Ranks h (i + 1) r (all + l.length) := by
  have hl : l.length = 2 ^ r.toNat := by
    rcases Nat.decEq l.length (2 ^ r.toNat) with q | q
    · exact absurd (Or.inr q) h2
    · exact q
  have hle : l.length ≤ 32 := by rw [hl]; exact Nat.pow_le_pow_right (show 0 < 2 by omega) (show r.toNat ≤ 5 by omega)
  have hlow := H.low
  have hall := H.le
  refine ⟨?_, by omega, by omega, ?_, by omega, fun t ht => ?_⟩
  · rw [H.eq, drop_get hx, rankE_cons h1 h2]
  · rw [sizeZ_take_succ hx, H.sum]
  · obtain ⟨hi, e⟩ := List.getElem?_eq_some_iff.1 hx
    rw [List.take_succ_eq_append_getElem hi, e] at ht
    rcases List.mem_append.1 ht with q | q
    · exact H.each t q
    · rw [List.mem_singleton.1 q]; exact ⟨by omega, by omega, hl⟩
theorem Ranks.bad1 {h : List (Int × List (Int × Int))} {i all : Nat} {last r : Int} {l : List (Int × Int)} (H : Ranks h i last all) (hx : h[i]? = some (r, l)) (h1 : r < 0 ∨ 5 < r) : binoE h = 1 := by
  have e : rankE (-1) h = 1 := by rw [H.eq, drop_get hx]; simp only [rankE]; rw [if_pos h1]
  unfold binoE; rw [e]; rfl
theorem Ranks.bad3 {h : List (Int × List (Int × Int))} {i all : Nat} {last r : Int} {l : List (Int × Int)} (H : Ranks h i last all) (hx : h[i]? = some (r, l)) (h1 : ¬ (r < 0 ∨ 5 < r)) (h2 : r ≤ last ∨ l.length ≠ 2 ^ r.toNat) : binoE h = 3 := by
  have e : rankE (-1) h = 3 := by rw [H.eq, drop_get hx]; simp only [rankE]; rw [if_neg h1, if_pos h2]
  unfold binoE; rw [e]; rfl
theorem Ranks.ok {h : List (Int × List (Int × Int))} {all : Nat} {last : Int} (H : Ranks h h.length last all) : rankE (-1) h = 0 ∧ all = sizeZ h ∧ h.length ≤ 6 ∧ ∀ t ∈ h, 0 ≤ t.1 ∧ t.1 ≤ 5 ∧ t.2.length = 2 ^ t.1.toNat := by
  have e := H.each
  have a := H.sum
  rw [List.take_of_length_le (Nat.le_refl _)] at e a
  exact ⟨by rw [H.eq, List.drop_length]; rfl, a, by have := H.low; have := H.high; omega, e⟩

theorem outE_bad {h : List (Int × List (Int × Int))} {i : Nat} {r : Int} {l : List (Int × Int)} (h0 : rankE (-1) h = 0) (hx : h[i]? = some (r, l)) (ho : anyOut l.toArray = true) : binoE h = 1 := by
  have e : outE h = 1 := by
    unfold outE
    rw [if_pos]
    rw [List.any_eq_true]
    exact ⟨(r, l), List.mem_of_getElem? hx, by unfold anyOut at ho; simpa using ho⟩
  unfold binoE; rw [if_pos h0, e]; rfl
theorem outE_good {h : List (Int × List (Int × Int))} (ho : ∀ t ∈ h, anyOut t.2.toArray = false) : outE h = 0 := by
  unfold outE
  rw [if_neg]
  rw [List.any_eq_true]
  rintro ⟨t, ht, e⟩
  have := ho t ht
  unfold anyOut at this
  simp only [List.any_eq_true] at e
  obtain ⟨x, hx, e⟩ := e
  rw [List.any_eq_false] at this
  exact this x (by simpa using hx) e
theorem keysB_bad {r : Int} {l : List (Int × Int)} {k : Nat} (h1 : 1 ≤ k) (h2 : k < l.length) (h : keyL l k < keyL l (aboveK r.toNat 0 1 k)) : keysB (r, l) = false := by
  cases e : keysB (r, l)
  · rfl
  · unfold keysB at e
    rw [List.all_eq_true] at e
    have := of_decide_eq_true (e (k - 1) (List.mem_range.2 (by simp only; omega)))
    rw [show k - 1 + 1 = k by omega] at this
    simp only at this
    omega
theorem keysB_good {r : Int} {l : List (Int × Int)} (h : ∀ k, 1 ≤ k → k < l.length → ¬ keyL l k < keyL l (aboveK r.toNat 0 1 k)) : keysB (r, l) = true := by
  unfold keysB
  rw [List.all_eq_true]
  intro k hk
  have := h (k + 1) (by omega) (by have := List.mem_range.1 hk; simp only at this; omega)
  exact decide_eq_true (by simp only; omega)
theorem keysE_bad {h : List (Int × List (Int × Int))} {i : Nat} {t : Int × List (Int × Int)} (h0 : rankE (-1) h = 0) (h1 : outE h = 0) (h2 : ¬ 60 < sizeZ h) (hx : h[i]? = some t) (hk : keysB t = false) : binoE h = 3 := by
  have e : keysE h = 3 := by
    unfold keysE
    rw [if_neg]
    rw [List.all_eq_true]
    intro q
    rw [q t (List.mem_of_getElem? hx)] at hk
    cases hk
  unfold binoE; rw [if_pos h0, if_pos h1, if_neg h2, e]
theorem binoE_good {h : List (Int × List (Int × Int))} (h0 : rankE (-1) h = 0) (h1 : outE h = 0) (h2 : ¬ 60 < sizeZ h) (hk : ∀ t ∈ h, keysB t = true) : binoE h = 0 := by
  unfold binoE; rw [if_pos h0, if_pos h1, if_neg h2]; unfold keysE; rw [if_pos (List.all_eq_true.2 hk)]
theorem keyL_arr {l : List (Int × Int)} {k : Nat} (h : k < l.length) : l.toArray[k]!.1 = keyL l k := by
  rw [getElem!_pos _ k (by simpa using h)]
  unfold keyL
  rw [List.getElem?_eq_getElem h]
  simp
theorem aboveK_lt : ∀ (r root from_ k : Nat), root < k → from_ ≤ k → aboveK r root from_ k < k ∨ aboveK r root from_ k = root
  | 0, _, _, _, _, _ => Or.inr rfl
  | r + 1, root, from_, k, h1, h2 => by
    simp only [aboveK]
    by_cases q : from_ + 2 ^ r ≤ k
    · rw [if_pos q]; exact aboveK_lt r root _ k h1 q
    · rw [if_neg q]
      by_cases e : k = from_
      · rw [if_pos e]; exact Or.inr rfl
      · rw [if_neg e]
        rcases aboveK_lt r from_ (from_ + 1) k (by omega) (by omega) with a | a
        · exact Or.inl a
        · rw [a]; exact Or.inl (by omega)
theorem aboveK_small (r : Nat) {k : Nat} (h : 1 ≤ k) : aboveK r 0 1 k < k := by
  rcases aboveK_lt r 0 1 k h h with a | a
  · exact a
  · omega
end Go.Proofs.YtmkjalpgeljnkaaDoor

/-
  Plain facts of heaps of trees: which ones are right.
-/
namespace Go.Proofs.YtmkjalpgeljnkaaDoor
open Go.RowKit Go.Sort Go.Proofs

/-- A heap of trees that is right. -/
structure OkH (g : List TrL) : Prop where
  isH : IsH g
  rank : ∀ t ∈ g, t.1 ≤ 5
  inr : ∀ x ∈ itemsH g, outB x = false
  size : (itemsH g).length ≤ 60
theorem rankE_zero : ∀ {h : List (Int × List (Int × Int))} {last : Int}, rankE last h = 0 → (∀ t ∈ h, last < t.1 ∧ 0 ≤ t.1 ∧ t.1 ≤ 5 ∧ t.2.length = 2 ^ t.1.toNat) ∧ h.Pairwise (fun a b => a.1 < b.1)
  | [], _, _ => ⟨fun _ h => (by cases h), List.Pairwise.nil⟩
  | (r, l) :: h, last, e => by
    simp only [rankE] at e
    by_cases h1 : r < 0 ∨ 5 < r
    · rw [if_pos h1] at e; cases e
    · rw [if_neg h1] at e
      by_cases h2 : r ≤ last ∨ l.length ≠ 2 ^ r.toNat
      · rw [if_pos h2] at e; cases e
      · rw [if_neg h2] at e
        obtain ⟨i1, i2⟩ := rankE_zero e
        have hl : l.length = 2 ^ r.toNat := by
          rcases Nat.decEq l.length (2 ^ r.toNat) with q | q
          · exact absurd (Or.inr q) h2
          · exact q
        refine ⟨fun t ht => ?_, List.pairwise_cons.2 ⟨fun t ht => (i1 t ht).1, i2⟩⟩
        rcases List.mem_cons.1 ht with rfl | m
        · exact ⟨by simp only; omega, by simp only; omega, by simp only; omega, hl⟩
        · have := i1 t m
          exact ⟨by omega, this.2.1, this.2.2.1, this.2.2.2⟩
theorem rankE_good : ∀ {g : List TrL} {last : Int}, (∀ t ∈ g, last < (t.1 : Int) ∧ t.1 ≤ 5 ∧ t.2.length = 2 ^ t.1) → g.Pairwise (fun a b => a.1 < b.1) → rankE last (zH g) = 0
  | [], _, _, _ => rfl
  | (r, l) :: g, last, h, hp => by
    have h0 := h (r, l) List.mem_cons_self
    simp only at h0
    have e : zH ((r, l) :: g) = ((r : Int), l) :: zH g := rfl
    rw [e, rankE_cons (by omega) (fun c => c.elim (by omega) (fun c => c h0.2.2))]
    have hp2 := List.pairwise_cons.1 hp
    exact rankE_good (fun t ht => ⟨by have := hp2.1 t ht; simp only at this; omega, (h t (List.mem_cons_of_mem _ ht)).2⟩) hp2.2
theorem sizeZ_zH (g : List TrL) : sizeZ (zH g) = (itemsH g).length := by
  unfold sizeZ zH itemsH
  rw [List.map_map, List.length_flatMap]
  rfl
theorem zH_back {h : List (Int × List (Int × Int))} (hh : ∀ t ∈ h, 0 ≤ t.1) : h = zH (h.map fun t => (t.1.toNat, t.2)) := by
  unfold zH
  rw [List.map_map]
  have : h.map id = h.map ((fun t : TrL => ((t.1 : Int), t.2)) ∘ fun t => (t.1.toNat, t.2)) := List.map_congr_left fun t ht => by
    have := hh t ht
    show t = ((t.1.toNat : Int), t.2)
    rw [Int.toNat_of_nonneg this]
  rw [List.map_id] at this
  exact this
theorem keysB_kids {r : Nat} {l : List (Int × Int)} (hl : l.length = 2 ^ r) (h : keysB ((r : Int), l) = true) : IsT r l := by
  refine ⟨hl, Kids.of r 0 1 fun k h1 h2 => ?_⟩
  unfold keysB at h
  rw [List.all_eq_true] at h
  have := of_decide_eq_true (h (k - 1) (List.mem_range.2 (by simp only; rw [hl]; omega)))
  rw [show k - 1 + 1 = k by omega] at this
  exact this
theorem kids_keysB {r : Nat} {l : List (Int × Int)} (h : IsT r l) : keysB ((r : Int), l) = true := by
  refine keysB_good fun k h1 h2 => ?_
  have := Kids.above r 0 1 h.kids k h1 (by have := h.len; omega)
  show ¬ keyL l k < keyL l (aboveK r 0 1 k)
  omega
theorem mem_itemsH {g : List TrL} {x : Int × Int} : x ∈ itemsH g ↔ ∃ t ∈ g, x ∈ t.2 := by simp [itemsH]
theorem binoE_zero {h : List (Int × List (Int × Int))} (e : binoE h = 0) : ∃ g, h = zH g ∧ OkH g := by
  unfold binoE at e
  by_cases h0 : rankE (-1) h = 0
  · rw [if_pos h0] at e
    by_cases h1 : outE h = 0
    · rw [if_pos h1] at e
      by_cases h2 : 60 < sizeZ h
      · rw [if_pos h2] at e; cases e
      · rw [if_neg h2] at e
        have h3 : h.all keysB = true := by
          unfold keysE at e
          cases q : h.all keysB
          · rw [q] at e; simp at e
          · rfl
        obtain ⟨r1, r2⟩ := rankE_zero h0
        have hz := zH_back fun t ht => (r1 t ht).2.1
        refine ⟨h.map fun t => (t.1.toNat, t.2), hz, ⟨fun t ht => ?_, ?_⟩, fun t ht => ?_, fun x hx => ?_, ?_⟩
        · obtain ⟨u, hu, rfl⟩ := List.mem_map.1 ht
          have hk := List.all_eq_true.1 h3 u hu
          obtain ⟨a, b, c, d⟩ := r1 u hu
          refine keysB_kids d ?_
          have eu : ((u.1.toNat : Int), u.2) = u := by rw [Int.toNat_of_nonneg b]
          show keysB ((u.1.toNat : Int), u.2) = true
          rw [eu]; exact hk
        · rw [List.pairwise_map]
          refine List.Pairwise.imp_of_mem (fun {a b} ha hb q => ?_) r2
          have := (r1 a ha).2.1
          have := (r1 b hb).2.1
          show a.1.toNat < b.1.toNat
          omega
        · obtain ⟨u, hu, rfl⟩ := List.mem_map.1 ht
          have := r1 u hu
          show u.1.toNat ≤ 5
          omega
        · obtain ⟨t, ht, hm⟩ := mem_itemsH.1 hx
          obtain ⟨u, hu, rfl⟩ := List.mem_map.1 ht
          cases q : outB x
          · rfl
          · exfalso
            unfold outE at h1
            rw [if_pos (List.any_eq_true.2 ⟨u, hu, List.any_eq_true.2 ⟨x, hm, q⟩⟩)] at h1
            cases h1
        · rw [← sizeZ_zH, ← hz]; omega
    · rw [if_neg h1] at e; exact absurd e h1
  · rw [if_neg h0] at e; exact absurd e h0
theorem binoE_ok {g : List TrL} (H : OkH g) : binoE (zH g) = 0 := by
  refine binoE_good (rankE_good (fun t ht => ⟨by omega, H.rank t ht, (H.isH.trees t ht).len⟩) H.isH.rise) (outE_good fun t ht => ?_) (by rw [sizeZ_zH]; have := H.size; omega) fun t ht => ?_
  · unfold zH at ht
    obtain ⟨u, hu, rfl⟩ := List.mem_map.1 ht
    unfold anyOut
    rw [List.any_eq_false]
    intro x hx
    rw [H.inr x (mem_itemsH.2 ⟨u, hu, by simpa using hx⟩)]
    simp
  · unfold zH at ht
    obtain ⟨u, hu, rfl⟩ := List.mem_map.1 ht
    exact kids_keysB (H.isH.trees u hu)
/-- Melded it is right still. -/
theorem OkH.meld {a b : List TrL} (ha : OkH a) (hb : OkH b) (h : (itemsH a).length + (itemsH b).length ≤ 60) : OkH (meldH a b) ∧ (itemsH (meldH a b)).Perm (itemsH a ++ itemsH b) := by
  obtain ⟨h1, h2⟩ := meldH_good ha.isH hb.isH (by omega)
  have hl : (itemsH (meldH a b)).length ≤ 60 := by rw [h2.length_eq, List.length_append]; exact h
  refine ⟨⟨h1, fun t ht => rank_le (k := 5) (h1.trees t ht) (mem_items_len ht) (Nat.lt_of_le_of_lt hl (by decide)), fun x hx => ?_, hl⟩, h2⟩
  rcases List.mem_append.1 (h2.mem_iff.1 hx) with q | q
  · exact ha.inr x q
  · exact hb.inr x q
end Go.Proofs.YtmkjalpgeljnkaaDoor

/-
  Plain facts of heaps of trees: taking the least one out.
-/
namespace Go.Proofs.YtmkjalpgeljnkaaDoor
open Go.RowKit Go.Sort Go.Proofs

/-- The key at the root of a heap's i-th tree. -/
def rootK (h : List TrL) (i : Nat) : Int := keyL ((h[i]?.getD (0, [])).2) 0
/-- The first tree with the least root, among the first n. -/
def atTo (h : List TrL) : Nat → Nat
  | 0 => 0
  | n + 1 => if rootK h n < rootK h (atTo h n) then n else atTo h n
theorem atTo_lt (h : List TrL) : ∀ n, 0 < n → atTo h n < n
  | 0, q => absurd q (Nat.lt_irrefl 0)
  | n + 1, _ => by
    unfold atTo
    split
    · omega
    · rcases Nat.eq_zero_or_pos n with q | q
      · subst q; unfold atTo; omega
      · have := atTo_lt h n q; omega
theorem atTo_least (h : List TrL) : ∀ n, ∀ j, j < n → rootK h (atTo h n) ≤ rootK h j
  | 0, j, q => absurd q (Nat.not_lt_zero j)
  | n + 1, j, q => by
    unfold atTo
    by_cases e : rootK h n < rootK h (atTo h n)
    · rw [if_pos e]
      rcases Nat.lt_or_ge j n with a | a
      · have := atTo_least h n j a; omega
      · obtain rfl : j = n := by omega
        exact Int.le_refl _
    · rw [if_neg e]
      rcases Nat.lt_or_ge j n with a | a
      · exact atTo_least h n j a
      · obtain rfl : j = n := by omega
        omega
/-- What is left when a heap's least one is taken out. -/
def popH (h : List TrL) : List TrL :=
  let t := h[atTo h h.length]?.getD (0, [])
  meldH (h.eraseIdx (atTo h h.length)) (partsL t.1 t.2 t.1)
theorem erase_split {α : Type} (h : List α) (i : Nat) {t : α} (e : h[i]? = some t) : h = h.take i ++ t :: h.drop (i + 1) ∧ h.eraseIdx i = h.take i ++ h.drop (i + 1) := by
  obtain ⟨hi, rfl⟩ := List.getElem?_eq_some_iff.1 e
  refine ⟨?_, List.eraseIdx_eq_take_drop_succ h i⟩
  rw [← List.drop_eq_getElem_cons hi, List.take_append_drop]
theorem OkH.pop {h : List TrL} (H : OkH h) (hn : h ≠ []) : ∃ r x l, h[atTo h h.length]? = some (r, x :: l) ∧ OkH (h.eraseIdx (atTo h h.length)) ∧ OkH (partsL r (x :: l) r) ∧
    popH h = meldH (h.eraseIdx (atTo h h.length)) (partsL r (x :: l) r) ∧ OkH (popH h) ∧ (x :: itemsH (popH h)).Perm (itemsH h) ∧ ∀ y ∈ itemsH h, x.1 ≤ y.1 := by
  have hpos : 0 < h.length := List.length_pos_iff.2 hn
  have hat := atTo_lt h h.length hpos
  have hle := atTo_least h h.length
  generalize ea : atTo h h.length = a at hat hle
  obtain ⟨r, m, ht'⟩ : ∃ r m, h[a]? = some (r, m) := ⟨h[a].1, h[a].2, List.getElem?_eq_getElem hat⟩
  have hm : (r, m) ∈ h := List.mem_of_getElem? ht'
  have hT : IsT r m := H.isH.trees _ hm
  obtain ⟨x, l, rfl⟩ := hT.cons
  obtain ⟨hs, he⟩ := erase_split h a ht'
  have hperm : (itemsH h).Perm ((x :: l) ++ itemsH (h.eraseIdx a)) := by
    rw [he]
    conv => lhs; rw [hs]
    rw [itemsH_append, itemsH_cons, itemsH_append]
    refine (List.perm_append_comm_assoc _ _ _).trans ?_
    exact List.Perm.refl _
  have hsub : (h.eraseIdx a).Sublist h := List.eraseIdx_sublist h a
  have hO1 : OkH (h.eraseIdx a) := ⟨⟨fun t q => H.isH.trees t (hsub.subset q), H.isH.rise.sublist hsub⟩, fun t q => H.rank t (hsub.subset q), fun y q => by
      obtain ⟨t, q1, q2⟩ := mem_itemsH.1 q
      exact H.inr y (mem_itemsH.2 ⟨t, hsub.subset q1, q2⟩), by have := hperm.length_eq; have := H.size; simp only [List.length_append] at *; omega⟩
  have hall := parts_all hT
  have hr5 := H.rank _ hm
  have hO2 : OkH (partsL r (x :: l) r) := ⟨partsL_isH hT r (Nat.le_refl _), fun t q => by have := partsL_rank r (x :: l) r t q; simp only at hr5; omega, fun y q => H.inr y (mem_itemsH.2 ⟨_, hm, List.mem_cons_of_mem _ (hall.mem_iff.1 q)⟩), by
      have h1 := hperm.length_eq; have h2 := H.size; have h3 := hall.length_eq; simp only [List.length_append, List.length_cons] at *; omega⟩
  have hpop : popH h = meldH (h.eraseIdx a) (partsL r (x :: l) r) := by
    unfold popH; rw [ea, ht']; rfl
  have hlen : (itemsH (h.eraseIdx a)).length + (itemsH (partsL r (x :: l) r)).length ≤ 60 := by
    have h1 := hperm.length_eq; have h2 := H.size; have h3 := hall.length_eq; simp only [List.length_append, List.length_cons] at *; omega
  obtain ⟨hO3, hp3⟩ := hO1.meld hO2 hlen
  refine ⟨r, x, l, ht', hO1, hO2, hpop, hpop ▸ hO3, ?_, ?_⟩
  · rw [hpop]
    refine (List.Perm.cons x (hp3.trans ((List.Perm.append_left _ hall).trans List.perm_append_comm))).trans ?_
    exact hperm.symm
  · intro y hy
    obtain ⟨⟨q, m'⟩, h1, h2⟩ := mem_itemsH.1 hy
    obtain ⟨j, hj, ej⟩ := List.mem_iff_getElem.1 h1
    have h3 := hle j hj
    have hT' : IsT q m' := H.isH.trees _ h1
    obtain ⟨x', l', rfl⟩ := hT'.cons
    have h4 : x'.1 ≤ y.1 := hT'.least y h2
    have h5 : rootK h a = x.1 := by unfold rootK; rw [ht']; rfl
    have h6 : rootK h j = x'.1 := by unfold rootK; rw [List.getElem?_eq_getElem hj, ej]; rfl
    omega
end Go.Proofs.YtmkjalpgeljnkaaDoor

/-
  The document's heaps of trees: melding two that are right.
-/
namespace Go.Proofs.YtmkjalpgeljnkaaDoor
open Go.RowKit Go.Sort Go.Proofs

theorem IsH.len_le : ∀ {g : List TrL}, IsH g → g.length ≤ (itemsH g).length
  | [], _ => Nat.le_refl _
  | t :: g, H => by
    have h1 := IsH.len_le H.tail
    have h2 := (H.trees t List.mem_cons_self).len
    have h3 := two_pos t.1
    rw [itemsH_cons, List.length_append, List.length_cons]
    omega
theorem OkH.len_le {g : List TrL} (H : OkH g) : g.length ≤ 60 := Nat.le_trans H.isH.len_le H.size
theorem HpF.shape {w0 w : World} {v : Value} {h : List TrL} (H : HpF w0 w v h) : ∃ p c, v = .slice p h.length c := by
  obtain ⟨ts, ⟨p, c, e, _⟩, h2, _⟩ := H
  exact ⟨p, c, by rw [← h2]; exact e⟩
theorem binoMeld_ok (va vb : Value) (h1 h2 : List TrL) (F : Nat → Prop) (w0 w : World) (HA : HpF w0 w va h1) (HB2 : HpF w0 w vb h2) (HW0 : Below w0.heap.size w0 w) (HF0 : ∀ g, F g → w0.heap.size ≤ g) (HFW : ∀ g, F g → g < w.heap.size) (H1 : OkH h1) (H2 : OkH h2) :
    Calls Tryd.prog 11 #[va, vb] w fun e w' => ∃ u, e = .returned u ∧ (∃ os, OwnE ET w' w.heap.size u os ∧ OutAt F w' u.ownBlock os (meldH h1 h2)) ∧ Below w.heap.size w w' := by
  obtain ⟨pa, ca, ea⟩ := HA.shape
  obtain ⟨pb, cb, eb⟩ := HB2.shape
  subst ea; subst eb
  have l1 := H1.len_le
  have l2 := H2.len_le
  exact binoMeld_some pa pb h1.length ca h2.length cb h1 h2 F w0 w (by omega) (by omega) rfl rfl HA HB2 HW0 HF0 HFW H1.isH H2.isH (fun t q => by have := H1.rank t q; omega) (fun t q => by have := H2.rank t q; omega)
end Go.Proofs.YtmkjalpgeljnkaaDoor

/-
  bino.leastRoot: the first tree with the least root.
-/
namespace Go.Proofs.YtmkjalpgeljnkaaDoor
open Go.RowKit Go.Sort Go.Proofs

/-- The heap's trees are there, and none is empty: rank, and where the items lie. -/
theorem HpF.first {w0 w : World} {p : Option Addr} {n cap : Nat} {h : List TrL} (H : HpF w0 w (.slice p n cap) h) (hg : OkH h) {i : Nat} (hi : i < h.length) :
    ∃ r l q c blk off b o, h[i]? = some (r, l) ∧ r ≤ 5 ∧ p = some ⟨blk, off, none⟩ ∧ blk < w.heap.size ∧ w.cell? ⟨blk, off + i * 2, none⟩ = some (.int .i64 (r : Int)) ∧ w.cell? ⟨blk, off + i * 2 + 1, none⟩ = some (.slice q l.length c) ∧ Sl w0 (.slice q l.length c) l.toArray ∧
      q = some ⟨b, o, none⟩ ∧ b < w0.heap.size ∧ 0 < l.length ∧ l.length ≤ 60 ∧ w0.cell? ⟨b, o, none⟩ = some (.int .i64 (rootK h i)) := by
  obtain ⟨r, l, e⟩ : ∃ r l, h[i]? = some (r, l) := ⟨h[i].1, h[i].2, List.getElem?_eq_getElem hi⟩
  have hm : (r, l) ∈ h := List.mem_of_getElem? e
  obtain ⟨blk, off, q, c, e1, hb, c0, c1, hs⟩ := H.tree e
  have hT := hg.isH.trees _ hm
  have hpos : 0 < l.length := by have := hT.len; have h2 := two_pos r; simp only at this; omega
  obtain ⟨p', c', e2, _, h0 | ⟨b, o, rfl, hr⟩⟩ := id hs
  · rw [List.size_toArray] at h0; omega
  · simp only [Value.slice.injEq] at e2
    obtain ⟨rfl, _, rfl⟩ := e2
    refine ⟨r, l, _, c, blk, off, b, o, e, hg.rank _ hm, e1, hb, c0, c1, hs, rfl, hr.1, hpos, Nat.le_trans (mem_items_len hm) hg.size, ?_⟩
    have h1 := (hr.2 0 (by simpa using hpos)).1
    simp only [Nat.zero_mul, Nat.add_zero] at h1
    rw [h1]
    unfold rootK keyL
    rw [e]
    obtain ⟨x, t, rfl⟩ := List.exists_cons_of_ne_nil (List.length_pos_iff.1 hpos)
    rfl

theorem addr_ne {a b o o' : Nat} (h : ¬ a = b) : (⟨a, o, none⟩ : Addr) ≠ ⟨b, o', none⟩ := fun e => h (Addr.mk.inj e).1
/-- A tree in a block of its own. -/
structure TrB (w : World) (blk : Nat) (r : Int) (s : SlV) : Prop where
  lt : blk < w.heap.size
  c0 : w.cell? ⟨blk, 0, none⟩ = some (.int .i64 r)
  c1 : w.cell? ⟨blk, 1, none⟩ = some (.slice s.1 s.2.1 s.2.2)
  f0 : w.frozen? ⟨blk, 0, none⟩ = false
  f1 : w.frozen? ⟨blk, 1, none⟩ = false
theorem TrB.block {w w' : World} {blk : Nat} {r : Int} {s : SlV} (h : TrB w blk r s) (hs : w.heap.size ≤ w'.heap.size) (hb : w'.heap[blk]? = w.heap[blk]?) : TrB w' blk r s :=
  ⟨Nat.lt_of_lt_of_le h.lt hs, (World.cell?_of_block (a := ⟨blk, 0, none⟩) hb).trans h.c0, (World.cell?_of_block (a := ⟨blk, 1, none⟩) hb).trans h.c1, (World.frozen?_of_block (a := ⟨blk, 0, none⟩) hb).trans h.f0, (World.frozen?_of_block (a := ⟨blk, 1, none⟩) hb).trans h.f1⟩
theorem TrB.below {w w' : World} {blk B : Nat} {r : Int} {s : SlV} (h : TrB w blk r s) (hb : Below B w w') (hB : blk < B) : TrB w' blk r s := h.block hb.size (hb.block blk hB)
theorem TrB.kept {w w' : World} {blk : Nat} {row : Option Nat} {r : Int} {s : SlV} (h : TrB w blk r s) (hg : w.grownBy w' row) (hne : some blk ≠ row) : TrB w' blk r s := h.block hg.size (hg.block blk h.lt hne)
theorem TrB.set {w : World} {blk : Nat} {r : Int} {s : SlV} (h : TrB w blk r s) (r' : Int) (s' : SlV) : TrB ((w.setCell ⟨blk, 0, none⟩ (.int .i64 r')).setCell ⟨blk, 1, none⟩ (.slice s'.1 s'.2.1 s'.2.2)) blk r' s' := by
  refine ⟨by rw [size_setCell, size_setCell]; exact h.lt, ?_, ?_, ?_, ?_⟩
  · rw [World.cell?_setCell_other _ _ _ _ (by simp), World.cell?_setCell_same _ _ _ h.c0]
  · exact World.cell?_setCell_same _ _ _ ((World.cell?_setCell_other _ _ _ _ (by simp)).trans h.c1)
  · rw [World.frozen?_setCell, World.frozen?_setCell]; exact h.f0
  · rw [World.frozen?_setCell, World.frozen?_setCell]; exact h.f1
theorem new_trb (w : World) (r : Int) (s : SlV) (T : TypeId) (g : Nat) (hg : g = w.heap.size) : TrB (w.alloc (.cells #[.int .i64 r, .slice s.1 s.2.1 s.2.2] T)) g r s := by
  subst hg
  exact ⟨by simp, by simp, by simp, by simp, by simp⟩

set_option maxHeartbeats 16000000 in
set_option maxRecDepth 4000 in
theorem least_A (p : Option Addr) (n cap : Nat) (h : List TrL) (w0 w : World) (hn0 : 0 < n) (hn : n ≤ 100) (hcap : n ≤ cap) (hone : cap = 1) (HN : Hid (h.length = n)) (HW0 : Hid (Below w0.heap.size w0 w)) (HA : Hid (HpF w0 w (.slice p n cap) h)) (HG : Hid (OkH h)) :
    Calls Tryd.prog 39 #[.slice p n cap] w fun e w' => ∃ (r : Nat) (l : List (Int × Int)) (q : Option Addr) (c : Nat), e = .returned (.agg #[.int .i64 (r : Int), .slice q l.length c]) ∧ h[atTo h n]? = some (r, l) ∧ Sl w0 (.slice q l.length c) l.toArray ∧ Below w.heap.size w w' := by
  subst hone
  obtain rfl : n = 1 := by omega
  obtain ⟨r0, l0, q0, c0, blk, off, b0, o0, e0, hr0, rfl, hblk, t0, t1, hs0, rfl, hb0, hp0, hl0, k0⟩ := HA.out.first HG.out (i := 0) (by rw [HN.out]; exact hn0)
  have k0 := (HW0.out.cell (p := ⟨b0, o0, none⟩) hb0).trans k0
  have hb0 : b0 < w.heap.size := Nat.lt_of_lt_of_le hb0 HW0.out.size
  simp only [Nat.zero_mul, Nat.add_zero] at t0 t1
  obtain ⟨n0, hn0'⟩ : ∃ m, l0.length = m := ⟨_, rfl⟩
  rw [hn0'] at t1 hs0 hp0 hl0
  have HS0 : Hid (Sl w0 (.slice (some ⟨b0, o0, none⟩) n0 c0) l0.toArray) := hs0
  have HL0 : Hid (l0.length = n0) := hn0'
  have HE0 : Hid (h[atTo h 1]? = some (r0, l0)) := by
    show h[atTo h (0 + 1)]? = _
    have : atTo h (0 + 1) = 0 := by have := atTo_lt h 1 (by omega); show atTo h 1 = 0; omega
    rw [this]; exact e0
  have HK0 : Hid (w.cell? ⟨b0, o0, none⟩ = some (.int .i64 (rootK h (atTo h 1)))) := by
    show _ = _
    have : atTo h 1 = 0 := by have := atTo_lt h 1 (by omega); omega
    rw [this]; exact k0
  clear hs0 hn0' e0 k0
  go_enter Tryd.func39, Tryd.ntmps39
  go_wp2
  have T1 : Hid (TrB ((w.alloc (.cells #[.int .i64 0, .slice none 0 0] 37)).alloc (.cells #[.int .i64 (r0 : Int), .slice (some ⟨b0, o0, none⟩) n0 c0] 37)) (w.heap.size + 1) (r0 : Int) (some ⟨b0, o0, none⟩, n0, c0)) := new_trb _ _ (some ⟨b0, o0, none⟩, n0, c0) _ _ (by simp)
  have T0 : Hid (TrB ((w.alloc (.cells #[.int .i64 0, .slice none 0 0] 37)).alloc (.cells #[.int .i64 (r0 : Int), .slice (some ⟨b0, o0, none⟩) n0 c0] 37)) w.heap.size 0 (none, 0, 0)) := (new_trb w 0 (none, 0, 0) _ _ rfl).kept (World.grownBy_alloc _ _ none) (by simp)
  have HB0 : Hid (Below w.heap.size w ((w.alloc (.cells #[.int .i64 0, .slice none 0 0] 37)).alloc (.cells #[.int .i64 (r0 : Int), .slice (some ⟨b0, o0, none⟩) n0 c0] 37))) := ((Below.refl _ _).alloc (Nat.le_refl _) _).alloc (by simp) _
  generalize ((w.alloc (.cells #[.int .i64 0, .slice none 0 0] 37)).alloc (.cells #[.int .i64 (r0 : Int), .slice (some ⟨b0, o0, none⟩) n0 c0] 37)) = wz at T1 T0 HB0 ⊢
  go_loopg [12] 1 (fun gg v12 wr => ∃ (j r ln c b o : Nat) (l : List (Int × Int)), v12 = .int .i64 j ∧ j + 1 ≤ 1 ∧ 1 - (j + 1) ≤ gg ∧ 0 < ln ∧ b < w.heap.size ∧ Hid (l.length = ln) ∧ Hid (h[atTo h (j + 1)]? = some (r, l)) ∧ Hid (Sl w0 (.slice (some ⟨b, o, none⟩) ln c) l.toArray) ∧ Hid (w.cell? ⟨b, o, none⟩ = some (.int .i64 (rootK h (atTo h (j + 1))))) ∧ Hid (TrB wr (w.heap.size + 1) (r : Int) (some ⟨b, o, none⟩, ln, c)) ∧ Hid (TrB wr w.heap.size 0 (none, 0, 0)) ∧ Hid (Below w.heap.size w wr))
  case atStart => exact ⟨0, r0, n0, c0, b0, o0, l0, rfl, by omega, by omega, hp0, hb0, HL0, HE0, HS0, HK0, T1, T0, HB0⟩
  case round =>
    obtain ⟨j, r, ln, c, b, o, l, rfl, hj, hg, hln, hb, HL, HE, HS, HK, T1, T0, HB⟩ := hrel
    have hB : w.heap.size ≤ wr.heap.size := HB.out.size
    have hlw : w.heap.size + 1 < wr.heap.size := T1.out.lt
    by_cases hlt : j + 1 < 1
    · omega
    · obtain rfl : j = 0 := by omega
      have hjn : 0 + 1 = 1 := rfl
      obtain ⟨-, a0, a1, _, _⟩ := T1.out
      obtain ⟨-, d0, d1, f0, f1⟩ := T0.out
      simp only at a1 d1
      have HE' : Hid (h[atTo h 1]? = some (r, l)) := by show _ = _; have := HE.out; rw [hjn] at this; exact this
      clear HE
      go_wp2
      refine bodyPost_ret (by simp [results, Tryd.results39, go_sem, d0, d1]; try rfl) rfl ?_
      exact ⟨r, l, some ⟨b, o, none⟩, c, by rw [HL.out], HE'.out, by rw [HL.out]; exact HS.out, (HB.out.setCell (p := ⟨w.heap.size, 0, none⟩) (Nat.le_refl _) _).setCell (p := ⟨w.heap.size, 1, none⟩) (Nat.le_refl _) _⟩
set_option maxHeartbeats 16000000 in
set_option maxRecDepth 4000 in
theorem least_B (p : Option Addr) (n cap : Nat) (h : List TrL) (w0 w : World) (hn0 : 0 < n) (hn : n ≤ 100) (hone : cap ≠ 1) (HN : Hid (h.length = n)) (HW0 : Hid (Below w0.heap.size w0 w)) (HA : Hid (HpF w0 w (.slice p n cap) h)) (HG : Hid (OkH h)) :
    Calls Tryd.prog 39 #[.slice p n cap] w fun e w' => ∃ (r : Nat) (l : List (Int × Int)) (q : Option Addr) (c : Nat), e = .returned (.agg #[.int .i64 (r : Int), .slice q l.length c]) ∧ h[atTo h n]? = some (r, l) ∧ Sl w0 (.slice q l.length c) l.toArray ∧ Below w.heap.size w w' := by
  have hz1 : (1 : Int) ≤ (n : Int) := by omega
  have hz0 : (0 : Int) < (n : Int) := by omega
  obtain ⟨r0, l0, q0, c0, blk, off, b0, o0, e0, hr0, rfl, hblk, t0, t1, hs0, rfl, hb0, hp0, hl0, k0⟩ := HA.out.first HG.out (i := 0) (by rw [HN.out]; exact hn0)
  have k0 := (HW0.out.cell (p := ⟨b0, o0, none⟩) hb0).trans k0
  have hb0 : b0 < w.heap.size := Nat.lt_of_lt_of_le hb0 HW0.out.size
  simp only [Nat.zero_mul, Nat.add_zero] at t0 t1
  obtain ⟨n0, hn0'⟩ : ∃ m, l0.length = m := ⟨_, rfl⟩
  rw [hn0'] at t1 hs0 hp0 hl0
  have HS0 : Hid (Sl w0 (.slice (some ⟨b0, o0, none⟩) n0 c0) l0.toArray) := hs0
  have HL0 : Hid (l0.length = n0) := hn0'
  have HE0 : Hid (h[atTo h 1]? = some (r0, l0)) := by
    show h[atTo h (0 + 1)]? = _
    have : atTo h (0 + 1) = 0 := by have := atTo_lt h 1 (by omega); show atTo h 1 = 0; omega
    rw [this]; exact e0
  have HK0 : Hid (w.cell? ⟨b0, o0, none⟩ = some (.int .i64 (rootK h (atTo h 1)))) := by
    show _ = _
    have : atTo h 1 = 0 := by have := atTo_lt h 1 (by omega); omega
    rw [this]; exact k0
  clear hs0 hn0' e0 k0
  go_enter Tryd.func39, Tryd.ntmps39
  go_wp2
  have T1 : Hid (TrB ((w.alloc (.cells #[.int .i64 0, .slice none 0 0] 37)).alloc (.cells #[.int .i64 (r0 : Int), .slice (some ⟨b0, o0, none⟩) n0 c0] 37)) (w.heap.size + 1) (r0 : Int) (some ⟨b0, o0, none⟩, n0, c0)) := new_trb _ _ (some ⟨b0, o0, none⟩, n0, c0) _ _ (by simp)
  have T0 : Hid (TrB ((w.alloc (.cells #[.int .i64 0, .slice none 0 0] 37)).alloc (.cells #[.int .i64 (r0 : Int), .slice (some ⟨b0, o0, none⟩) n0 c0] 37)) w.heap.size 0 (none, 0, 0)) := (new_trb w 0 (none, 0, 0) _ _ rfl).kept (World.grownBy_alloc _ _ none) (by simp)
  have HB0 : Hid (Below w.heap.size w ((w.alloc (.cells #[.int .i64 0, .slice none 0 0] 37)).alloc (.cells #[.int .i64 (r0 : Int), .slice (some ⟨b0, o0, none⟩) n0 c0] 37))) := ((Below.refl _ _).alloc (Nat.le_refl _) _).alloc (by simp) _
  generalize ((w.alloc (.cells #[.int .i64 0, .slice none 0 0] 37)).alloc (.cells #[.int .i64 (r0 : Int), .slice (some ⟨b0, o0, none⟩) n0 c0] 37)) = wz at T1 T0 HB0 ⊢
  go_loopg [12] n (fun gg v12 wr => ∃ (j r ln c b o : Nat) (l : List (Int × Int)), v12 = .int .i64 j ∧ j + 1 ≤ n ∧ n - (j + 1) ≤ gg ∧ 0 < ln ∧ b < w.heap.size ∧ Hid (l.length = ln) ∧ Hid (h[atTo h (j + 1)]? = some (r, l)) ∧ Hid (Sl w0 (.slice (some ⟨b, o, none⟩) ln c) l.toArray) ∧ Hid (w.cell? ⟨b, o, none⟩ = some (.int .i64 (rootK h (atTo h (j + 1))))) ∧ Hid (TrB wr (w.heap.size + 1) (r : Int) (some ⟨b, o, none⟩, ln, c)) ∧ Hid (TrB wr w.heap.size 0 (none, 0, 0)) ∧ Hid (Below w.heap.size w wr))
  case atStart => exact ⟨0, r0, n0, c0, b0, o0, l0, rfl, by omega, by omega, hp0, hb0, HL0, HE0, HS0, HK0, T1, T0, HB0⟩
  case round =>
    obtain ⟨j, r, ln, c, b, o, l, rfl, hj, hg, hln, hb, HL, HE, HS, HK, T1, T0, HB⟩ := hrel
    have hB : w.heap.size ≤ wr.heap.size := HB.out.size
    have hlw : w.heap.size + 1 < wr.heap.size := T1.out.lt
    by_cases hlt : j + 1 < n
    · have hjz : (j : Int) < ((n - 1 : Nat) : Int) := by omega
      obtain ⟨r', l', q', c', blk', off', b', o', e', hr', hq', hblk', u0, u1, hs', rfl, hb', hp', hl', k'⟩ := HA.out.first HG.out (i := j + 1) (by rw [HN.out]; exact hlt)
      have k' := (HW0.out.cell (p := ⟨b', o', none⟩) hb').trans k'
      have hb' : b' < w.heap.size := Nat.lt_of_lt_of_le hb' HW0.out.size
      simp only [Option.some.injEq, Addr.mk.injEq] at hq'
      obtain ⟨rfl, rfl, _⟩ := hq'
      obtain ⟨ln', hln'⟩ : ∃ m, l'.length = m := ⟨_, rfl⟩
      rw [hln'] at u1 hs' hp' hl'
      have v0 := (HB.out.cell (p := ⟨blk, off + (j + 1) * 2, none⟩) hblk).trans u0
      have v1 := (HB.out.cell (p := ⟨blk, off + (j + 1) * 2 + 1, none⟩) hblk).trans u1
      rw [show off + (j + 1) * 2 = off + 2 + j * 2 by omega] at v0 v1
      have x0 := (HB.out.cell (p := ⟨b', o', none⟩) hb').trans k'
      have x1 := (HB.out.cell (p := ⟨b, o, none⟩) hb).trans HK.out
      have hbw : b < wr.heap.size := by omega
      have hbw' : b' < wr.heap.size := by omega
      have hblw : blk < wr.heap.size := by omega
      obtain ⟨-, a0, a1, _, _⟩ := T1.out
      simp only at a1
      have hzl : (0 : Int) < (ln : Int) := by omega
      have hzl' : (0 : Int) < (ln' : Int) := by omega
      have HS' : Hid (Sl w0 (.slice (some ⟨b', o', none⟩) ln' c') l'.toArray) := hs'
      have HL' : Hid (l'.length = ln') := hln'
      have HE' : Hid (h[j + 1]? = some (r', l')) := e'
      have HK' : Hid (w.cell? ⟨b', o', none⟩ = some (.int .i64 (rootK h (j + 1)))) := k'
      have HAT : Hid (atTo h (j + 1 + 1) = if rootK h (j + 1) < rootK h (atTo h (j + 1)) then j + 1 else atTo h (j + 1)) := rfl
      clear hs' hln' e' k' u0 u1
      generalize hkn : rootK h (j + 1) = kn at *
      generalize hko : rootK h (atTo h (j + 1)) = ko at *
      have HKN : Hid (rootK h (j + 1) = kn) := hkn
      have HKO : Hid (rootK h (atTo h (j + 1)) = ko) := hko
      clear hkn hko
      by_cases hless : kn < ko
      · have hd : decide (kn < ko) = true := decide_eq_true hless
        have HATE : Hid (atTo h (j + 1 + 1) = j + 1) := by show _ = _; rw [HAT.out, if_pos hless]
        clear HAT
        go_wp2_with fail
        go_quiet (fail)
        have hbq : Below wr.heap.size wr ((wr.alloc (.cells #[.int .i64 (r' : Int), .slice (some ⟨b', o', none⟩) ln' c'] 37)).drewN nq) := below_drewN ((Below.refl _ _).alloc (Nat.le_refl _) _) nq
        have TQ1 : Hid (TrB ((wr.alloc (.cells #[.int .i64 (r' : Int), .slice (some ⟨b', o', none⟩) ln' c'] 37)).drewN nq) (w.heap.size + 1) (r : Int) (some ⟨b, o, none⟩, ln, c)) := T1.out.below hbq hlw
        have TQ0 : Hid (TrB ((wr.alloc (.cells #[.int .i64 (r' : Int), .slice (some ⟨b', o', none⟩) ln' c'] 37)).drewN nq) w.heap.size 0 (none, 0, 0)) := T0.out.below hbq (by omega)
        have HBQ : Hid (Below w.heap.size w ((wr.alloc (.cells #[.int .i64 (r' : Int), .slice (some ⟨b', o', none⟩) ln' c'] 37)).drewN nq)) := HB.out.trans (hbq.mono hB)
        have TN : Hid (TrB ((wr.alloc (.cells #[.int .i64 (r' : Int), .slice (some ⟨b', o', none⟩) ln' c'] 37)).drewN nq) wr.heap.size (r' : Int) (some ⟨b', o', none⟩, ln', c')) := (new_trb wr (r' : Int) (some ⟨b', o', none⟩, ln', c') _ _ rfl).block (Nat.le_refl _) rfl
        clear hbq T1 T0 HB
        generalize ((wr.alloc (.cells #[.int .i64 (r' : Int), .slice (some ⟨b', o', none⟩) ln' c'] 37)).drewN nq) = wq at TQ1 TQ0 HBQ TN ⊢
        obtain ⟨y9, y0, y1, _, _⟩ := TN.out
        obtain ⟨z9, z0, z1, z2, z3⟩ := TQ1.out
        simp only at y1 z1
        go_wp2
        go_roundg (n - (j + 1 + 1))
        case measure => omega
        case rel => exact ⟨j + 1, r', ln', c', b', o', l', by go_num, by omega, Nat.le_refl _, hp', hb', HL', (show _ = _ by rw [HATE.out]; exact HE'.out), HS', (show _ = _ by rw [HATE.out, HKN.out]; exact HK'.out), TQ1.out.set _ (some ⟨b', o', none⟩, ln', c'), TQ0.out.kept (gb_set (World.grownBy.refl _ _) _ _ _ _) (fun e => by have := Option.some.inj e; omega), (HBQ.out.setCell (p := ⟨w.heap.size + 1, 0, none⟩) (by simp) _).setCell (p := ⟨w.heap.size + 1, 1, none⟩) (by simp) _⟩
      · have hd : decide (kn < ko) = false := decide_eq_false hless
        have HATE : Hid (atTo h (j + 1 + 1) = atTo h (j + 1)) := by show _ = _; rw [HAT.out, if_neg hless]
        clear HAT
        go_wp2_with fail
        go_quiet (fail)
        have hbq : Below wr.heap.size wr ((wr.alloc (.cells #[.int .i64 (r' : Int), .slice (some ⟨b', o', none⟩) ln' c'] 37)).drewN nq) := below_drewN ((Below.refl _ _).alloc (Nat.le_refl _) _) nq
        have TQ1 : Hid (TrB ((wr.alloc (.cells #[.int .i64 (r' : Int), .slice (some ⟨b', o', none⟩) ln' c'] 37)).drewN nq) (w.heap.size + 1) (r : Int) (some ⟨b, o, none⟩, ln, c)) := T1.out.below hbq hlw
        have TQ0 : Hid (TrB ((wr.alloc (.cells #[.int .i64 (r' : Int), .slice (some ⟨b', o', none⟩) ln' c'] 37)).drewN nq) w.heap.size 0 (none, 0, 0)) := T0.out.below hbq (by omega)
        have HBQ : Hid (Below w.heap.size w ((wr.alloc (.cells #[.int .i64 (r' : Int), .slice (some ⟨b', o', none⟩) ln' c'] 37)).drewN nq)) := HB.out.trans (hbq.mono hB)
        have TN : Hid (TrB ((wr.alloc (.cells #[.int .i64 (r' : Int), .slice (some ⟨b', o', none⟩) ln' c'] 37)).drewN nq) wr.heap.size (r' : Int) (some ⟨b', o', none⟩, ln', c')) := (new_trb wr (r' : Int) (some ⟨b', o', none⟩, ln', c') _ _ rfl).block (Nat.le_refl _) rfl
        clear hbq T1 T0 HB
        generalize ((wr.alloc (.cells #[.int .i64 (r' : Int), .slice (some ⟨b', o', none⟩) ln' c'] 37)).drewN nq) = wq at TQ1 TQ0 HBQ TN ⊢
        obtain ⟨y9, y0, y1, _, _⟩ := TN.out
        obtain ⟨z9, z0, z1, z2, z3⟩ := TQ1.out
        simp only at y1 z1
        go_wp2
        go_roundg (n - (j + 1 + 1))
        case measure => omega
        case rel => exact ⟨j + 1, r, ln, c, b, o, l, by go_num, by omega, Nat.le_refl _, hln, hb, HL, (show _ = _ by rw [HATE.out]; exact HE.out), HS, (show _ = _ by rw [HATE.out, HKO.out]; exact HK.out), TQ1, TQ0, HBQ⟩
    · have hjn : j + 1 = n := by omega
      have hjz : ¬ (j : Int) < ((n - 1 : Nat) : Int) := by omega
      obtain ⟨-, a0, a1, _, _⟩ := T1.out
      obtain ⟨-, d0, d1, f0, f1⟩ := T0.out
      simp only at a1 d1
      have HE' : Hid (h[atTo h n]? = some (r, l)) := by show _ = _; have := HE.out; rw [hjn] at this; exact this
      clear HE
      go_wp2
      refine bodyPost_ret (by simp [results, Tryd.results39, go_sem, d0, d1]; try rfl) rfl ?_
      exact ⟨r, l, some ⟨b, o, none⟩, c, by rw [HL.out], HE'.out, by rw [HL.out]; exact HS.out, (HB.out.setCell (p := ⟨w.heap.size, 0, none⟩) (Nat.le_refl _) _).setCell (p := ⟨w.heap.size, 1, none⟩) (Nat.le_refl _) _⟩
theorem least_any (v : Value) (h : List TrL) (w0 w : World) (H : HpAt w0 v (zH h)) (hb : Below w0.heap.size w0 w) (hg : OkH h) (hn : h ≠ []) :
    Calls Tryd.prog 39 #[v] w fun e w' => ∃ (r : Nat) (l : List (Int × Int)) (q : Option Addr) (c : Nat), e = .returned (.agg #[.int .i64 (r : Int), .slice q l.length c]) ∧ h[atTo h h.length]? = some (r, l) ∧ Sl w0 (.slice q l.length c) l.toArray ∧ Below w.heap.size w w' := by
  have HF := H.toF hb
  have hpos : 0 < h.length := List.length_pos_iff.2 hn
  have hle := hg.len_le
  obtain ⟨ts, ⟨p, c, e, hc, _⟩, h2, _⟩ := id HF
  subst e
  rw [h2] at HF hc ⊢
  by_cases h1 : c = 1
  · exact least_A p h.length c h w0 w hpos (by omega) hc h1 rfl hb HF hg
  · exact least_B p h.length c h w0 w hpos (by omega) h1 rfl hb HF hg
#print axioms least_any
end Go.Proofs.YtmkjalpgeljnkaaDoor

/-
  Package bino: six lists of items as the value of an array, by rank.
-/
namespace Go.Proofs.YtmkjalpgeljnkaaDoor
open Go.RowKit Go.Sort Go.Proofs

/-- Slices as the value of an array. -/
def agV (d : List SlV) : Value := .agg (d.map fun s => Value.slice s.1 s.2.1 s.2.2).toArray
/-- Six slices that hold the lists f, rank by rank. -/
def DgAt (w : World) (d : List SlV) (f : Nat → List (Int × Int)) : Prop := d.length = 6 ∧ ∀ j, j < 6 → ∃ s, d[j]? = some s ∧ Sl w (.slice s.1 s.2.1 s.2.2) (f j).toArray
theorem six {d : List SlV} (h : d.length = 6) : ∃ s0 s1 s2 s3 s4 s5, d = [s0, s1, s2, s3, s4, s5] := by
  match d, h with
  | [s0, s1, s2, s3, s4, s5], _ => exact ⟨s0, s1, s2, s3, s4, s5, rfl⟩
theorem DgAt.below {w w' : World} {d : List SlV} {f : Nat → List (Int × Int)} (h : DgAt w d f) (hb : Below w.heap.size w w') : DgAt w' d f :=
  ⟨h.1, fun j hj => by obtain ⟨s, a, b⟩ := h.2 j hj; exact ⟨s, a, b.below hb⟩⟩
theorem DgAt.start (w : World) : DgAt w (List.replicate 6 (none, 0, 0)) (fun _ => []) :=
  ⟨by simp, fun j hj => ⟨(none, 0, 0), by rw [List.getElem?_replicate, if_pos hj], Sl.nil w⟩⟩
theorem DgAt.congr {w : World} {d : List SlV} {f g : Nat → List (Int × Int)} (h : DgAt w d f) (e : ∀ j, j < 6 → f j = g j) : DgAt w d g :=
  ⟨h.1, fun j hj => by rw [← e j hj]; exact h.2 j hj⟩
theorem DgAt.set {w : World} {d : List SlV} {f : Nat → List (Int × Int)} (h : DgAt w d f) {r : Nat} {s : SlV} {l : List (Int × Int)} (hs : Sl w (.slice s.1 s.2.1 s.2.2) l.toArray) : DgAt w (d.set r s) (fun j => if j = r then l else f j) := by
  refine ⟨by rw [List.length_set]; exact h.1, fun j hj => ?_⟩
  show ∃ u : SlV, _ ∧ Sl w _ (if j = r then l else f j).toArray
  by_cases q : j = r
  · subst q
    rw [if_pos rfl]
    exact ⟨s, by rw [List.getElem?_set_self (by rw [h.1]; exact hj)], hs⟩
  · rw [if_neg q]
    obtain ⟨s', e', hs'⟩ := h.2 j hj
    exact ⟨s', by rw [List.getElem?_set_ne (fun c => q c.symm)]; exact e', hs'⟩
theorem digitH_take {h : List TrL} {i r : Nat} {l : List (Int × Int)} (hp : h.Pairwise (fun a b => a.1 < b.1)) (hi : h[i]? = some (r, l)) (j : Nat) : (if j = r then l else digitH (h.take i) j) = digitH (h.take (i + 1)) j := by
  obtain ⟨hlt, e⟩ := List.getElem?_eq_some_iff.1 hi
  have et : h.take (i + 1) = h.take i ++ [(r, l)] := by rw [List.take_succ_eq_append_getElem hlt, e]
  have hlow : ∀ t ∈ h.take i, t.1 < r := fun t ht => by
    obtain ⟨j, hj, rfl⟩ := List.getElem_of_mem ht
    rw [List.length_take] at hj
    rw [List.getElem_take]
    have := List.pairwise_iff_getElem.1 hp j i (by omega) hlt (by omega)
    rw [e] at this
    exact this
  rw [et, digitH_snoc hlow]
/-- Six slices in memory. -/
theorem WrE.six {w : World} {blk : Nat} {s0 s1 s2 s3 s4 s5 : SlV} (h : WrE ES w blk 0 [s0, s1, s2, s3, s4, s5]) :
    (w.cell? ⟨blk, 0, none⟩ = some (.slice s0.1 s0.2.1 s0.2.2) ∧ w.cell? ⟨blk, 1, none⟩ = some (.slice s1.1 s1.2.1 s1.2.2) ∧ w.cell? ⟨blk, 2, none⟩ = some (.slice s2.1 s2.2.1 s2.2.2) ∧ w.cell? ⟨blk, 3, none⟩ = some (.slice s3.1 s3.2.1 s3.2.2) ∧ w.cell? ⟨blk, 4, none⟩ = some (.slice s4.1 s4.2.1 s4.2.2) ∧ w.cell? ⟨blk, 5, none⟩ = some (.slice s5.1 s5.2.1 s5.2.2)) ∧
    (w.frozen? ⟨blk, 0, none⟩ = false ∧ w.frozen? ⟨blk, 1, none⟩ = false ∧ w.frozen? ⟨blk, 2, none⟩ = false ∧ w.frozen? ⟨blk, 3, none⟩ = false ∧ w.frozen? ⟨blk, 4, none⟩ = false ∧ w.frozen? ⟨blk, 5, none⟩ = false) :=
  ⟨⟨(h.row (i := 0) rfl).1, (h.row (i := 1) rfl).1, (h.row (i := 2) rfl).1, (h.row (i := 3) rfl).1, (h.row (i := 4) rfl).1, (h.row (i := 5) rfl).1⟩,
   ⟨(h.row (i := 0) rfl).2, (h.row (i := 1) rfl).2, (h.row (i := 2) rfl).2, (h.row (i := 3) rfl).2, (h.row (i := 4) rfl).2, (h.row (i := 5) rfl).2⟩⟩
/-- A new array of six. -/
theorem new_six (w : World) (s0 s1 s2 s3 s4 s5 : SlV) (T : TypeId) : WrE ES (w.alloc (.cells #[.slice s0.1 s0.2.1 s0.2.2, .slice s1.1 s1.2.1 s1.2.2, .slice s2.1 s2.2.1 s2.2.2, .slice s3.1 s3.2.1 s3.2.2, .slice s4.1 s4.2.1 s4.2.2, .slice s5.1 s5.2.1 s5.2.2] T)) w.heap.size 0 [s0, s1, s2, s3, s4, s5] := by
  refine ⟨⟨by simp, fun j v hv => ?_⟩, fun j hj => by simp⟩
  rw [Nat.zero_add]
  match j, hv with
  | 0, hv => cases hv; simp
  | 1, hv => cases hv; simp
  | 2, hv => cases hv; simp
  | 3, hv => cases hv; simp
  | 4, hv => cases hv; simp
  | 5, hv => cases hv; simp
  | j + 6, hv => simp [El.flat, ES, encS] at hv
theorem new_nils (w : World) (T : TypeId) : WrE ES (w.alloc (.cells #[.slice none 0 0, .slice none 0 0, .slice none 0 0, .slice none 0 0, .slice none 0 0, .slice none 0 0] T)) w.heap.size 0 (List.replicate 6 (none, 0, 0)) :=
  new_six w (none, 0, 0) (none, 0, 0) (none, 0, 0) (none, 0, 0) (none, 0, 0) (none, 0, 0) T
theorem WrE.alloc' {P : Program} {α : Type} {E : El P α} {w : World} {blk off : Nat} {d : List α} (h : WrE E w blk off d) (o : Obj) : WrE E (w.alloc o) blk off d := h.kept (World.grownBy_alloc w o none) (by simp)
theorem below_six {B blk : Nat} {a w : World} (h : Below B a w) (hB : B ≤ blk) (u0 u1 u2 u3 u4 u5 : Value) : Below B a ((((((w.setCell ⟨blk, 0, none⟩ u0).setCell ⟨blk, 1, none⟩ u1).setCell ⟨blk, 2, none⟩ u2).setCell ⟨blk, 3, none⟩ u3).setCell ⟨blk, 4, none⟩ u4).setCell ⟨blk, 5, none⟩ u5) :=
  (((((h.setCell (p := ⟨blk, 0, none⟩) hB _).setCell (p := ⟨blk, 1, none⟩) hB _).setCell (p := ⟨blk, 2, none⟩) hB _).setCell (p := ⟨blk, 3, none⟩) hB _).setCell (p := ⟨blk, 4, none⟩) hB _).setCell (p := ⟨blk, 5, none⟩) hB _
theorem SlB.nil (F : Nat → Prop) (B : Option Nat) (w : World) : SlB F w B (.slice none 0 0) [] := ⟨none, 0, rfl, Nat.le_refl _, Or.inl rfl⟩
/-- .. where a block of F is written. -/
theorem SlB.apart {F : Nat → Prop} {f : Nat} {w w' : World} {B : Option Nat} {v : Value} {l : List (Int × Int)} (h : SlB F w B v l) (hF : F f) (hg : w.grownBy w' (some f)) : SlB F w' B v l := by
  obtain ⟨p, c, rfl, hc, h | ⟨blk, off, rfl, hn, hf, hr⟩⟩ := h
  · exact ⟨p, c, rfl, hc, Or.inl h⟩
  · exact ⟨_, c, rfl, hc, Or.inr ⟨blk, off, rfl, hn, hf, hr.keptB hg (fun e => hf (by rw [Option.some.inj e]; exact hF))⟩⟩
/-- .. where the block B is written. -/
theorem SlB.apartB {b : Nat} {F : Nat → Prop} {w w' : World} {v : Value} {l : List (Int × Int)} (h : SlB F w (some b) v l) (hg : w.grownBy w' (some b)) : SlB F w' (some b) v l := h.kept hg (Or.inl rfl)
/-- Six slices that hold the lists f, rank by rank, apart from two blocks. -/
def DgB (F : Nat → Prop) (w : World) (B : Option Nat) (d : List SlV) (f : Nat → List (Int × Int)) : Prop := d.length = 6 ∧ ∀ j, j < 6 → ∃ s, d[j]? = some s ∧ SlB F w B (.slice s.1 s.2.1 s.2.2) (f j)
theorem DgB.at {F : Nat → Prop} {B : Option Nat} {w : World} {d : List SlV} {f : Nat → List (Int × Int)} (h : DgB F w B d f) : DgAt w d f :=
  ⟨h.1, fun j hj => by obtain ⟨s, a, b⟩ := h.2 j hj; exact ⟨s, a, b.sl⟩⟩
theorem DgB.below {F : Nat → Prop} {B : Option Nat} {w w' : World} {d : List SlV} {f : Nat → List (Int × Int)} (h : DgB F w B d f) (hb : Below w.heap.size w w') : DgB F w' B d f :=
  ⟨h.1, fun j hj => by obtain ⟨s, a, b⟩ := h.2 j hj; exact ⟨s, a, b.below hb⟩⟩
theorem DgB.apart {F : Nat → Prop} {f : Nat} {B : Option Nat} {w w' : World} {d : List SlV} {x : Nat → List (Int × Int)} (h : DgB F w B d x) (hF : F f) (hg : w.grownBy w' (some f)) : DgB F w' B d x :=
  ⟨h.1, fun j hj => by obtain ⟨s, a, b⟩ := h.2 j hj; exact ⟨s, a, b.apart hF hg⟩⟩
theorem DgB.apartB {b : Nat} {F : Nat → Prop} {w w' : World} {d : List SlV} {x : Nat → List (Int × Int)} (h : DgB F w (some b) d x) (hg : w.grownBy w' (some b)) : DgB F w' (some b) d x :=
  ⟨h.1, fun j hj => by obtain ⟨s, a, b⟩ := h.2 j hj; exact ⟨s, a, b.apartB hg⟩⟩
theorem DgB.start (F : Nat → Prop) (B : Option Nat) (w : World) : DgB F w B (List.replicate 6 (none, 0, 0)) (fun _ => []) :=
  ⟨by simp, fun j hj => ⟨(none, 0, 0), by rw [List.getElem?_replicate, if_pos hj], SlB.nil F B w⟩⟩
theorem DgB.congr {F : Nat → Prop} {B : Option Nat} {w : World} {d : List SlV} {f g : Nat → List (Int × Int)} (h : DgB F w B d f) (e : ∀ j, j < 6 → f j = g j) : DgB F w B d g :=
  ⟨h.1, fun j hj => by rw [← e j hj]; exact h.2 j hj⟩
theorem DgB.set {F : Nat → Prop} {B : Option Nat} {w : World} {d : List SlV} {f : Nat → List (Int × Int)} (h : DgB F w B d f) {r : Nat} {s : SlV} {l : List (Int × Int)} (hs : SlB F w B (.slice s.1 s.2.1 s.2.2) l) : DgB F w B (d.set r s) (fun j => if j = r then l else f j) := by
  refine ⟨by rw [List.length_set]; exact h.1, fun j hj => ?_⟩
  show ∃ u : SlV, _ ∧ SlB F w B _ (if j = r then l else f j)
  by_cases q : j = r
  · subst q
    rw [if_pos rfl]
    exact ⟨s, by rw [List.getElem?_set_self (by rw [h.1]; exact hj)], hs⟩
  · rw [if_neg q]
    obtain ⟨s', e', hs'⟩ := h.2 j hj
    exact ⟨s', by rw [List.getElem?_set_ne (fun c => q c.symm)]; exact e', hs'⟩
theorem gb_six {w w' : World} {blk : Nat} (h : w.grownBy w' (some blk)) (u0 u1 u2 u3 u4 u5 : Value) : w.grownBy ((((((w'.setCell ⟨blk, 0, none⟩ u0).setCell ⟨blk, 1, none⟩ u1).setCell ⟨blk, 2, none⟩ u2).setCell ⟨blk, 3, none⟩ u3).setCell ⟨blk, 4, none⟩ u4).setCell ⟨blk, 5, none⟩ u5) (some blk) :=
  gb_set (gb_set (gb_set h 0 1 u0 u1) 2 3 u2 u3) 4 5 u4 u5
/-- Two new arrays of six noughts. -/
theorem new_two (w : World) (T : TypeId) : WrE ES ((w.alloc (.cells #[.slice none 0 0, .slice none 0 0, .slice none 0 0, .slice none 0 0, .slice none 0 0, .slice none 0 0] T)).alloc (.cells #[.slice none 0 0, .slice none 0 0, .slice none 0 0, .slice none 0 0, .slice none 0 0, .slice none 0 0] T)) (w.heap.size + 1) 0 (List.replicate 6 (none, 0, 0)) ∧
    WrE ES ((w.alloc (.cells #[.slice none 0 0, .slice none 0 0, .slice none 0 0, .slice none 0 0, .slice none 0 0, .slice none 0 0] T)).alloc (.cells #[.slice none 0 0, .slice none 0 0, .slice none 0 0, .slice none 0 0, .slice none 0 0, .slice none 0 0] T)) w.heap.size 0 (List.replicate 6 (none, 0, 0)) ∧
    Below w.heap.size w ((w.alloc (.cells #[.slice none 0 0, .slice none 0 0, .slice none 0 0, .slice none 0 0, .slice none 0 0, .slice none 0 0] T)).alloc (.cells #[.slice none 0 0, .slice none 0 0, .slice none 0 0, .slice none 0 0, .slice none 0 0, .slice none 0 0] T)) := by
  refine ⟨?_, (new_nils w T).alloc' _, ((Below.refl _ _).alloc (Nat.le_refl _) _).alloc (by simp) _⟩
  have h := new_nils (w.alloc (.cells #[.slice none 0 0, .slice none 0 0, .slice none 0 0, .slice none 0 0, .slice none 0 0, .slice none 0 0] T)) T
  have e : (w.alloc (.cells #[.slice none 0 0, .slice none 0 0, .slice none 0 0, .slice none 0 0, .slice none 0 0, .slice none 0 0] T)).heap.size = w.heap.size + 1 := by simp
  rw [e] at h
  exact h
end Go.Proofs.YtmkjalpgeljnkaaDoor

/-
  bino.below: the trees below a root, by rank.
-/
namespace Go.Proofs.YtmkjalpgeljnkaaDoor
open Go.RowKit Go.Sort Go.Proofs

/-- The tree of rank j below the root of a tree of rank r, or none. -/
def partD (r : Nat) (l : List (Int × Int)) (j : Nat) : List (Int × Int) := if j < r then (l.drop (1 + (2 ^ r - 2 ^ (j + 1)))).take (2 ^ j) else []
/-- What is left of it when the trees of the ranks k and above are taken. -/
def restD (r : Nat) (l : List (Int × Int)) (k : Nat) : List (Int × Int) := l.drop (1 + (2 ^ r - 2 ^ (min r k)))
theorem restD_len {r : Nat} {l : List (Int × Int)} (h : l.length = 2 ^ r) (k : Nat) : (restD r l k).length = 2 ^ (min r k) - 1 := by
  have h1 : 2 ^ (min r k) ≤ 2 ^ r := Nat.pow_le_pow_right (by omega) (Nat.min_le_left _ _)
  have h2 := two_pos (min r k)
  unfold restD
  rw [List.length_drop, h]
  omega
theorem restD_top (r : Nat) (l : List (Int × Int)) (k : Nat) (hk : r ≤ k) : restD r l k = l.drop 1 := by
  unfold restD
  rw [Nat.min_eq_left hk, Nat.sub_self, Nat.add_zero]
theorem restD_skip (r : Nat) (l : List (Int × Int)) (k : Nat) (hk : r ≤ k) : restD r l (k + 1) = restD r l k := by
  rw [restD_top r l k hk, restD_top r l (k + 1) (by omega)]
theorem restD_take {r : Nat} {l : List (Int × Int)} (k : Nat) (hk : k < r) : (restD r l (k + 1)).take (2 ^ k) = partD r l k := by
  unfold restD partD
  rw [if_pos hk, Nat.min_eq_right (show k + 1 ≤ r from hk)]
theorem restD_drop {r : Nat} {l : List (Int × Int)} (k : Nat) (hk : k < r) : (restD r l (k + 1)).drop (2 ^ k) = restD r l k := by
  unfold restD
  rw [Nat.min_eq_right (show k + 1 ≤ r from hk), Nat.min_eq_right (by omega), List.drop_drop]
  congr 1
  have h1 : 2 ^ (k + 1) = 2 ^ k + 2 ^ k := by rw [Nat.pow_succ]; omega
  have h2 : 2 ^ (k + 1) ≤ 2 ^ r := Nat.pow_le_pow_right (by omega) hk
  rw [h1] at h2 ⊢
  generalize 2 ^ k = A at *
  generalize 2 ^ r = B at *
  omega
theorem digitH_parts (r : Nat) (l : List (Int × Int)) : ∀ i j, digitH (partsL r l i) j = if j < i then (l.drop (1 + (2 ^ r - 2 ^ (j + 1)))).take (2 ^ j) else []
  | 0, j => by simp [partsL, digitH_nil]
  | i + 1, j => by
    show digitH (partsL r l i ++ [(i, (l.drop (1 + (2 ^ r - 2 ^ (i + 1)))).take (2 ^ i))]) j = _
    rw [digitH_snoc (partsL_rank r l i), digitH_parts r l i j]
    by_cases h : j = i
    · subst h; rw [if_pos rfl, if_pos (Nat.lt_succ_self _)]
    · rw [if_neg h]
      by_cases q : j < i
      · rw [if_pos q, if_pos (by omega)]
      · rw [if_neg q, if_neg (by omega)]
theorem digitH_partD (r : Nat) (l : List (Int × Int)) (j : Nat) : digitH (partsL r l r) j = partD r l j := digitH_parts r l r j

/-- A slice's beginning, and what is behind it. -/
theorem RdAt.cut {w : World} {blk off : Nat} {xs : List (Int × Int)} (h : RdAt w blk off xs.toArray) (m : Nat) : RdAt w blk off (xs.take m).toArray ∧ RdAt w blk (off + m * 2) (xs.drop m).toArray := by
  refine ⟨⟨h.1, fun i hi => ?_⟩, ⟨h.1, fun i hi => ?_⟩⟩
  · have hi' : i < (xs.take m).length := by simpa using hi
    have hl : i < xs.length := by rw [List.length_take] at hi'; omega
    have e : (xs.take m).toArray[i]! = xs.toArray[i]! := by
      rw [getElem!_pos _ i hi, getElem!_pos _ i (by simpa using hl)]; simp
    rw [e]; exact h.2 i (by simpa using hl)
  · have hi' : i < (xs.drop m).length := by simpa using hi
    have hl : m + i < xs.length := by rw [List.length_drop] at hi'; omega
    have e : (xs.drop m).toArray[i]! = xs.toArray[m + i]! := by
      rw [getElem!_pos _ i hi, getElem!_pos _ (m + i) (by simpa using hl)]; simp
    rw [e]
    have := h.2 (m + i) (by simpa using hl)
    exact ⟨by rw [show off + m * 2 + i * 2 = off + (m + i) * 2 by omega]; exact this.1, by rw [show off + m * 2 + i * 2 + 1 = off + (m + i) * 2 + 1 by omega]; exact this.2⟩

/-- Of what is left a tree is taken. -/
theorem rest_take {w : World} {p : Option Addr} {m c r k : Nat} {l : List (Int × Int)} (hk : k < r) (hl : l.length = 2 ^ r) (h : Sl w (.slice p m c) (restD r l (k + 1)).toArray) :
    ∃ b o, p = some ⟨b, o, none⟩ ∧ m = 2 ^ (k + 1) - 1 ∧ m ≤ c ∧ Sl w (.slice (some ⟨b, o, none⟩) (2 ^ k) c) (partD r l k).toArray ∧ Sl w (.slice (some ⟨b, o + 2 ^ k * 2, none⟩) (m - 2 ^ k) (c - 2 ^ k)) (restD r l k).toArray ∧ (m = 2 ^ k → ∀ q c', Sl w (.slice q 0 c') (restD r l k).toArray) := by
  have h1 : 2 ^ (k + 1) = 2 ^ k + 2 ^ k := by rw [Nat.pow_succ]; omega
  have h2 := two_pos k
  have hlen : (restD r l (k + 1)).length = 2 ^ (k + 1) - 1 := by rw [restD_len hl, Nat.min_eq_right (show k + 1 ≤ r from hk)]
  have hlen' : (restD r l k).length = 2 ^ k - 1 := by rw [restD_len hl, Nat.min_eq_right (by omega)]
  obtain ⟨p', c', e, hc, h0 | ⟨b, o, rfl, hr⟩⟩ := h
  · rw [List.size_toArray, hlen] at h0; omega
  · rw [List.size_toArray, hlen] at e hc
    simp only [Value.slice.injEq] at e
    obtain ⟨rfl, rfl, rfl⟩ := e
    obtain ⟨r1, r2⟩ := hr.cut (2 ^ k)
    rw [restD_take k hk] at r1
    rw [restD_drop k hk] at r2
    have hp : (partD r l k).length = 2 ^ k := by rw [← restD_take k hk, List.length_take, hlen]; omega
    refine ⟨b, o, rfl, rfl, hc, ?_, ?_, fun e q c2 => Sl.empty w q 0 c2 _ (by rw [hlen']; omega) rfl⟩
    · have := Sl.of_rd (cap := c) r1 (by rw [List.size_toArray, hp]; omega)
      rw [List.size_toArray, hp] at this; exact this
    · have := Sl.of_rd (cap := c - 2 ^ k) r2 (by rw [List.size_toArray, hlen']; omega)
      rw [List.size_toArray, hlen'] at this
      rw [show 2 ^ (k + 1) - 1 - 2 ^ k = 2 ^ k - 1 by omega]
      exact this
theorem rest_none {w : World} {p : Option Addr} {m c r k : Nat} {l : List (Int × Int)} (hk : ¬ k < r) (hl : l.length = 2 ^ r) (h : Sl w (.slice p m c) (restD r l (k + 1)).toArray) : m < 2 ^ k ∧ Sl w (.slice p m c) (restD r l k).toArray := by
  rw [restD_skip r l k (by omega)] at h
  refine ⟨?_, h⟩
  obtain ⟨p', c', e, _⟩ := h
  simp only [Value.slice.injEq, List.size_toArray] at e
  rw [restD_len hl, Nat.min_eq_left (by omega)] at e
  have h1 : 2 ^ r ≤ 2 ^ k := Nat.pow_le_pow_right (by omega) (by omega)
  have h2 := two_pos r
  omega
/-- The parts of the ranks k and above. -/
def fromD (r : Nat) (l : List (Int × Int)) (k j : Nat) : List (Int × Int) := if k ≤ j then partD r l j else []
theorem DgAt.took {w : World} {d : List SlV} {r k : Nat} {l : List (Int × Int)} {s : SlV} (h : DgAt w d (fromD r l (k + 1))) (hs : Sl w (.slice s.1 s.2.1 s.2.2) (partD r l k).toArray) : DgAt w (d.set k s) (fromD r l k) :=
  (h.set (r := k) hs).congr fun j _ => by
    unfold fromD
    by_cases q : j = k
    · subst q; rw [if_pos rfl, if_pos (Nat.le_refl _)]
    · rw [if_neg q]
      by_cases z : k + 1 ≤ j
      · rw [if_pos z, if_pos (by omega)]
      · rw [if_neg z, if_neg (by omega)]
theorem DgAt.skipped {w : World} {d : List SlV} {r k : Nat} {l : List (Int × Int)} (h : DgAt w d (fromD r l (k + 1))) (hk : ¬ k < r) : DgAt w d (fromD r l k) :=
  h.congr fun j _ => by
    unfold fromD
    by_cases z : k + 1 ≤ j
    · rw [if_pos z, if_pos (by omega)]
    · rw [if_neg z]
      by_cases q : k ≤ j
      · rw [if_pos q]; unfold partD; rw [if_neg (by omega)]
      · rw [if_neg q]

set_option maxHeartbeats 16000000 in
set_option maxRecDepth 8000 in
theorem below_A (blk off n cap r : Nat) (l : List (Int × Int)) (w : World) (hr : r ≤ 5) (hn0 : 0 < n) (hn : n ≤ 1000) (hcap : n ≤ cap) (HC : cap = 1) (HN : Hid (l.length = n)) (HL : Hid (l.length = 2 ^ r)) :
    Calls Tryd.prog 40 #[.slice (some ⟨blk, off, none⟩) n cap] w fun e w' => ∃ d, e = .returned (agV d) ∧ DgAt w d (partD r l) ∧ Below w.heap.size w w' := by
  have hz1 : (1 : Int) ≤ (n : Int) := by omega
  subst HC
  obtain rfl : n = 1 := by omega
  have HS0 : Hid (Sl w (.slice (some ⟨blk, off, none⟩) 0 0) (restD r l 6).toArray) := by
    show Sl _ _ _
    rw [restD_top r l 6 (by omega)]
    exact Sl.empty w _ 0 0 _ (by rw [List.length_drop, HN.out]) rfl
  go_enter Tryd.func40, Tryd.ntmps40
  go_wp2
  go_loopg [4, 5] 6 (fun gg v4 v5 wr => ∃ (k : Nat) (p : Option Addr) (m c : Nat) (z : Int) (d : List SlV), v4 = .slice p m c ∧ v5 = .int .i64 z ∧ z + 1 = (k : Int) ∧ k ≤ 6 ∧ k ≤ gg ∧ Hid (Sl w (.slice p m c) (restD r l k).toArray) ∧ Hid (WrE ES wr (w.heap.size + 1) 0 d) ∧ Hid (WrE ES wr w.heap.size 0 (List.replicate 6 (none, 0, 0))) ∧ Hid (DgAt w d (fromD r l k)) ∧ Hid (Below w.heap.size w wr))
  case atStart => obtain ⟨a1, a2, a3⟩ := new_two w 62; exact ⟨6, _, _, _, 5, _, rfl, rfl, by omega, Nat.le_refl _, Nat.le_refl _, HS0, a1, a2, (DgAt.start w).congr fun j hj => by unfold fromD; rw [if_neg (by omega)], a3⟩
  case round =>
    obtain ⟨k, p, m, c, z, d, rfl, rfl, hz, hk, hg, HS, HW, HO, HD, HB⟩ := hrel
    have hB : w.heap.size ≤ wr.heap.size := HB.out.size
    have hlw : w.heap.size + 1 < wr.heap.size := HW.out.lt
    have hk7 : k = 0 ∨ k = 1 ∨ k = 2 ∨ k = 3 ∨ k = 4 ∨ k = 5 ∨ k = 6 := by omega
    rcases hk7 with rfl | rfl | rfl | rfl | rfl | rfl | rfl
    · obtain rfl : z = -1 := by omega
      have HDE : Hid (DgAt w d (partD r l)) := HD.out.congr fun j _ => by unfold fromD; rw [if_pos (Nat.zero_le _)]
      obtain ⟨s0, s1, s2, s3, s4, s5, rfl⟩ := six HD.out.1
      obtain ⟨⟨c0, c1, c2, c3, c4, c5⟩, _⟩ := HW.out.six
      obtain ⟨⟨d0, d1, d2, d3, d4, d5⟩, ⟨f0, f1, f2, f3, f4, f5⟩⟩ := HO.out.six
      clear HD HS
      go_wp2
      refine bodyPost_ret (by simp [results, Tryd.results40, go_sem, d0, d1, d2, d3, d4, d5]; try rfl) rfl ?_
      exact ⟨_, rfl, HDE.out, below_six HB.out (Nat.le_refl _) _ _ _ _ _ _⟩
    · obtain rfl : z = 0 := by omega
      by_cases hkr : 0 < r
      · obtain ⟨b, o, rfl, hm, hmc, q1, q2, q3⟩ := rest_take hkr HL.out HS.out
        have hm' : m = 1 := hm
        have p1 : Sl w (.slice (some ⟨b, o, none⟩) 1 c) (partD r l 0).toArray := q1
        have p2 : Sl w (.slice (some ⟨b, o + 2, none⟩) (m - 1) (c - 1)) (restD r l 0).toArray := q2
        have p3 : m = 1 → ∀ q c', Sl w (.slice q 0 c') (restD r l 0).toArray := q3
        clear q1 q2 q3 hm
        subst hm'
        have q1 := p1
        have q2 : Sl w (.slice (some ⟨b, o + 2, none⟩) 0 (c - 1)) (restD r l 0).toArray := p2
        have q3 := p3
        clear p1 p2 p3
        obtain ⟨s0, e0, _⟩ := HD.out.2 0 (by omega)
        obtain ⟨k0, k1⟩ := HW.out.row e0
        by_cases hc1 : c = 1
        · subst hc1
          have HD' : Hid (DgAt w (d.set 0 (some ⟨b, o, none⟩, 1, 1)) (fromD r l 0)) := HD.out.took (s := (some ⟨b, o, none⟩, 1, 1)) q1
          have HS' : Hid (Sl w (.slice (some ⟨b, o, none⟩) 0 0) (restD r l 0).toArray) := q3 rfl _ _
          have hgs : wr.grownBy (wr.setCell ⟨w.heap.size + 1, 0, none⟩ (.slice (some ⟨b, o, none⟩) 1 1)).drew (some (w.heap.size + 1)) := gb_drewN (gb_setCell wr ⟨w.heap.size + 1, 0, none⟩ (.slice (some ⟨b, o, none⟩) 1 1)) 1
          have HB' : Hid (Below w.heap.size w (wr.setCell ⟨w.heap.size + 1, 0, none⟩ (.slice (some ⟨b, o, none⟩) 1 1)).drew) := below_gb HB.out hgs (by omega) hB
          have HW' : Hid (WrE ES (wr.setCell ⟨w.heap.size + 1, 0, none⟩ (.slice (some ⟨b, o, none⟩) 1 1)).drew (w.heap.size + 1) 0 (d.set 0 (some ⟨b, o, none⟩, 1, 1))) := (HW.out.setRow (i := 0) (by rw [HD.out.1]; omega) (some ⟨b, o, none⟩, 1, 1)).drewN 1
          have HO' : Hid (WrE ES (wr.setCell ⟨w.heap.size + 1, 0, none⟩ (.slice (some ⟨b, o, none⟩) 1 1)).drew w.heap.size 0 (List.replicate 6 (none, 0, 0))) := HO.out.kept hgs (fun e => by have := Option.some.inj e; omega)
          clear q1 q2 q3 e0 HD hgs HS
          go_wp2_with fail
          go_region
          go_wp2
          go_roundg 0
          case measure => omega
          case rel => exact ⟨0, _, _, _, -1, _, rfl, rfl, by omega, by omega, Nat.le_refl _, HS', HW', HO', HD', HB'⟩
        · have HD' : Hid (DgAt w (d.set 0 (some ⟨b, o, none⟩, 1, c)) (fromD r l 0)) := HD.out.took (s := (some ⟨b, o, none⟩, 1, c)) q1
          have HS' : Hid (Sl w (.slice (some ⟨b, o + 2, none⟩) 0 (c - 1)) (restD r l 0).toArray) := q2
          have hgs : wr.grownBy (wr.setCell ⟨w.heap.size + 1, 0, none⟩ (.slice (some ⟨b, o, none⟩) 1 c)).drew (some (w.heap.size + 1)) := gb_drewN (gb_setCell wr ⟨w.heap.size + 1, 0, none⟩ (.slice (some ⟨b, o, none⟩) 1 c)) 1
          have HB' : Hid (Below w.heap.size w (wr.setCell ⟨w.heap.size + 1, 0, none⟩ (.slice (some ⟨b, o, none⟩) 1 c)).drew) := below_gb HB.out hgs (by omega) hB
          have HW' : Hid (WrE ES (wr.setCell ⟨w.heap.size + 1, 0, none⟩ (.slice (some ⟨b, o, none⟩) 1 c)).drew (w.heap.size + 1) 0 (d.set 0 (some ⟨b, o, none⟩, 1, c))) := (HW.out.setRow (i := 0) (by rw [HD.out.1]; omega) (some ⟨b, o, none⟩, 1, c)).drewN 1
          have HO' : Hid (WrE ES (wr.setCell ⟨w.heap.size + 1, 0, none⟩ (.slice (some ⟨b, o, none⟩) 1 c)).drew w.heap.size 0 (List.replicate 6 (none, 0, 0))) := HO.out.kept hgs (fun e => by have := Option.some.inj e; omega)
          clear q1 q2 q3 e0 HD hgs HS
          go_wp2_with fail
          go_region
          go_wp2
          go_roundg 0
          case measure => omega
          case rel => exact ⟨0, _, _, _, -1, _, rfl, rfl, by omega, by omega, Nat.le_refl _, HS', HW', HO', HD', HB'⟩
      · obtain ⟨hm, q1⟩ := rest_none hkr HL.out HS.out
        have HS' : Hid (Sl w (.slice p m c) (restD r l 0).toArray) := q1
        have HD' : Hid (DgAt w d (fromD r l 0)) := HD.out.skipped hkr
        have hmz : ¬ (1 : Int) ≤ (m : Int) := by omega
        clear HD HS q1
        go_wp2
        go_roundg 0
        case measure => omega
        case rel => exact ⟨0, _, _, _, -1, _, rfl, rfl, by omega, by omega, Nat.le_refl _, HS', HW, HO, HD', HB⟩
    · obtain rfl : z = 1 := by omega
      by_cases hkr : 1 < r
      · obtain ⟨b, o, rfl, hm, hmc, q1, q2, q3⟩ := rest_take hkr HL.out HS.out
        have hm' : m = 3 := hm
        have p1 : Sl w (.slice (some ⟨b, o, none⟩) 2 c) (partD r l 1).toArray := q1
        have p2 : Sl w (.slice (some ⟨b, o + 4, none⟩) (m - 2) (c - 2)) (restD r l 1).toArray := q2
        have p3 : m = 2 → ∀ q c', Sl w (.slice q 0 c') (restD r l 1).toArray := q3
        clear q1 q2 q3 hm
        subst hm'
        have q1 := p1
        have q2 : Sl w (.slice (some ⟨b, o + 4, none⟩) 1 (c - 2)) (restD r l 1).toArray := p2
        have q3 := p3
        clear p1 p2 p3
        obtain ⟨s0, e0, _⟩ := HD.out.2 1 (by omega)
        obtain ⟨k0, k1⟩ := HW.out.row e0
        have HD' : Hid (DgAt w (d.set 1 (some ⟨b, o, none⟩, 2, c)) (fromD r l 1)) := HD.out.took (s := (some ⟨b, o, none⟩, 2, c)) q1
        have HS' : Hid (Sl w (.slice (some ⟨b, o + 4, none⟩) 1 (c - 2)) (restD r l 1).toArray) := q2
        have hgs : wr.grownBy (wr.setCell ⟨w.heap.size + 1, 1, none⟩ (.slice (some ⟨b, o, none⟩) 2 c)).drew (some (w.heap.size + 1)) := gb_drewN (gb_setCell wr ⟨w.heap.size + 1, 1, none⟩ (.slice (some ⟨b, o, none⟩) 2 c)) 1
        have HB' : Hid (Below w.heap.size w (wr.setCell ⟨w.heap.size + 1, 1, none⟩ (.slice (some ⟨b, o, none⟩) 2 c)).drew) := below_gb HB.out hgs (by omega) hB
        have HW' : Hid (WrE ES (wr.setCell ⟨w.heap.size + 1, 1, none⟩ (.slice (some ⟨b, o, none⟩) 2 c)).drew (w.heap.size + 1) 0 (d.set 1 (some ⟨b, o, none⟩, 2, c))) := (HW.out.setRow (i := 1) (by rw [HD.out.1]; omega) (some ⟨b, o, none⟩, 2, c)).drewN 1
        have HO' : Hid (WrE ES (wr.setCell ⟨w.heap.size + 1, 1, none⟩ (.slice (some ⟨b, o, none⟩) 2 c)).drew w.heap.size 0 (List.replicate 6 (none, 0, 0))) := HO.out.kept hgs (fun e => by have := Option.some.inj e; omega)
        clear q1 q2 q3 e0 HD hgs HS
        go_wp2_with fail
        go_region
        go_wp2
        go_roundg 1
        case measure => omega
        case rel => exact ⟨1, _, _, _, 0, _, rfl, rfl, by omega, by omega, Nat.le_refl _, HS', HW', HO', HD', HB'⟩
      · obtain ⟨hm, q1⟩ := rest_none hkr HL.out HS.out
        have HS' : Hid (Sl w (.slice p m c) (restD r l 1).toArray) := q1
        have HD' : Hid (DgAt w d (fromD r l 1)) := HD.out.skipped hkr
        have hmz : ¬ (2 : Int) ≤ (m : Int) := by omega
        clear HD HS q1
        go_wp2
        go_roundg 1
        case measure => omega
        case rel => exact ⟨1, _, _, _, 0, _, rfl, rfl, by omega, by omega, Nat.le_refl _, HS', HW, HO, HD', HB⟩
    · obtain rfl : z = 2 := by omega
      by_cases hkr : 2 < r
      · obtain ⟨b, o, rfl, hm, hmc, q1, q2, q3⟩ := rest_take hkr HL.out HS.out
        have hm' : m = 7 := hm
        have p1 : Sl w (.slice (some ⟨b, o, none⟩) 4 c) (partD r l 2).toArray := q1
        have p2 : Sl w (.slice (some ⟨b, o + 8, none⟩) (m - 4) (c - 4)) (restD r l 2).toArray := q2
        have p3 : m = 4 → ∀ q c', Sl w (.slice q 0 c') (restD r l 2).toArray := q3
        clear q1 q2 q3 hm
        subst hm'
        have q1 := p1
        have q2 : Sl w (.slice (some ⟨b, o + 8, none⟩) 3 (c - 4)) (restD r l 2).toArray := p2
        have q3 := p3
        clear p1 p2 p3
        obtain ⟨s0, e0, _⟩ := HD.out.2 2 (by omega)
        obtain ⟨k0, k1⟩ := HW.out.row e0
        have HD' : Hid (DgAt w (d.set 2 (some ⟨b, o, none⟩, 4, c)) (fromD r l 2)) := HD.out.took (s := (some ⟨b, o, none⟩, 4, c)) q1
        have HS' : Hid (Sl w (.slice (some ⟨b, o + 8, none⟩) 3 (c - 4)) (restD r l 2).toArray) := q2
        have hgs : wr.grownBy (wr.setCell ⟨w.heap.size + 1, 2, none⟩ (.slice (some ⟨b, o, none⟩) 4 c)).drew (some (w.heap.size + 1)) := gb_drewN (gb_setCell wr ⟨w.heap.size + 1, 2, none⟩ (.slice (some ⟨b, o, none⟩) 4 c)) 1
        have HB' : Hid (Below w.heap.size w (wr.setCell ⟨w.heap.size + 1, 2, none⟩ (.slice (some ⟨b, o, none⟩) 4 c)).drew) := below_gb HB.out hgs (by omega) hB
        have HW' : Hid (WrE ES (wr.setCell ⟨w.heap.size + 1, 2, none⟩ (.slice (some ⟨b, o, none⟩) 4 c)).drew (w.heap.size + 1) 0 (d.set 2 (some ⟨b, o, none⟩, 4, c))) := (HW.out.setRow (i := 2) (by rw [HD.out.1]; omega) (some ⟨b, o, none⟩, 4, c)).drewN 1
        have HO' : Hid (WrE ES (wr.setCell ⟨w.heap.size + 1, 2, none⟩ (.slice (some ⟨b, o, none⟩) 4 c)).drew w.heap.size 0 (List.replicate 6 (none, 0, 0))) := HO.out.kept hgs (fun e => by have := Option.some.inj e; omega)
        clear q1 q2 q3 e0 HD hgs HS
        go_wp2_with fail
        go_region
        go_wp2
        go_roundg 2
        case measure => omega
        case rel => exact ⟨2, _, _, _, 1, _, rfl, rfl, by omega, by omega, Nat.le_refl _, HS', HW', HO', HD', HB'⟩
      · obtain ⟨hm, q1⟩ := rest_none hkr HL.out HS.out
        have HS' : Hid (Sl w (.slice p m c) (restD r l 2).toArray) := q1
        have HD' : Hid (DgAt w d (fromD r l 2)) := HD.out.skipped hkr
        have hmz : ¬ (4 : Int) ≤ (m : Int) := by omega
        clear HD HS q1
        go_wp2
        go_roundg 2
        case measure => omega
        case rel => exact ⟨2, _, _, _, 1, _, rfl, rfl, by omega, by omega, Nat.le_refl _, HS', HW, HO, HD', HB⟩
    · obtain rfl : z = 3 := by omega
      by_cases hkr : 3 < r
      · obtain ⟨b, o, rfl, hm, hmc, q1, q2, q3⟩ := rest_take hkr HL.out HS.out
        have hm' : m = 15 := hm
        have p1 : Sl w (.slice (some ⟨b, o, none⟩) 8 c) (partD r l 3).toArray := q1
        have p2 : Sl w (.slice (some ⟨b, o + 16, none⟩) (m - 8) (c - 8)) (restD r l 3).toArray := q2
        have p3 : m = 8 → ∀ q c', Sl w (.slice q 0 c') (restD r l 3).toArray := q3
        clear q1 q2 q3 hm
        subst hm'
        have q1 := p1
        have q2 : Sl w (.slice (some ⟨b, o + 16, none⟩) 7 (c - 8)) (restD r l 3).toArray := p2
        have q3 := p3
        clear p1 p2 p3
        obtain ⟨s0, e0, _⟩ := HD.out.2 3 (by omega)
        obtain ⟨k0, k1⟩ := HW.out.row e0
        have HD' : Hid (DgAt w (d.set 3 (some ⟨b, o, none⟩, 8, c)) (fromD r l 3)) := HD.out.took (s := (some ⟨b, o, none⟩, 8, c)) q1
        have HS' : Hid (Sl w (.slice (some ⟨b, o + 16, none⟩) 7 (c - 8)) (restD r l 3).toArray) := q2
        have hgs : wr.grownBy (wr.setCell ⟨w.heap.size + 1, 3, none⟩ (.slice (some ⟨b, o, none⟩) 8 c)).drew (some (w.heap.size + 1)) := gb_drewN (gb_setCell wr ⟨w.heap.size + 1, 3, none⟩ (.slice (some ⟨b, o, none⟩) 8 c)) 1
        have HB' : Hid (Below w.heap.size w (wr.setCell ⟨w.heap.size + 1, 3, none⟩ (.slice (some ⟨b, o, none⟩) 8 c)).drew) := below_gb HB.out hgs (by omega) hB
        have HW' : Hid (WrE ES (wr.setCell ⟨w.heap.size + 1, 3, none⟩ (.slice (some ⟨b, o, none⟩) 8 c)).drew (w.heap.size + 1) 0 (d.set 3 (some ⟨b, o, none⟩, 8, c))) := (HW.out.setRow (i := 3) (by rw [HD.out.1]; omega) (some ⟨b, o, none⟩, 8, c)).drewN 1
        have HO' : Hid (WrE ES (wr.setCell ⟨w.heap.size + 1, 3, none⟩ (.slice (some ⟨b, o, none⟩) 8 c)).drew w.heap.size 0 (List.replicate 6 (none, 0, 0))) := HO.out.kept hgs (fun e => by have := Option.some.inj e; omega)
        clear q1 q2 q3 e0 HD hgs HS
        go_wp2_with fail
        go_region
        go_wp2
        go_roundg 3
        case measure => omega
        case rel => exact ⟨3, _, _, _, 2, _, rfl, rfl, by omega, by omega, Nat.le_refl _, HS', HW', HO', HD', HB'⟩
      · obtain ⟨hm, q1⟩ := rest_none hkr HL.out HS.out
        have HS' : Hid (Sl w (.slice p m c) (restD r l 3).toArray) := q1
        have HD' : Hid (DgAt w d (fromD r l 3)) := HD.out.skipped hkr
        have hmz : ¬ (8 : Int) ≤ (m : Int) := by omega
        clear HD HS q1
        go_wp2
        go_roundg 3
        case measure => omega
        case rel => exact ⟨3, _, _, _, 2, _, rfl, rfl, by omega, by omega, Nat.le_refl _, HS', HW, HO, HD', HB⟩
    · obtain rfl : z = 4 := by omega
      by_cases hkr : 4 < r
      · obtain ⟨b, o, rfl, hm, hmc, q1, q2, q3⟩ := rest_take hkr HL.out HS.out
        have hm' : m = 31 := hm
        have p1 : Sl w (.slice (some ⟨b, o, none⟩) 16 c) (partD r l 4).toArray := q1
        have p2 : Sl w (.slice (some ⟨b, o + 32, none⟩) (m - 16) (c - 16)) (restD r l 4).toArray := q2
        have p3 : m = 16 → ∀ q c', Sl w (.slice q 0 c') (restD r l 4).toArray := q3
        clear q1 q2 q3 hm
        subst hm'
        have q1 := p1
        have q2 : Sl w (.slice (some ⟨b, o + 32, none⟩) 15 (c - 16)) (restD r l 4).toArray := p2
        have q3 := p3
        clear p1 p2 p3
        obtain ⟨s0, e0, _⟩ := HD.out.2 4 (by omega)
        obtain ⟨k0, k1⟩ := HW.out.row e0
        have HD' : Hid (DgAt w (d.set 4 (some ⟨b, o, none⟩, 16, c)) (fromD r l 4)) := HD.out.took (s := (some ⟨b, o, none⟩, 16, c)) q1
        have HS' : Hid (Sl w (.slice (some ⟨b, o + 32, none⟩) 15 (c - 16)) (restD r l 4).toArray) := q2
        have hgs : wr.grownBy (wr.setCell ⟨w.heap.size + 1, 4, none⟩ (.slice (some ⟨b, o, none⟩) 16 c)).drew (some (w.heap.size + 1)) := gb_drewN (gb_setCell wr ⟨w.heap.size + 1, 4, none⟩ (.slice (some ⟨b, o, none⟩) 16 c)) 1
        have HB' : Hid (Below w.heap.size w (wr.setCell ⟨w.heap.size + 1, 4, none⟩ (.slice (some ⟨b, o, none⟩) 16 c)).drew) := below_gb HB.out hgs (by omega) hB
        have HW' : Hid (WrE ES (wr.setCell ⟨w.heap.size + 1, 4, none⟩ (.slice (some ⟨b, o, none⟩) 16 c)).drew (w.heap.size + 1) 0 (d.set 4 (some ⟨b, o, none⟩, 16, c))) := (HW.out.setRow (i := 4) (by rw [HD.out.1]; omega) (some ⟨b, o, none⟩, 16, c)).drewN 1
        have HO' : Hid (WrE ES (wr.setCell ⟨w.heap.size + 1, 4, none⟩ (.slice (some ⟨b, o, none⟩) 16 c)).drew w.heap.size 0 (List.replicate 6 (none, 0, 0))) := HO.out.kept hgs (fun e => by have := Option.some.inj e; omega)
        clear q1 q2 q3 e0 HD hgs HS
        go_wp2_with fail
        go_region
        go_wp2
        go_roundg 4
        case measure => omega
        case rel => exact ⟨4, _, _, _, 3, _, rfl, rfl, by omega, by omega, Nat.le_refl _, HS', HW', HO', HD', HB'⟩
      · obtain ⟨hm, q1⟩ := rest_none hkr HL.out HS.out
        have HS' : Hid (Sl w (.slice p m c) (restD r l 4).toArray) := q1
        have HD' : Hid (DgAt w d (fromD r l 4)) := HD.out.skipped hkr
        have hmz : ¬ (16 : Int) ≤ (m : Int) := by omega
        clear HD HS q1
        go_wp2
        go_roundg 4
        case measure => omega
        case rel => exact ⟨4, _, _, _, 3, _, rfl, rfl, by omega, by omega, Nat.le_refl _, HS', HW, HO, HD', HB⟩
    · obtain rfl : z = 5 := by omega
      have hkr : ¬ 5 < r := by omega
      obtain ⟨hm, q1⟩ := rest_none hkr HL.out HS.out
      have HS' : Hid (Sl w (.slice p m c) (restD r l 5).toArray) := q1
      have HD' : Hid (DgAt w d (fromD r l 5)) := HD.out.skipped hkr
      have hmz : ¬ (32 : Int) ≤ (m : Int) := by omega
      clear HD HS q1
      go_wp2
      go_roundg 5
      case measure => omega
      case rel => exact ⟨5, _, _, _, 4, _, rfl, rfl, by omega, by omega, Nat.le_refl _, HS', HW, HO, HD', HB⟩
set_option maxHeartbeats 16000000 in
set_option maxRecDepth 8000 in
theorem below_B (blk off n cap r : Nat) (l : List (Int × Int)) (w : World) (hr : r ≤ 5) (hn0 : 0 < n) (hn : n ≤ 1000) (hcap : n ≤ cap) (HC : cap ≠ 1) (HN : Hid (l.length = n)) (HL : Hid (l.length = 2 ^ r)) (HR : Hid (RdAt w blk off l.toArray)) :
    Calls Tryd.prog 40 #[.slice (some ⟨blk, off, none⟩) n cap] w fun e w' => ∃ d, e = .returned (agV d) ∧ DgAt w d (partD r l) ∧ Below w.heap.size w w' := by
  have hz1 : (1 : Int) ≤ (n : Int) := by omega
  have HS0 : Hid (Sl w (.slice (some ⟨blk, off + 2, none⟩) (n - 1) (cap - 1)) (restD r l 6).toArray) := by
    show Sl _ _ _
    rw [restD_top r l 6 (by omega)]
    obtain ⟨x, t, rfl⟩ := List.exists_cons_of_ne_nil (l := l) (fun e => by have := HN.out; rw [e] at this; simp at this; omega)
    exact Sl.tail HR.out (by have := HN.out; simpa using this) hcap
  go_enter Tryd.func40, Tryd.ntmps40
  go_wp2
  go_loopg [4, 5] 6 (fun gg v4 v5 wr => ∃ (k : Nat) (p : Option Addr) (m c : Nat) (z : Int) (d : List SlV), v4 = .slice p m c ∧ v5 = .int .i64 z ∧ z + 1 = (k : Int) ∧ k ≤ 6 ∧ k ≤ gg ∧ Hid (Sl w (.slice p m c) (restD r l k).toArray) ∧ Hid (WrE ES wr (w.heap.size + 1) 0 d) ∧ Hid (WrE ES wr w.heap.size 0 (List.replicate 6 (none, 0, 0))) ∧ Hid (DgAt w d (fromD r l k)) ∧ Hid (Below w.heap.size w wr))
  case atStart => obtain ⟨a1, a2, a3⟩ := new_two w 62; exact ⟨6, _, _, _, 5, _, rfl, rfl, by omega, Nat.le_refl _, Nat.le_refl _, HS0, a1, a2, (DgAt.start w).congr fun j hj => by unfold fromD; rw [if_neg (by omega)], a3⟩
  case round =>
    obtain ⟨k, p, m, c, z, d, rfl, rfl, hz, hk, hg, HS, HW, HO, HD, HB⟩ := hrel
    have hB : w.heap.size ≤ wr.heap.size := HB.out.size
    have hlw : w.heap.size + 1 < wr.heap.size := HW.out.lt
    have hk7 : k = 0 ∨ k = 1 ∨ k = 2 ∨ k = 3 ∨ k = 4 ∨ k = 5 ∨ k = 6 := by omega
    rcases hk7 with rfl | rfl | rfl | rfl | rfl | rfl | rfl
    · obtain rfl : z = -1 := by omega
      have HDE : Hid (DgAt w d (partD r l)) := HD.out.congr fun j _ => by unfold fromD; rw [if_pos (Nat.zero_le _)]
      obtain ⟨s0, s1, s2, s3, s4, s5, rfl⟩ := six HD.out.1
      obtain ⟨⟨c0, c1, c2, c3, c4, c5⟩, _⟩ := HW.out.six
      obtain ⟨⟨d0, d1, d2, d3, d4, d5⟩, ⟨f0, f1, f2, f3, f4, f5⟩⟩ := HO.out.six
      clear HD HS
      go_wp2
      refine bodyPost_ret (by simp [results, Tryd.results40, go_sem, d0, d1, d2, d3, d4, d5]; try rfl) rfl ?_
      exact ⟨_, rfl, HDE.out, below_six HB.out (Nat.le_refl _) _ _ _ _ _ _⟩
    · obtain rfl : z = 0 := by omega
      by_cases hkr : 0 < r
      · obtain ⟨b, o, rfl, hm, hmc, q1, q2, q3⟩ := rest_take hkr HL.out HS.out
        have hm' : m = 1 := hm
        have p1 : Sl w (.slice (some ⟨b, o, none⟩) 1 c) (partD r l 0).toArray := q1
        have p2 : Sl w (.slice (some ⟨b, o + 2, none⟩) (m - 1) (c - 1)) (restD r l 0).toArray := q2
        have p3 : m = 1 → ∀ q c', Sl w (.slice q 0 c') (restD r l 0).toArray := q3
        clear q1 q2 q3 hm
        subst hm'
        have q1 := p1
        have q2 : Sl w (.slice (some ⟨b, o + 2, none⟩) 0 (c - 1)) (restD r l 0).toArray := p2
        have q3 := p3
        clear p1 p2 p3
        obtain ⟨s0, e0, _⟩ := HD.out.2 0 (by omega)
        obtain ⟨k0, k1⟩ := HW.out.row e0
        by_cases hc1 : c = 1
        · subst hc1
          have HD' : Hid (DgAt w (d.set 0 (some ⟨b, o, none⟩, 1, 1)) (fromD r l 0)) := HD.out.took (s := (some ⟨b, o, none⟩, 1, 1)) q1
          have HS' : Hid (Sl w (.slice (some ⟨b, o, none⟩) 0 0) (restD r l 0).toArray) := q3 rfl _ _
          have hgs : wr.grownBy (wr.setCell ⟨w.heap.size + 1, 0, none⟩ (.slice (some ⟨b, o, none⟩) 1 1)).drew (some (w.heap.size + 1)) := gb_drewN (gb_setCell wr ⟨w.heap.size + 1, 0, none⟩ (.slice (some ⟨b, o, none⟩) 1 1)) 1
          have HB' : Hid (Below w.heap.size w (wr.setCell ⟨w.heap.size + 1, 0, none⟩ (.slice (some ⟨b, o, none⟩) 1 1)).drew) := below_gb HB.out hgs (by omega) hB
          have HW' : Hid (WrE ES (wr.setCell ⟨w.heap.size + 1, 0, none⟩ (.slice (some ⟨b, o, none⟩) 1 1)).drew (w.heap.size + 1) 0 (d.set 0 (some ⟨b, o, none⟩, 1, 1))) := (HW.out.setRow (i := 0) (by rw [HD.out.1]; omega) (some ⟨b, o, none⟩, 1, 1)).drewN 1
          have HO' : Hid (WrE ES (wr.setCell ⟨w.heap.size + 1, 0, none⟩ (.slice (some ⟨b, o, none⟩) 1 1)).drew w.heap.size 0 (List.replicate 6 (none, 0, 0))) := HO.out.kept hgs (fun e => by have := Option.some.inj e; omega)
          clear q1 q2 q3 e0 HD hgs HS
          go_wp2_with fail
          go_region
          go_wp2
          go_roundg 0
          case measure => omega
          case rel => exact ⟨0, _, _, _, -1, _, rfl, rfl, by omega, by omega, Nat.le_refl _, HS', HW', HO', HD', HB'⟩
        · have HD' : Hid (DgAt w (d.set 0 (some ⟨b, o, none⟩, 1, c)) (fromD r l 0)) := HD.out.took (s := (some ⟨b, o, none⟩, 1, c)) q1
          have HS' : Hid (Sl w (.slice (some ⟨b, o + 2, none⟩) 0 (c - 1)) (restD r l 0).toArray) := q2
          have hgs : wr.grownBy (wr.setCell ⟨w.heap.size + 1, 0, none⟩ (.slice (some ⟨b, o, none⟩) 1 c)).drew (some (w.heap.size + 1)) := gb_drewN (gb_setCell wr ⟨w.heap.size + 1, 0, none⟩ (.slice (some ⟨b, o, none⟩) 1 c)) 1
          have HB' : Hid (Below w.heap.size w (wr.setCell ⟨w.heap.size + 1, 0, none⟩ (.slice (some ⟨b, o, none⟩) 1 c)).drew) := below_gb HB.out hgs (by omega) hB
          have HW' : Hid (WrE ES (wr.setCell ⟨w.heap.size + 1, 0, none⟩ (.slice (some ⟨b, o, none⟩) 1 c)).drew (w.heap.size + 1) 0 (d.set 0 (some ⟨b, o, none⟩, 1, c))) := (HW.out.setRow (i := 0) (by rw [HD.out.1]; omega) (some ⟨b, o, none⟩, 1, c)).drewN 1
          have HO' : Hid (WrE ES (wr.setCell ⟨w.heap.size + 1, 0, none⟩ (.slice (some ⟨b, o, none⟩) 1 c)).drew w.heap.size 0 (List.replicate 6 (none, 0, 0))) := HO.out.kept hgs (fun e => by have := Option.some.inj e; omega)
          clear q1 q2 q3 e0 HD hgs HS
          go_wp2_with fail
          go_region
          go_wp2
          go_roundg 0
          case measure => omega
          case rel => exact ⟨0, _, _, _, -1, _, rfl, rfl, by omega, by omega, Nat.le_refl _, HS', HW', HO', HD', HB'⟩
      · obtain ⟨hm, q1⟩ := rest_none hkr HL.out HS.out
        have HS' : Hid (Sl w (.slice p m c) (restD r l 0).toArray) := q1
        have HD' : Hid (DgAt w d (fromD r l 0)) := HD.out.skipped hkr
        have hmz : ¬ (1 : Int) ≤ (m : Int) := by omega
        clear HD HS q1
        go_wp2
        go_roundg 0
        case measure => omega
        case rel => exact ⟨0, _, _, _, -1, _, rfl, rfl, by omega, by omega, Nat.le_refl _, HS', HW, HO, HD', HB⟩
    · obtain rfl : z = 1 := by omega
      by_cases hkr : 1 < r
      · obtain ⟨b, o, rfl, hm, hmc, q1, q2, q3⟩ := rest_take hkr HL.out HS.out
        have hm' : m = 3 := hm
        have p1 : Sl w (.slice (some ⟨b, o, none⟩) 2 c) (partD r l 1).toArray := q1
        have p2 : Sl w (.slice (some ⟨b, o + 4, none⟩) (m - 2) (c - 2)) (restD r l 1).toArray := q2
        have p3 : m = 2 → ∀ q c', Sl w (.slice q 0 c') (restD r l 1).toArray := q3
        clear q1 q2 q3 hm
        subst hm'
        have q1 := p1
        have q2 : Sl w (.slice (some ⟨b, o + 4, none⟩) 1 (c - 2)) (restD r l 1).toArray := p2
        have q3 := p3
        clear p1 p2 p3
        obtain ⟨s0, e0, _⟩ := HD.out.2 1 (by omega)
        obtain ⟨k0, k1⟩ := HW.out.row e0
        have HD' : Hid (DgAt w (d.set 1 (some ⟨b, o, none⟩, 2, c)) (fromD r l 1)) := HD.out.took (s := (some ⟨b, o, none⟩, 2, c)) q1
        have HS' : Hid (Sl w (.slice (some ⟨b, o + 4, none⟩) 1 (c - 2)) (restD r l 1).toArray) := q2
        have hgs : wr.grownBy (wr.setCell ⟨w.heap.size + 1, 1, none⟩ (.slice (some ⟨b, o, none⟩) 2 c)).drew (some (w.heap.size + 1)) := gb_drewN (gb_setCell wr ⟨w.heap.size + 1, 1, none⟩ (.slice (some ⟨b, o, none⟩) 2 c)) 1
        have HB' : Hid (Below w.heap.size w (wr.setCell ⟨w.heap.size + 1, 1, none⟩ (.slice (some ⟨b, o, none⟩) 2 c)).drew) := below_gb HB.out hgs (by omega) hB
        have HW' : Hid (WrE ES (wr.setCell ⟨w.heap.size + 1, 1, none⟩ (.slice (some ⟨b, o, none⟩) 2 c)).drew (w.heap.size + 1) 0 (d.set 1 (some ⟨b, o, none⟩, 2, c))) := (HW.out.setRow (i := 1) (by rw [HD.out.1]; omega) (some ⟨b, o, none⟩, 2, c)).drewN 1
        have HO' : Hid (WrE ES (wr.setCell ⟨w.heap.size + 1, 1, none⟩ (.slice (some ⟨b, o, none⟩) 2 c)).drew w.heap.size 0 (List.replicate 6 (none, 0, 0))) := HO.out.kept hgs (fun e => by have := Option.some.inj e; omega)
        clear q1 q2 q3 e0 HD hgs HS
        go_wp2_with fail
        go_region
        go_wp2
        go_roundg 1
        case measure => omega
        case rel => exact ⟨1, _, _, _, 0, _, rfl, rfl, by omega, by omega, Nat.le_refl _, HS', HW', HO', HD', HB'⟩
      · obtain ⟨hm, q1⟩ := rest_none hkr HL.out HS.out
        have HS' : Hid (Sl w (.slice p m c) (restD r l 1).toArray) := q1
        have HD' : Hid (DgAt w d (fromD r l 1)) := HD.out.skipped hkr
        have hmz : ¬ (2 : Int) ≤ (m : Int) := by omega
        clear HD HS q1
        go_wp2
        go_roundg 1
        case measure => omega
        case rel => exact ⟨1, _, _, _, 0, _, rfl, rfl, by omega, by omega, Nat.le_refl _, HS', HW, HO, HD', HB⟩
    · obtain rfl : z = 2 := by omega
      by_cases hkr : 2 < r
      · obtain ⟨b, o, rfl, hm, hmc, q1, q2, q3⟩ := rest_take hkr HL.out HS.out
        have hm' : m = 7 := hm
        have p1 : Sl w (.slice (some ⟨b, o, none⟩) 4 c) (partD r l 2).toArray := q1
        have p2 : Sl w (.slice (some ⟨b, o + 8, none⟩) (m - 4) (c - 4)) (restD r l 2).toArray := q2
        have p3 : m = 4 → ∀ q c', Sl w (.slice q 0 c') (restD r l 2).toArray := q3
        clear q1 q2 q3 hm
        subst hm'
        have q1 := p1
        have q2 : Sl w (.slice (some ⟨b, o + 8, none⟩) 3 (c - 4)) (restD r l 2).toArray := p2
        have q3 := p3
        clear p1 p2 p3
        obtain ⟨s0, e0, _⟩ := HD.out.2 2 (by omega)
        obtain ⟨k0, k1⟩ := HW.out.row e0
        have HD' : Hid (DgAt w (d.set 2 (some ⟨b, o, none⟩, 4, c)) (fromD r l 2)) := HD.out.took (s := (some ⟨b, o, none⟩, 4, c)) q1
        have HS' : Hid (Sl w (.slice (some ⟨b, o + 8, none⟩) 3 (c - 4)) (restD r l 2).toArray) := q2
        have hgs : wr.grownBy (wr.setCell ⟨w.heap.size + 1, 2, none⟩ (.slice (some ⟨b, o, none⟩) 4 c)).drew (some (w.heap.size + 1)) := gb_drewN (gb_setCell wr ⟨w.heap.size + 1, 2, none⟩ (.slice (some ⟨b, o, none⟩) 4 c)) 1
        have HB' : Hid (Below w.heap.size w (wr.setCell ⟨w.heap.size + 1, 2, none⟩ (.slice (some ⟨b, o, none⟩) 4 c)).drew) := below_gb HB.out hgs (by omega) hB
        have HW' : Hid (WrE ES (wr.setCell ⟨w.heap.size + 1, 2, none⟩ (.slice (some ⟨b, o, none⟩) 4 c)).drew (w.heap.size + 1) 0 (d.set 2 (some ⟨b, o, none⟩, 4, c))) := (HW.out.setRow (i := 2) (by rw [HD.out.1]; omega) (some ⟨b, o, none⟩, 4, c)).drewN 1
        have HO' : Hid (WrE ES (wr.setCell ⟨w.heap.size + 1, 2, none⟩ (.slice (some ⟨b, o, none⟩) 4 c)).drew w.heap.size 0 (List.replicate 6 (none, 0, 0))) := HO.out.kept hgs (fun e => by have := Option.some.inj e; omega)
        clear q1 q2 q3 e0 HD hgs HS
        go_wp2_with fail
        go_region
        go_wp2
        go_roundg 2
        case measure => omega
        case rel => exact ⟨2, _, _, _, 1, _, rfl, rfl, by omega, by omega, Nat.le_refl _, HS', HW', HO', HD', HB'⟩
      · obtain ⟨hm, q1⟩ := rest_none hkr HL.out HS.out
        have HS' : Hid (Sl w (.slice p m c) (restD r l 2).toArray) := q1
        have HD' : Hid (DgAt w d (fromD r l 2)) := HD.out.skipped hkr
        have hmz : ¬ (4 : Int) ≤ (m : Int) := by omega
        clear HD HS q1
        go_wp2
        go_roundg 2
        case measure => omega
        case rel => exact ⟨2, _, _, _, 1, _, rfl, rfl, by omega, by omega, Nat.le_refl _, HS', HW, HO, HD', HB⟩
    · obtain rfl : z = 3 := by omega
      by_cases hkr : 3 < r
      · obtain ⟨b, o, rfl, hm, hmc, q1, q2, q3⟩ := rest_take hkr HL.out HS.out
        have hm' : m = 15 := hm
        have p1 : Sl w (.slice (some ⟨b, o, none⟩) 8 c) (partD r l 3).toArray := q1
        have p2 : Sl w (.slice (some ⟨b, o + 16, none⟩) (m - 8) (c - 8)) (restD r l 3).toArray := q2
        have p3 : m = 8 → ∀ q c', Sl w (.slice q 0 c') (restD r l 3).toArray := q3
        clear q1 q2 q3 hm
        subst hm'
        have q1 := p1
        have q2 : Sl w (.slice (some ⟨b, o + 16, none⟩) 7 (c - 8)) (restD r l 3).toArray := p2
        have q3 := p3
        clear p1 p2 p3
        obtain ⟨s0, e0, _⟩ := HD.out.2 3 (by omega)
        obtain ⟨k0, k1⟩ := HW.out.row e0
        have HD' : Hid (DgAt w (d.set 3 (some ⟨b, o, none⟩, 8, c)) (fromD r l 3)) := HD.out.took (s := (some ⟨b, o, none⟩, 8, c)) q1
        have HS' : Hid (Sl w (.slice (some ⟨b, o + 16, none⟩) 7 (c - 8)) (restD r l 3).toArray) := q2
        have hgs : wr.grownBy (wr.setCell ⟨w.heap.size + 1, 3, none⟩ (.slice (some ⟨b, o, none⟩) 8 c)).drew (some (w.heap.size + 1)) := gb_drewN (gb_setCell wr ⟨w.heap.size + 1, 3, none⟩ (.slice (some ⟨b, o, none⟩) 8 c)) 1
        have HB' : Hid (Below w.heap.size w (wr.setCell ⟨w.heap.size + 1, 3, none⟩ (.slice (some ⟨b, o, none⟩) 8 c)).drew) := below_gb HB.out hgs (by omega) hB
        have HW' : Hid (WrE ES (wr.setCell ⟨w.heap.size + 1, 3, none⟩ (.slice (some ⟨b, o, none⟩) 8 c)).drew (w.heap.size + 1) 0 (d.set 3 (some ⟨b, o, none⟩, 8, c))) := (HW.out.setRow (i := 3) (by rw [HD.out.1]; omega) (some ⟨b, o, none⟩, 8, c)).drewN 1
        have HO' : Hid (WrE ES (wr.setCell ⟨w.heap.size + 1, 3, none⟩ (.slice (some ⟨b, o, none⟩) 8 c)).drew w.heap.size 0 (List.replicate 6 (none, 0, 0))) := HO.out.kept hgs (fun e => by have := Option.some.inj e; omega)
        clear q1 q2 q3 e0 HD hgs HS
        go_wp2_with fail
        go_region
        go_wp2
        go_roundg 3
        case measure => omega
        case rel => exact ⟨3, _, _, _, 2, _, rfl, rfl, by omega, by omega, Nat.le_refl _, HS', HW', HO', HD', HB'⟩
      · obtain ⟨hm, q1⟩ := rest_none hkr HL.out HS.out
        have HS' : Hid (Sl w (.slice p m c) (restD r l 3).toArray) := q1
        have HD' : Hid (DgAt w d (fromD r l 3)) := HD.out.skipped hkr
        have hmz : ¬ (8 : Int) ≤ (m : Int) := by omega
        clear HD HS q1
        go_wp2
        go_roundg 3
        case measure => omega
        case rel => exact ⟨3, _, _, _, 2, _, rfl, rfl, by omega, by omega, Nat.le_refl _, HS', HW, HO, HD', HB⟩
    · obtain rfl : z = 4 := by omega
      by_cases hkr : 4 < r
      · obtain ⟨b, o, rfl, hm, hmc, q1, q2, q3⟩ := rest_take hkr HL.out HS.out
        have hm' : m = 31 := hm
        have p1 : Sl w (.slice (some ⟨b, o, none⟩) 16 c) (partD r l 4).toArray := q1
        have p2 : Sl w (.slice (some ⟨b, o + 32, none⟩) (m - 16) (c - 16)) (restD r l 4).toArray := q2
        have p3 : m = 16 → ∀ q c', Sl w (.slice q 0 c') (restD r l 4).toArray := q3
        clear q1 q2 q3 hm
        subst hm'
        have q1 := p1
        have q2 : Sl w (.slice (some ⟨b, o + 32, none⟩) 15 (c - 16)) (restD r l 4).toArray := p2
        have q3 := p3
        clear p1 p2 p3
        obtain ⟨s0, e0, _⟩ := HD.out.2 4 (by omega)
        obtain ⟨k0, k1⟩ := HW.out.row e0
        have HD' : Hid (DgAt w (d.set 4 (some ⟨b, o, none⟩, 16, c)) (fromD r l 4)) := HD.out.took (s := (some ⟨b, o, none⟩, 16, c)) q1
        have HS' : Hid (Sl w (.slice (some ⟨b, o + 32, none⟩) 15 (c - 16)) (restD r l 4).toArray) := q2
        have hgs : wr.grownBy (wr.setCell ⟨w.heap.size + 1, 4, none⟩ (.slice (some ⟨b, o, none⟩) 16 c)).drew (some (w.heap.size + 1)) := gb_drewN (gb_setCell wr ⟨w.heap.size + 1, 4, none⟩ (.slice (some ⟨b, o, none⟩) 16 c)) 1
        have HB' : Hid (Below w.heap.size w (wr.setCell ⟨w.heap.size + 1, 4, none⟩ (.slice (some ⟨b, o, none⟩) 16 c)).drew) := below_gb HB.out hgs (by omega) hB
        have HW' : Hid (WrE ES (wr.setCell ⟨w.heap.size + 1, 4, none⟩ (.slice (some ⟨b, o, none⟩) 16 c)).drew (w.heap.size + 1) 0 (d.set 4 (some ⟨b, o, none⟩, 16, c))) := (HW.out.setRow (i := 4) (by rw [HD.out.1]; omega) (some ⟨b, o, none⟩, 16, c)).drewN 1
        have HO' : Hid (WrE ES (wr.setCell ⟨w.heap.size + 1, 4, none⟩ (.slice (some ⟨b, o, none⟩) 16 c)).drew w.heap.size 0 (List.replicate 6 (none, 0, 0))) := HO.out.kept hgs (fun e => by have := Option.some.inj e; omega)
        clear q1 q2 q3 e0 HD hgs HS
        go_wp2_with fail
        go_region
        go_wp2
        go_roundg 4
        case measure => omega
        case rel => exact ⟨4, _, _, _, 3, _, rfl, rfl, by omega, by omega, Nat.le_refl _, HS', HW', HO', HD', HB'⟩
      · obtain ⟨hm, q1⟩ := rest_none hkr HL.out HS.out
        have HS' : Hid (Sl w (.slice p m c) (restD r l 4).toArray) := q1
        have HD' : Hid (DgAt w d (fromD r l 4)) := HD.out.skipped hkr
        have hmz : ¬ (16 : Int) ≤ (m : Int) := by omega
        clear HD HS q1
        go_wp2
        go_roundg 4
        case measure => omega
        case rel => exact ⟨4, _, _, _, 3, _, rfl, rfl, by omega, by omega, Nat.le_refl _, HS', HW, HO, HD', HB⟩
    · obtain rfl : z = 5 := by omega
      have hkr : ¬ 5 < r := by omega
      obtain ⟨hm, q1⟩ := rest_none hkr HL.out HS.out
      have HS' : Hid (Sl w (.slice p m c) (restD r l 5).toArray) := q1
      have HD' : Hid (DgAt w d (fromD r l 5)) := HD.out.skipped hkr
      have hmz : ¬ (32 : Int) ≤ (m : Int) := by omega
      clear HD HS q1
      go_wp2
      go_roundg 5
      case measure => omega
      case rel => exact ⟨5, _, _, _, 4, _, rfl, rfl, by omega, by omega, Nat.le_refl _, HS', HW, HO, HD', HB⟩
theorem below_any (v : Value) (r : Nat) (l : List (Int × Int)) (w : World) (hs : Sl w v l.toArray) (hr : r ≤ 5) (hl : l.length = 2 ^ r) :
    Calls Tryd.prog 40 #[v] w fun e w' => ∃ d, e = .returned (agV d) ∧ DgAt w d (partD r l) ∧ Below w.heap.size w w' := by
  have h32 : 2 ^ r ≤ 2 ^ 5 := Nat.pow_le_pow_right (by omega) hr
  have hp := two_pos r
  obtain ⟨p, c, rfl, hc, h0 | ⟨blk, off, rfl, hrd⟩⟩ := hs
  · rw [List.size_toArray, hl] at h0; omega
  · rw [List.size_toArray] at hc ⊢
    by_cases h1 : c = 1
    · exact below_A blk off _ c r l w hr (by omega) (by omega) hc h1 rfl hl
    · exact below_B blk off _ c r l w hr (by omega) (by omega) hc h1 rfl hl hrd
#print axioms below_any
end Go.Proofs.YtmkjalpgeljnkaaDoor
