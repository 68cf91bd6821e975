/-
  Plain facts of heaps of trees: which ones are right.
-/
import Derived.Test.YtmkjalpgeljnkaaDoorRefB7
import Derived.Test.YtmkjalpgeljnkaaDoorRefB5
namespace Go.Proofs.YtmkjalpgeljnkaaDoor
open Go.RowKit Go.Sort Go.Proofs

/-- A heap of trees that is right. -/
structure OkH (g : List TrL) : Prop where
  isH : IsH g
  rank : ∀ t ∈ g, t.1 ≤ 5
  inr : ∀ x ∈ itemsH g, outB x = false
  size : (itemsH g).length ≤ 60
theorem rankE_zero : ∀ {h : List (Int × List (Int × Int))} {last : Int}, rankE last h = 0 → (∀ t ∈ h, last < t.1 ∧ 0 ≤ t.1 ∧ t.1 ≤ 5 ∧ t.2.length = 2 ^ t.1.toNat) ∧ h.Pairwise (fun a b => a.1 < b.1)
  | [], _, _ => ⟨fun _ h => (by cases h), List.Pairwise.nil⟩
  | (r, l) :: h, last, e => by
    simp only [rankE] at e
    by_cases h1 : r < 0 ∨ 5 < r
    · rw [if_pos h1] at e; cases e
    · rw [if_neg h1] at e
      by_cases h2 : r ≤ last ∨ l.length ≠ 2 ^ r.toNat
      · rw [if_pos h2] at e; cases e
      · rw [if_neg h2] at e
        obtain ⟨i1, i2⟩ := rankE_zero e
        have hl : l.length = 2 ^ r.toNat := by
          rcases Nat.decEq l.length (2 ^ r.toNat) with q | q
          · exact absurd (Or.inr q) h2
          · exact q
        refine ⟨fun t ht => ?_, List.pairwise_cons.2 ⟨fun t ht => (i1 t ht).1, i2⟩⟩
        rcases List.mem_cons.1 ht with rfl | m
        · exact ⟨by simp only; omega, by simp only; omega, by simp only; omega, hl⟩
        · have := i1 t m
          exact ⟨by omega, this.2.1, this.2.2.1, this.2.2.2⟩
theorem rankE_good : ∀ {g : List TrL} {last : Int}, (∀ t ∈ g, last < (t.1 : Int) ∧ t.1 ≤ 5 ∧ t.2.length = 2 ^ t.1) → g.Pairwise (fun a b => a.1 < b.1) → rankE last (zH g) = 0
  | [], _, _, _ => rfl
  | (r, l) :: g, last, h, hp => by
    have h0 := h (r, l) List.mem_cons_self
    simp only at h0
    have e : zH ((r, l) :: g) = ((r : Int), l) :: zH g := rfl
    rw [e, rankE_cons (by omega) (fun c => c.elim (by omega) (fun c => c h0.2.2))]
    have hp2 := List.pairwise_cons.1 hp
    exact rankE_good (fun t ht => ⟨by have := hp2.1 t ht; simp only at this; omega, (h t (List.mem_cons_of_mem _ ht)).2⟩) hp2.2
theorem sizeZ_zH (g : List TrL) : sizeZ (zH g) = (itemsH g).length := by
  unfold sizeZ zH itemsH
  rw [List.map_map, List.length_flatMap]
  rfl
theorem zH_back {h : List (Int × List (Int × Int))} (hh : ∀ t ∈ h, 0 ≤ t.1) : h = zH (h.map fun t => (t.1.toNat, t.2)) := by
  unfold zH
  rw [List.map_map]
  have : h.map id = h.map ((fun t : TrL => ((t.1 : Int), t.2)) ∘ fun t => (t.1.toNat, t.2)) := List.map_congr_left fun t ht => by
    have := hh t ht
    show t = ((t.1.toNat : Int), t.2)
    rw [Int.toNat_of_nonneg this]
  rw [List.map_id] at this
  exact this
theorem keysB_kids {r : Nat} {l : List (Int × Int)} (hl : l.length = 2 ^ r) (h : keysB ((r : Int), l) = true) : IsT r l := by
  refine ⟨hl, Kids.of r 0 1 fun k h1 h2 => ?_⟩
  unfold keysB at h
  rw [List.all_eq_true] at h
  have := of_decide_eq_true (h (k - 1) (List.mem_range.2 (by simp only; rw [hl]; omega)))
  rw [show k - 1 + 1 = k by omega] at this
  exact this
theorem kids_keysB {r : Nat} {l : List (Int × Int)} (h : IsT r l) : keysB ((r : Int), l) = true := by
  refine keysB_good fun k h1 h2 => ?_
  have := Kids.above r 0 1 h.kids k h1 (by have := h.len; omega)
  show ¬ keyL l k < keyL l (aboveK r 0 1 k)
  omega
theorem mem_itemsH {g : List TrL} {x : Int × Int} : x ∈ itemsH g ↔ ∃ t ∈ g, x ∈ t.2 := by simp [itemsH]
theorem binoE_zero {h : List (Int × List (Int × Int))} (e : binoE h = 0) : ∃ g, h = zH g ∧ OkH g := by
  unfold binoE at e
  by_cases h0 : rankE (-1) h = 0
  · rw [if_pos h0] at e
    by_cases h1 : outE h = 0
    · rw [if_pos h1] at e
      by_cases h2 : 60 < sizeZ h
      · rw [if_pos h2] at e; cases e
      · rw [if_neg h2] at e
        have h3 : h.all keysB = true := by
          unfold keysE at e
          cases q : h.all keysB
          · rw [q] at e; simp at e
          · rfl
        obtain ⟨r1, r2⟩ := rankE_zero h0
        have hz := zH_back fun t ht => (r1 t ht).2.1
        refine ⟨h.map fun t => (t.1.toNat, t.2), hz, ⟨fun t ht => ?_, ?_⟩, fun t ht => ?_, fun x hx => ?_, ?_⟩
        · obtain ⟨u, hu, rfl⟩ := List.mem_map.1 ht
          have hk := List.all_eq_true.1 h3 u hu
          obtain ⟨a, b, c, d⟩ := r1 u hu
          refine keysB_kids d ?_
          have eu : ((u.1.toNat : Int), u.2) = u := by rw [Int.toNat_of_nonneg b]
          show keysB ((u.1.toNat : Int), u.2) = true
          rw [eu]; exact hk
        · rw [List.pairwise_map]
          refine List.Pairwise.imp_of_mem (fun {a b} ha hb q => ?_) r2
          have := (r1 a ha).2.1
          have := (r1 b hb).2.1
          show a.1.toNat < b.1.toNat
          omega
        · obtain ⟨u, hu, rfl⟩ := List.mem_map.1 ht
          have := r1 u hu
          show u.1.toNat ≤ 5
          omega
        · obtain ⟨t, ht, hm⟩ := mem_itemsH.1 hx
          obtain ⟨u, hu, rfl⟩ := List.mem_map.1 ht
          cases q : outB x
          · rfl
          · exfalso
            unfold outE at h1
            rw [if_pos (List.any_eq_true.2 ⟨u, hu, List.any_eq_true.2 ⟨x, hm, q⟩⟩)] at h1
            cases h1
        · rw [← sizeZ_zH, ← hz]; omega
    · rw [if_neg h1] at e; exact absurd e h1
  · rw [if_neg h0] at e; exact absurd e h0
theorem binoE_ok {g : List TrL} (H : OkH g) : binoE (zH g) = 0 := by
  refine binoE_good (rankE_good (fun t ht => ⟨by omega, H.rank t ht, (H.isH.trees t ht).len⟩) H.isH.rise) (outE_good fun t ht => ?_) (by rw [sizeZ_zH]; have := H.size; omega) fun t ht => ?_
  · unfold zH at ht
    obtain ⟨u, hu, rfl⟩ := List.mem_map.1 ht
    unfold anyOut
    rw [List.any_eq_false]
    intro x hx
    rw [H.inr x (mem_itemsH.2 ⟨u, hu, by simpa using hx⟩)]
    simp
  · unfold zH at ht
    obtain ⟨u, hu, rfl⟩ := List.mem_map.1 ht
    exact kids_keysB (H.isH.trees u hu)
/-- Melded it is right still. -/
theorem OkH.meld {a b : List TrL} (ha : OkH a) (hb : OkH b) (h : (itemsH a).length + (itemsH b).length ≤ 60) : OkH (meldH a b) ∧ (itemsH (meldH a b)).Perm (itemsH a ++ itemsH b) := by
  obtain ⟨h1, h2⟩ := meldH_good ha.isH hb.isH (by omega)
  have hl : (itemsH (meldH a b)).length ≤ 60 := by rw [h2.length_eq, List.length_append]; exact h
  refine ⟨⟨h1, fun t ht => rank_le (k := 5) (h1.trees t ht) (mem_items_len ht) (Nat.lt_of_le_of_lt hl (by decide)), fun x hx => ?_, hl⟩, h2⟩
  rcases List.mem_append.1 (h2.mem_iff.1 hx) with q | q
  · exact ha.inr x q
  · exact hb.inr x q
end Go.Proofs.YtmkjalpgeljnkaaDoor
