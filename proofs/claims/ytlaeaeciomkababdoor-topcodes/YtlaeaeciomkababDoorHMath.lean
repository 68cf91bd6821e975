/-
  Plain facts of heaps in a list: sinking, rising, and what they keep.
-/
import Derived.Test.YtlaeaeciomkababDoorEnc
namespace Go.Proofs.YtlaeaeciomkababDoor
open Go.RowKit Go.Sort Go.Proofs

theorem swp_perm (d : Array (Int × Int)) {i j : Nat} (hi : i < d.size) (hj : j < d.size) : (swp d i j).toList.Perm d.toList := by
  have e : swp d i j = d.swap i j hi hj := by
    unfold swp
    rw [getElem!_pos d i hi, getElem!_pos d j hj]
    apply Array.ext
    · simp
    · intro t h1 h2
      simp only [Array.getElem_swap]
      grind
  rw [e]
  exact (Array.perm_iff_toList_perm.1 (Array.swap_perm hi hj))

/-- Of the item at i and the two below it: the place of the least key; of like ones the first. -/
def kid (d : Array (Int × Int)) (i : Nat) : Nat :=
  if 2 * i + 2 < d.size ∧ d[2 * i + 2]!.1 < d[if 2 * i + 1 < d.size ∧ d[2 * i + 1]!.1 < d[i]!.1 then 2 * i + 1 else i]!.1 then 2 * i + 2
  else if 2 * i + 1 < d.size ∧ d[2 * i + 1]!.1 < d[i]!.1 then 2 * i + 1 else i
theorem kid_cases (d : Array (Int × Int)) (i : Nat) (h : kid d i ≠ i) : (kid d i = 2 * i + 1 ∨ kid d i = 2 * i + 2) ∧ kid d i < d.size ∧ d[kid d i]!.1 < d[i]!.1 ∧
    (2 * i + 1 < d.size → d[kid d i]!.1 ≤ d[2 * i + 1]!.1) ∧ (2 * i + 2 < d.size → d[kid d i]!.1 ≤ d[2 * i + 2]!.1) := by
  unfold kid at h ⊢
  by_cases a : 2 * i + 1 < d.size ∧ d[2 * i + 1]!.1 < d[i]!.1
  · simp only [if_pos a] at h ⊢
    by_cases b : 2 * i + 2 < d.size ∧ d[2 * i + 2]!.1 < d[2 * i + 1]!.1
    · simp only [if_pos b]; exact ⟨by simp, b.1, by omega, fun _ => by omega, fun _ => Int.le_refl _⟩
    · simp only [if_neg b]; exact ⟨by simp, a.1, a.2, fun _ => Int.le_refl _, fun h2 => by omega⟩
  · simp only [if_neg a] at h ⊢
    by_cases b : 2 * i + 2 < d.size ∧ d[2 * i + 2]!.1 < d[i]!.1
    · simp only [if_pos b] at h ⊢; exact ⟨by simp, b.1, b.2, fun h2 => by omega, fun _ => Int.le_refl _⟩
    · simp only [if_neg b] at h; exact absurd rfl h
theorem kid_stop (d : Array (Int × Int)) (i : Nat) (h : kid d i = i) : (2 * i + 1 < d.size → d[i]!.1 ≤ d[2 * i + 1]!.1) ∧ (2 * i + 2 < d.size → d[i]!.1 ≤ d[2 * i + 2]!.1) := by
  unfold kid at h
  by_cases a : 2 * i + 1 < d.size ∧ d[2 * i + 1]!.1 < d[i]!.1
  · simp only [if_pos a] at h
    by_cases b : 2 * i + 2 < d.size ∧ d[2 * i + 2]!.1 < d[2 * i + 1]!.1
    · simp only [if_pos b] at h; omega
    · simp only [if_neg b] at h; omega
  · simp only [if_neg a] at h
    by_cases b : 2 * i + 2 < d.size ∧ d[2 * i + 2]!.1 < d[i]!.1
    · simp only [if_pos b] at h; omega
    · exact ⟨fun h1 => by omega, fun h2 => by omega⟩
theorem kid_of_le (d : Array (Int × Int)) (i : Nat) (h1 : 2 * i + 1 < d.size → d[i]!.1 ≤ d[2 * i + 1]!.1) (h2 : 2 * i + 2 < d.size → d[i]!.1 ≤ d[2 * i + 2]!.1) : kid d i = i := by
  unfold kid
  have a : ¬ (2 * i + 1 < d.size ∧ d[2 * i + 1]!.1 < d[i]!.1) := fun h => by have := h1 h.1; omega
  simp only [if_neg a]
  rw [if_neg fun h => by have := h2 h.1; omega]
theorem kid_second {d : Array (Int × Int)} {i : Nat} (a : 2 * i + 1 < d.size ∧ d[2 * i + 1]!.1 < d[i]!.1) (b : 2 * i + 2 < d.size ∧ d[2 * i + 2]!.1 < d[2 * i + 1]!.1) : kid d i = 2 * i + 2 := by
  unfold kid; simp only [if_pos a]; rw [if_pos b]
theorem kid_second' {d : Array (Int × Int)} {i : Nat} (a : ¬ (2 * i + 1 < d.size ∧ d[2 * i + 1]!.1 < d[i]!.1)) (b : 2 * i + 2 < d.size ∧ d[2 * i + 2]!.1 < d[i]!.1) : kid d i = 2 * i + 2 := by
  unfold kid; simp only [if_neg a]; rw [if_pos b]
theorem kid_first {d : Array (Int × Int)} {i : Nat} (a : 2 * i + 1 < d.size ∧ d[2 * i + 1]!.1 < d[i]!.1) (b : ¬ (2 * i + 2 < d.size ∧ d[2 * i + 2]!.1 < d[2 * i + 1]!.1)) : kid d i = 2 * i + 1 := by
  unfold kid; simp only [if_pos a]; rw [if_neg b]

/-- The place of the lesser of the items below i; a place behind the list, if there is none. -/
def low (d : Array (Int × Int)) (i : Nat) : Nat := if 2 * i + 2 < d.size ∧ d[2 * i + 2]!.1 < d[2 * i + 1]!.1 then 2 * i + 2 else 2 * i + 1
theorem low_cases (d : Array (Int × Int)) (i : Nat) : low d i = 2 * i + 1 ∨ low d i = 2 * i + 2 := by unfold low; split <;> simp
theorem kid_low_stop {d : Array (Int × Int)} {i : Nat} (h : d.size ≤ low d i ∨ d[i]!.1 ≤ d[low d i]!.1) : kid d i = i := by
  unfold low at h
  by_cases b : 2 * i + 2 < d.size ∧ d[2 * i + 2]!.1 < d[2 * i + 1]!.1
  · rw [if_pos b] at h
    exact kid_of_le d i (fun _ => by omega) (fun _ => by omega)
  · rw [if_neg b] at h
    exact kid_of_le d i (fun _ => by omega) (fun _ => by omega)
theorem kid_low_go {d : Array (Int × Int)} {i : Nat} (h1 : low d i < d.size) (h2 : d[low d i]!.1 < d[i]!.1) : kid d i = low d i := by
  unfold low at h1 h2 ⊢
  by_cases b : 2 * i + 2 < d.size ∧ d[2 * i + 2]!.1 < d[2 * i + 1]!.1
  · rw [if_pos b] at h1 h2 ⊢
    by_cases a : 2 * i + 1 < d.size ∧ d[2 * i + 1]!.1 < d[i]!.1
    · exact kid_second a b
    · exact kid_second' a ⟨b.1, h2⟩
  · rw [if_neg b] at h1 h2 ⊢
    exact kid_first ⟨h1, h2⟩ b

/-- The item at i sunk, in at most n steps. -/
def sinkF : Nat → Array (Int × Int) → Nat → Array (Int × Int)
  | 0, d, _ => d
  | n + 1, d, i => if kid d i = i then d else sinkF n (swp d i (kid d i)) (kid d i)
theorem sinkF_any : ∀ (n m : Nat) (d : Array (Int × Int)) (i : Nat), d.size - i ≤ n → d.size - i ≤ m → sinkF n d i = sinkF m d i
  | n, m, d, i, hn, hm => by
    by_cases h : kid d i = i
    · cases n <;> cases m <;> simp [sinkF, h]
    · have hk := kid_cases d i h
      match n, m, hn, hm with
      | 0, _, hn, _ => omega
      | _ + 1, 0, _, hm => omega
      | n + 1, m + 1, hn, hm =>
        simp only [sinkF, if_neg h]
        exact sinkF_any n m _ _ (by rw [swp_size]; omega) (by rw [swp_size]; omega)
/-- The item at i sunk. -/
def sinkA (d : Array (Int × Int)) (i : Nat) : Array (Int × Int) := sinkF (d.size - i) d i
theorem sinkA_stop {d : Array (Int × Int)} {i : Nat} (h : kid d i = i) : sinkA d i = d := by
  unfold sinkA
  cases d.size - i <;> simp [sinkF, h]
theorem sinkA_go {d : Array (Int × Int)} {i : Nat} (h : kid d i ≠ i) : sinkA d i = sinkA (swp d i (kid d i)) (kid d i) := by
  have hk := kid_cases d i h
  unfold sinkA
  obtain ⟨n, hn⟩ : ∃ n, d.size - i = n + 1 := ⟨d.size - i - 1, by omega⟩
  rw [hn, sinkF, if_neg h]
  exact sinkF_any _ _ _ _ (by rw [swp_size]; omega) (Nat.le_refl _)
theorem sinkA_ind {motive : Array (Int × Int) → Nat → Prop} (case1 : ∀ d i, kid d i = i → motive d i) (case2 : ∀ d i, kid d i ≠ i → motive (swp d i (kid d i)) (kid d i) → motive d i) (d : Array (Int × Int)) (i : Nat) : motive d i := by
  induction hn : d.size - i using Nat.strongRecOn generalizing d i with
  | _ n ih =>
    by_cases h : kid d i = i
    · exact case1 d i h
    · have hk := kid_cases d i h
      exact case2 d i h (ih _ (by rw [swp_size]; omega) _ _ rfl)
theorem sinkA_size (d : Array (Int × Int)) (i : Nat) : (sinkA d i).size = d.size := by
  induction d, i using sinkA_ind with
  | case1 d i h => rw [sinkA_stop h]
  | case2 d i h ih => rw [sinkA_go h, ih, swp_size]
theorem sinkA_perm (d : Array (Int × Int)) (i : Nat) : (sinkA d i).toList.Perm d.toList := by
  induction d, i using sinkA_ind with
  | case1 d i h => rw [sinkA_stop h]
  | case2 d i h ih =>
    have hk := kid_cases d i h
    rw [sinkA_go h]
    exact ih.trans (swp_perm d (by omega) hk.2.1)
theorem sinkA_leaf {d : Array (Int × Int)} {i : Nat} (h : d.size ≤ 2 * i + 1) : sinkA d i = d := sinkA_stop (kid_of_le d i (fun _ => by omega) (fun _ => by omega))

/-- No item whose place above is k or behind it is less than the one above it. -/
def HeapFrom (k : Nat) (d : Array (Int × Int)) : Prop := ∀ j, 0 < j → j < d.size → k ≤ (j - 1) / 2 → d[(j - 1) / 2]!.1 ≤ d[j]!.1
/-- .. but for those below i, which are not less than the one above i. -/
structure HoleAt (k i : Nat) (d : Array (Int × Int)) : Prop where
  a : ∀ j, 0 < j → j < d.size → k ≤ (j - 1) / 2 → (j - 1) / 2 ≠ i → d[(j - 1) / 2]!.1 ≤ d[j]!.1
  b : ∀ j, 0 < j → j < d.size → (j - 1) / 2 = i → 0 < i → k ≤ (i - 1) / 2 → d[(i - 1) / 2]!.1 ≤ d[j]!.1
theorem HoleAt.sink (k : Nat) (d : Array (Int × Int)) (i : Nat) (hki : k ≤ i) (h : HoleAt k i d) : HeapFrom k (sinkA d i) := by
  induction d, i using sinkA_ind with
  | case1 d i hk =>
    rw [sinkA_stop hk]
    obtain ⟨s1, s2⟩ := kid_stop d i hk
    intro j h0 hj hp
    by_cases e : (j - 1) / 2 = i
    · rw [e]
      rcases (show j = 2 * i + 1 ∨ j = 2 * i + 2 by omega) with rfl | rfl
      · exact s1 hj
      · exact s2 hj
    · exact h.a j h0 hj hp e
  | case2 d i hk ih =>
    rw [sinkA_go hk]
    obtain ⟨c1, c2, c3, c4, c5⟩ := kid_cases d i hk
    generalize kid d i = m at *
    have hi : i < d.size := by omega
    refine ih (by omega) ⟨fun j h0 hj hp hne => ?_, fun j h0 hj he hm0 hkm => ?_⟩
    · rw [swp_size] at hj
      rw [swp_get d hi c2, swp_get d hi c2]
      rw [if_neg hne]
      by_cases e : (j - 1) / 2 = i
      · rw [if_pos e]
        by_cases jm : j = m
        · rw [if_pos jm]; omega
        · rw [if_neg jm, if_neg (by omega)]
          rcases (show j = 2 * i + 1 ∨ j = 2 * i + 2 by omega) with rfl | rfl
          · exact c4 hj
          · exact c5 hj
      · rw [if_neg e]
        have jm : j ≠ m := by omega
        rw [if_neg jm]
        by_cases ji : j = i
        · rw [if_pos ji]
          subst ji
          exact h.b m (by omega) c2 (by omega) h0 hp
        · rw [if_neg ji]; exact h.a j h0 hj hp e
    · rw [swp_size] at hj
      have e1 : (m - 1) / 2 = i := by omega
      rw [e1, swp_get d hi c2, swp_get d hi c2, if_neg (by omega), if_pos rfl, if_neg (by omega), if_neg (by omega)]
      have := h.a j h0 hj (by omega) (by omega)
      rw [he] at this; exact this
theorem HeapFrom.sink {k : Nat} {d : Array (Int × Int)} (h : HeapFrom (k + 1) d) : HeapFrom k (sinkA d k) :=
  HoleAt.sink k d k (Nat.le_refl _) ⟨fun j h0 hj hp hne => h j h0 hj (by omega), fun j h0 hj he h1 h2 => by omega⟩

/-- The places k - 1 down to 0 sunk. -/
def mkTo : Nat → Array (Int × Int) → Array (Int × Int)
  | 0, d => d
  | k + 1, d => mkTo k (sinkA d k)
theorem mkTo_size : ∀ k (d : Array (Int × Int)), (mkTo k d).size = d.size
  | 0, _ => rfl
  | k + 1, d => by rw [mkTo, mkTo_size k, sinkA_size]
theorem mkTo_perm : ∀ k (d : Array (Int × Int)), (mkTo k d).toList.Perm d.toList
  | 0, _ => List.Perm.refl _
  | k + 1, d => by rw [mkTo]; exact (mkTo_perm k _).trans (sinkA_perm d k)
theorem mkTo_heap : ∀ k (d : Array (Int × Int)), HeapFrom k d → HeapFrom 0 (mkTo k d)
  | 0, _, h => h
  | k + 1, d, h => by rw [mkTo]; exact mkTo_heap k _ h.sink
theorem mkTo_leaf {k : Nat} {d : Array (Int × Int)} (h : d.size ≤ 2 * k + 1) : mkTo (k + 1) d = mkTo k d := by rw [mkTo, sinkA_leaf h]
theorem mkTo_half (d : Array (Int × Int)) : ∀ n, d.size / 2 ≤ n → mkTo n d = mkTo (d.size / 2) d
  | 0, h => by rw [show d.size / 2 = 0 by omega]
  | n + 1, h => by
    by_cases e : d.size / 2 = n + 1
    · rw [e]
    · rw [mkTo_leaf (by omega)]; exact mkTo_half d n (by omega)
/-- A heap made of items. -/
def hmake (d : Array (Int × Int)) : Array (Int × Int) := mkTo d.size d
theorem hmake_size (d : Array (Int × Int)) : (hmake d).size = d.size := mkTo_size _ _
theorem hmake_perm (d : Array (Int × Int)) : (hmake d).toList.Perm d.toList := mkTo_perm _ _
theorem hmake_heap (d : Array (Int × Int)) : HeapFrom 0 (hmake d) := mkTo_heap _ _ fun j _ h1 h2 => by omega
theorem mkTo_same : ∀ k (d : Array (Int × Int)), HeapFrom 0 d → mkTo k d = d
  | 0, _, _ => rfl
  | k + 1, d, h => by
    rw [mkTo, sinkA_stop (kid_of_le d k (fun q => ?_) fun q => ?_)]
    · exact mkTo_same k d h
    · have := h (2 * k + 1) (by omega) q (Nat.zero_le _); rw [show (2 * k + 1 - 1) / 2 = k by omega] at this; exact this
    · have := h (2 * k + 2) (by omega) q (Nat.zero_le _); rw [show (2 * k + 2 - 1) / 2 = k by omega] at this; exact this
theorem hmake_same {d : Array (Int × Int)} (h : HeapFrom 0 d) : hmake d = d := mkTo_same _ _ h

/-- Is it a heap? -/
def heapB (d : Array (Int × Int)) : Bool := (List.range (d.size - 1)).all fun j => decide (d[j / 2]!.1 ≤ d[j + 1]!.1)
theorem heapB_iff (d : Array (Int × Int)) : heapB d = true ↔ HeapFrom 0 d := by
  unfold heapB
  rw [List.all_eq_true]
  constructor
  · intro h j h0 hj _
    have := of_decide_eq_true (h (j - 1) (List.mem_range.2 (by omega)))
    rw [show j - 1 + 1 = j by omega] at this; exact this
  · intro h j hj
    have := h (j + 1) (by omega) (by have := List.mem_range.1 hj; omega) (Nat.zero_le _)
    exact decide_eq_true this
theorem heapB_false {d : Array (Int × Int)} {j : Nat} (h0 : 0 < j) (hj : j < d.size) (h : d[j]!.1 < d[(j - 1) / 2]!.1) : heapB d = false := by
  cases e : heapB d
  · rfl
  · have := (heapB_iff d).1 e j h0 hj (Nat.zero_le _); omega

/-- The item at i rises. -/
def upA (d : Array (Int × Int)) (i : Nat) : Array (Int × Int) :=
  if h : 0 < i ∧ d[i]!.1 < d[(i - 1) / 2]!.1 then upA (swp d i ((i - 1) / 2)) ((i - 1) / 2) else d
theorem upA_go {d : Array (Int × Int)} {i : Nat} (h : 0 < i ∧ d[i]!.1 < d[(i - 1) / 2]!.1) : upA d i = upA (swp d i ((i - 1) / 2)) ((i - 1) / 2) := by rw [upA, dif_pos h]
theorem upA_stop {d : Array (Int × Int)} {i : Nat} (h : ¬ (0 < i ∧ d[i]!.1 < d[(i - 1) / 2]!.1)) : upA d i = d := by rw [upA, dif_neg h]
theorem upA_size (d : Array (Int × Int)) (i : Nat) : (upA d i).size = d.size := by
  induction d, i using upA.induct with
  | case1 d i h ih => rw [upA_go h, ih, swp_size]
  | case2 d i h => rw [upA_stop h]
theorem upA_perm (d : Array (Int × Int)) (i : Nat) (hi : i < d.size) : (upA d i).toList.Perm d.toList := by
  induction d, i using upA.induct with
  | case1 d i h ih => rw [upA_go h]; exact (ih (by rw [swp_size]; omega)).trans (swp_perm d hi (by omega))
  | case2 d i h => rw [upA_stop h]
/-- A heap but for the item at i, which may be less than the one above it. -/
structure RiseAt (i : Nat) (d : Array (Int × Int)) : Prop where
  a : ∀ j, 0 < j → j < d.size → j ≠ i → d[(j - 1) / 2]!.1 ≤ d[j]!.1
  b : ∀ j, 0 < j → j < d.size → (j - 1) / 2 = i → 0 < i → d[(i - 1) / 2]!.1 ≤ d[j]!.1
theorem RiseAt.up (d : Array (Int × Int)) (i : Nat) (hi : i < d.size) (h : RiseAt i d) : HeapFrom 0 (upA d i) := by
  induction d, i using upA.induct with
  | case1 d i hc ih =>
    rw [upA_go hc]
    have hp : (i - 1) / 2 < d.size := by omega
    refine ih (by rw [swp_size]; exact hp) ⟨fun j h0 hj hne => ?_, fun j h0 hj he hq => ?_⟩
    · rw [swp_size] at hj
      rw [swp_get d hi hp, swp_get d hi hp, if_neg hne]
      by_cases ji : j = i
      · subst ji
        rw [if_pos rfl, if_pos rfl]; omega
      · rw [if_neg ji]
        by_cases e : (j - 1) / 2 = (i - 1) / 2
        · rw [if_pos e]
          have := h.a j h0 hj ji
          rw [e] at this; omega
        · rw [if_neg e]
          by_cases e2 : (j - 1) / 2 = i
          · rw [if_pos e2]; exact h.b j h0 hj e2 hc.1
          · rw [if_neg e2]; exact h.a j h0 hj ji
    · rw [swp_size] at hj
      rw [swp_get d hi hp, swp_get d hi hp, if_neg (by omega), if_neg (by omega), if_neg (by omega)]
      have up := h.a ((i - 1) / 2) hq hp (by omega)
      by_cases ji : j = i
      · rw [if_pos ji]; exact up
      · rw [if_neg ji]
        have := h.a j h0 hj ji
        rw [he] at this; omega
  | case2 d i hc =>
    rw [upA_stop hc]
    intro j h0 hj _
    by_cases ji : j = i
    · subst ji; omega
    · exact h.a j h0 hj ji

/-- An item pushed. -/
def hpush (d : Array (Int × Int)) (x : Int × Int) : Array (Int × Int) := upA (d.push x) d.size
theorem hpush_size (d : Array (Int × Int)) (x : Int × Int) : (hpush d x).size = d.size + 1 := by unfold hpush; rw [upA_size, Array.size_push]
theorem hpush_perm (d : Array (Int × Int)) (x : Int × Int) : (hpush d x).toList.Perm (d.toList ++ [x]) := by
  unfold hpush
  have := upA_perm (d.push x) d.size (by simp)
  rw [Array.toList_push] at this; exact this
theorem get_push_lt (d : Array (Int × Int)) (x : Int × Int) {i : Nat} (h : i < d.size) : (d.push x)[i]! = d[i]! := by
  rw [getElem!_pos _ i (by simp; omega), getElem!_pos d i h, Array.getElem_push_lt h]
theorem hpush_heap {d : Array (Int × Int)} (x : Int × Int) (h : HeapFrom 0 d) : HeapFrom 0 (hpush d x) := by
  refine RiseAt.up _ _ (by simp) ⟨fun j h0 hj hne => ?_, fun j h0 hj he hi => ?_⟩
  · rw [Array.size_push] at hj
    rw [get_push_lt d x (by omega), get_push_lt d x (by omega)]
    exact h j h0 (by omega) (Nat.zero_le _)
  · rw [Array.size_push] at hj; omega

/-- What is left of a heap when the item at place 0 is popped. -/
def hpop (d : Array (Int × Int)) : Array (Int × Int) := if d.size ≤ 1 then #[] else sinkA (d.pop.setIfInBounds 0 d[d.size - 1]!) 0
theorem hpop_size (d : Array (Int × Int)) : (hpop d).size = d.size - 1 := by
  unfold hpop
  split
  · simp; omega
  · rw [sinkA_size]; simp
theorem hpop_heap {d : Array (Int × Int)} (h : HeapFrom 0 d) : HeapFrom 0 (hpop d) := by
  unfold hpop
  split
  · intro j _ hj; simp at hj
  · refine HoleAt.sink 0 _ 0 (Nat.le_refl _) ⟨fun j h0 hj _ hne => ?_, fun j _ _ _ h _ => absurd h (by omega)⟩
    have hj' : j < d.size - 1 := by simpa using hj
    have g : ∀ t, 0 < t → t < d.size - 1 → (d.pop.setIfInBounds 0 d[d.size - 1]!)[t]! = d[t]! := fun t h0 ht => by
      rw [getElem!_pos _ t (by simpa using ht), getElem!_pos d t (by omega)]
      grind
    rw [g _ (by omega) (by omega), g j h0 hj']
    exact h j h0 (by omega) (Nat.zero_le _)
theorem hpop_perm {d : Array (Int × Int)} (h : 0 < d.size) : (d[0]! :: (hpop d).toList).Perm d.toList := by
  unfold hpop
  split
  · rename_i h1
    have e : d.size = 1 := by omega
    obtain ⟨l⟩ := d
    match l, e with
    | [x], _ => exact List.Perm.refl _
  · rename_i h1
    obtain ⟨l⟩ := d
    match l, h1 with
    | x :: y :: r, _ =>
      refine (List.Perm.cons _ (sinkA_perm _ 0)).trans ?_
      have e1 : (x :: y :: r).toArray[0]! = x := rfl
      have e2 : (x :: y :: r).toArray[(x :: y :: r).toArray.size - 1]! = (y :: r).getLast (by simp) := by
        rw [getElem!_pos _ _ (by simp)]
        simp [List.getLast_eq_getElem]
      have e3 : (((x :: y :: r).toArray.pop).setIfInBounds 0 ((x :: y :: r).toArray[(x :: y :: r).toArray.size - 1]!)).toList = (y :: r).getLast (by simp) :: (y :: r).dropLast := by
        rw [e2]; simp
      rw [e1, e3]
      have := List.dropLast_concat_getLast (l := y :: r) (by simp)
      refine List.Perm.cons _ ?_
      refine (List.perm_append_singleton _ _).symm.trans ?_
      rw [this]

/-- In a heap none is less than one above it, however far; the one at place 0 is the least. -/
theorem HeapFrom.root {d : Array (Int × Int)} (h : HeapFrom 0 d) : ∀ j, j < d.size → d[0]!.1 ≤ d[j]!.1 := by
  intro j
  induction j using Nat.strongRecOn with
  | _ j ih =>
    intro hj
    rcases Nat.eq_zero_or_pos j with rfl | h0
    · exact Int.le_refl _
    · exact Int.le_trans (ih ((j - 1) / 2) (by omega) (by omega)) (h j h0 hj (Nat.zero_le _))
end Go.Proofs.YtlaeaeciomkababDoor
