/-
  Plain facts of heaps of trees: the digits of a size; the least root; popped one by one.
-/
import Derived.Test.YtmkjalpgeljnkaaDoorBHeap
namespace Go.Proofs.YtmkjalpgeljnkaaDoor

theorem itemsH_len {h : List TrL} (H : IsH h) : (itemsH h).length = (h.map fun t => 2 ^ t.1).sum := by
  induction h with
  | nil => rfl
  | cons t h ih =>
    rw [itemsH_cons, List.length_append, ih H.tail, (H.trees t List.mem_cons_self).len]
    simp
/-- Trees whose ranks are r and more: their size, cut at rank r. -/
theorem digits_cons {h : List TrL} {r n : Nat} (H : IsH h) (hr : ∀ t ∈ h, r ≤ t.1) (hs : (itemsH h).length = n * 2 ^ r) :
    (n % 2 = 1 → ∃ l h', h = (r, l) :: h' ∧ IsT r l ∧ (∀ t ∈ h', r + 1 ≤ t.1) ∧ (itemsH h').length = (n / 2) * 2 ^ (r + 1)) ∧
    (n % 2 = 0 → (∀ t ∈ h, r + 1 ≤ t.1) ∧ (itemsH h).length = (n / 2) * 2 ^ (r + 1)) := by
  have hp := two_pos r
  have hs2 : 2 ^ (r + 1) = 2 * 2 ^ r := by rw [Nat.pow_succ]; omega
  -- a heap of greater ranks has an even size
  have even : ∀ (g : List TrL), IsH g → (∀ t ∈ g, r + 1 ≤ t.1) → ∃ m, (itemsH g).length = m * 2 ^ (r + 1) := by
    intro g
    induction g with
    | nil => intro _ _; exact ⟨0, by simp [itemsH]⟩
    | cons t g ih =>
      intro G hg
      obtain ⟨m, hm⟩ := ih G.tail fun u hu => hg u (List.mem_cons_of_mem _ hu)
      have hl := (G.trees t List.mem_cons_self).len
      have ht := hg t List.mem_cons_self
      refine ⟨2 ^ (t.1 - (r + 1)) + m, ?_⟩
      rw [itemsH_cons, List.length_append, hl, hm, Nat.add_mul, ← Nat.pow_add, Nat.sub_add_cancel ht]
  cases h with
  | nil =>
    have hn : n = 0 := by
      rw [itemsH_nil] at hs
      rcases Nat.eq_zero_or_pos n with q | q
      · exact q
      · have := Nat.mul_le_mul q hp
        simp at hs this
        omega
    subst hn
    exact ⟨fun q => absurd q (by decide), fun _ => ⟨fun _ h => (by cases h), by simp [itemsH]⟩⟩
  | cons t h =>
    obtain ⟨q, l⟩ := t
    have hq := hr (q, l) List.mem_cons_self
    simp only at hq
    have hrise := (List.pairwise_cons.1 H.rise).1
    have hgt : ∀ u ∈ h, q + 1 ≤ u.1 := fun u hu => hrise u hu
    have ht := H.trees (q, l) List.mem_cons_self
    rcases Nat.lt_or_eq_of_le hq with hlt | rfl
    · obtain ⟨m, hm⟩ := even ((q, l) :: h) H fun u hu => by
        rcases List.mem_cons.1 hu with rfl | k
        · exact hlt
        · have := hgt u k; omega
      have e : n = 2 * m := by
        rw [hs, hs2, ← Nat.mul_assoc] at hm
        have := Nat.eq_of_mul_eq_mul_right hp hm
        omega
      refine ⟨fun k => by omega, fun _ => ⟨fun u hu => ?_, ?_⟩⟩
      · rcases List.mem_cons.1 hu with rfl | k
        · exact hlt
        · have := hgt u k; omega
      · rw [hm, e]; congr 1; omega
    · obtain ⟨m, hm⟩ := even h H.tail hgt
      have hl := ht.len
      have e : n = 2 * m + 1 := by
        rw [itemsH_cons, List.length_append, hm, hl, hs2, ← Nat.mul_assoc] at hs
        have : (2 * m + 1) * 2 ^ r = n * 2 ^ r := by rw [Nat.add_mul, Nat.one_mul, Nat.mul_comm 2 m, Nat.add_comm]; exact hs
        exact (Nat.eq_of_mul_eq_mul_right hp this).symm
      refine ⟨fun _ => ⟨l, h, rfl, ht, hgt, ?_⟩, fun k => by omega⟩
      rw [hm, e]; congr 1; omega
end Go.Proofs.YtmkjalpgeljnkaaDoor
