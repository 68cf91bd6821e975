/-
  The last code, as the document keeps it: what comes next by it.
-/
import Derived.Test.YtlaeaeciomkabaaDoorCoMath
namespace Go.Proofs.YtlaeaeciomkabaaDoor

/-- The last code ahead of a symbol, at a length: there was none, or the next one follows its number. -/
def LastC (ls : List Nat) (m i : Nat) (t : List UInt8) (b : Bool) : Prop := (b = false ∧ t = [] ∧ nextC ls m i = 0) ∨ (b = true ∧ ∃ k c, k ≤ m ∧ t = bitsU k c ∧ c < 2 ^ k ∧ nextC ls m i = (c + 1) * 2 ^ (m - k))
theorem LastC.begin (ls : List Nat) : LastC ls 1 0 [] false := Or.inl ⟨rfl, rfl, by rw [nextC_zero]; rfl⟩
theorem LastC.miss {ls : List Nat} {m i a : Nat} {t : List UInt8} {b : Bool} (h : LastC ls m i t b) (hi : ls[i]? = some a) (hne : a ≠ m) : LastC ls m (i + 1) t b := by
  unfold LastC
  rw [nextC_miss hi hne]
  exact h
theorem LastC.next {ls : List Nat} {m : Nat} {t : List UInt8} {b : Bool} (h : LastC ls m ls.length t b) (hm : 1 ≤ m) : LastC ls (m + 1) 0 t b := by
  obtain ⟨d, rfl⟩ : ∃ d, m = d + 1 := ⟨m - 1, by omega⟩
  unfold LastC at h ⊢
  rw [nextC_all] at h
  rw [nextC_zero]
  rcases h with ⟨h1, h2, h3⟩ | ⟨h1, k, c, h2, h3, h4, h5⟩
  · exact Or.inl ⟨h1, h2, by rw [h3]⟩
  · refine Or.inr ⟨h1, k, c, by omega, h3, h4, ?_⟩
    rw [h5, show d + 1 + 1 - k = (d + 1 - k) + 1 by omega, Nat.pow_succ, Nat.mul_comm 2 ((c + 1) * 2 ^ (d + 1 - k)), Nat.mul_assoc]
theorem LastC.none_hit {ls : List Nat} {m i : Nat} {t : List UInt8} (h : LastC ls m i t false) (hi : ls[i]? = some m) : t = [] ∧ codeB ls i = List.replicate m 48 := by
  rcases h with ⟨_, h2, h3⟩ | ⟨h1, _⟩
  · refine ⟨h2, ?_⟩
    rw [codeB_of hi, h3]
    have := bitsU_shift m 0 0
    rw [Nat.zero_add, Nat.zero_mul, bitsU_zero, List.nil_append] at this
    exact this
  · cases h1
theorem LastC.some_hit {ls : List Nat} {m i : Nat} {t : List UInt8} (h : LastC ls m i t true) (hM : topC ls 20 ≤ 2 ^ 20) (hi : ls[i]? = some m) (h0 : 0 < m) (hm : m ≤ 20) : ∃ k c, k ≤ m ∧ t = bitsU k c ∧ c + 1 < 2 ^ k ∧ codeB ls i = bitsU k (c + 1) ++ List.replicate (m - k) 48 := by
  rcases h with ⟨h1, _⟩ | ⟨_, k, c, h2, h3, h4, h5⟩
  · cases h1
  · have hr := nextC_room hM hi h0 hm
    obtain ⟨d, rfl⟩ := Nat.exists_eq_add_of_le h2
    rw [show k + d - k = d by omega] at h5
    refine ⟨k, c, h2, h3, ?_, ?_⟩
    · rw [h5, Nat.pow_add] at hr
      exact Nat.lt_of_mul_lt_mul_right hr
    · rw [codeB_of hi, h5, bitsU_shift, show k + d - k = d by omega]
theorem LastC.after {ls : List Nat} {m i : Nat} (hM : topC ls 20 ≤ 2 ^ 20) (hi : ls[i]? = some m) (h0 : 0 < m) (hm : m ≤ 20) : LastC ls m (i + 1) (codeB ls i) true :=
  Or.inr ⟨rfl, m, nextC ls m i, Nat.le_refl _, codeB_of hi, nextC_room hM hi h0 hm, by rw [nextC_hit hi, Nat.sub_self, Nat.pow_zero, Nat.mul_one]⟩
end Go.Proofs.YtlaeaeciomkabaaDoor
