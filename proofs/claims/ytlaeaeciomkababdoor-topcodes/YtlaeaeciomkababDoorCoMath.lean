/-
  Plain: codes of lengths as bits; what is encoded, what is decoded.
-/
import Derived.Test.YtlaeaeciomkababDoorGen
namespace Go.Proofs.YtlaeaeciomkababDoor

/-- A number as so many bits, the greatest first. -/
def bitsU : Nat → Nat → List UInt8
  | 0, _ => []
  | n + 1, v => bitsU n (v / 2) ++ [if v % 2 = 0 then 48 else 49]
theorem bitsU_zero (v : Nat) : bitsU 0 v = [] := rfl
theorem bitsU_succ (n v : Nat) : bitsU (n + 1) v = bitsU n (v / 2) ++ [if v % 2 = 0 then 48 else 49] := rfl
theorem bitsU_len : ∀ n v, (bitsU n v).length = n
  | 0, _ => rfl
  | n + 1, v => by rw [bitsU_succ, List.length_append, bitsU_len n]; rfl
theorem bitsU_take : ∀ (d n v : Nat), (bitsU (n + d) v).take n = bitsU n (v / 2 ^ d)
  | 0, n, v => by rw [Nat.add_zero, List.take_of_length_le (by rw [bitsU_len]; exact Nat.le_refl _), Nat.pow_zero, Nat.div_one]
  | d + 1, n, v => by
    rw [show n + (d + 1) = (n + d) + 1 by omega, bitsU_succ, List.take_append_of_le_length (by rw [bitsU_len]; omega), bitsU_take d n, Nat.div_div_eq_div_mul, Nat.pow_succ, Nat.mul_comm (2 ^ d)]
theorem bitsU_inj : ∀ {n a b : Nat}, a < 2 ^ n → b < 2 ^ n → bitsU n a = bitsU n b → a = b
  | 0, a, b, ha, hb, _ => by rw [Nat.pow_zero] at ha hb; omega
  | n + 1, a, b, ha, hb, h => by
    rw [bitsU_succ, bitsU_succ] at h
    obtain ⟨h1, h2⟩ := List.append_inj' h rfl
    rw [Nat.pow_succ] at ha hb
    have h3 := bitsU_inj (n := n) (a := a / 2) (b := b / 2) (by omega) (by omega) h1
    have h4 : a % 2 = b % 2 := by
      have ea := Nat.mod_two_eq_zero_or_one a
      have eb := Nat.mod_two_eq_zero_or_one b
      rcases ea with ea | ea <;> rcases eb with eb | eb <;> rw [ea, eb] at h2 ⊢ <;> simp at h2
    omega
theorem bitsU_prefix {n m a b : Nat} (ha : a < 2 ^ n) (hb : b < 2 ^ m) (hnm : n ≤ m) (h : bitsU n a <+: bitsU m b) : a = b / 2 ^ (m - n) := by
  obtain ⟨d, rfl⟩ := Nat.exists_eq_add_of_le hnm
  have e := bitsU_take d n b
  have h2 := List.prefix_iff_eq_take.1 h
  rw [bitsU_len, e] at h2
  rw [Nat.add_sub_cancel_left]
  refine bitsU_inj ha ?_ h2
  rw [Nat.div_lt_iff_lt_mul (Nat.two_pow_pos d), ← Nat.pow_add]
  exact hb
/-- As many 0 behind it. -/
theorem bitsU_shift : ∀ (d n v : Nat), bitsU (n + d) (v * 2 ^ d) = bitsU n v ++ List.replicate d 48
  | 0, n, v => by simp
  | d + 1, n, v => by
    rw [show n + (d + 1) = (n + d) + 1 by omega, bitsU_succ, Nat.pow_succ, ← Nat.mul_assoc, Nat.mul_div_cancel _ (by decide), Nat.mul_mod_left, if_pos rfl, bitsU_shift d n v, List.replicate_succ', List.append_assoc]
theorem bitsU_get48 : ∀ (n v i : Nat) (h : i < n), (bitsU n v)[i]'(by rw [bitsU_len]; exact h) = 48 ∨ (bitsU n v)[i]'(by rw [bitsU_len]; exact h) = 49
  | n + 1, v, i, h => by
    by_cases hi : i < n
    · have e : (bitsU (n + 1) v)[i]'(by rw [bitsU_len]; exact h) = (bitsU n (v / 2))[i]'(by rw [bitsU_len]; exact hi) := by
        simp only [bitsU_succ]
        rw [List.getElem_append_left]
      rw [e]
      exact bitsU_get48 n _ i hi
    · obtain rfl : i = n := by omega
      have e : (bitsU (i + 1) v)[i]'(by rw [bitsU_len]; exact h) = if v % 2 = 0 then 48 else 49 := by
        simp only [bitsU_succ]
        rw [List.getElem_append_right (by rw [bitsU_len]; exact Nat.le_refl _)]
        simp [bitsU_len]
      rw [e]
      split
      · exact Or.inl rfl
      · exact Or.inr rfl
/-- One more, where the ones at the end stand. -/
theorem bitsU_more : ∀ (n c i : Nat), i < n → (bitsU n c)[i]? = some 48 → (∀ k, i < k → k < n → (bitsU n c)[k]? = some 49) → bitsU n (c + 1) = (bitsU n c).take i ++ 49 :: List.replicate (n - 1 - i) 48
  | n + 1, c, i, hi, h0, h1 => by
    by_cases hin : i = n
    · subst hin
      rw [bitsU_succ, List.getElem?_append_right (by rw [bitsU_len]; exact Nat.le_refl _), bitsU_len, Nat.sub_self] at h0
      have hc : c % 2 = 0 := by
        rcases Nat.mod_two_eq_zero_or_one c with e | e
        · exact e
        · rw [e] at h0; simp at h0
      rw [bitsU_succ, bitsU_succ, show (c + 1) / 2 = c / 2 by omega, show (c + 1) % 2 = 1 by omega, List.take_append_of_le_length (by rw [bitsU_len]; exact Nat.le_refl _), List.take_of_length_le (by rw [bitsU_len]; exact Nat.le_refl _), show i + 1 - 1 - i = 0 by omega]
      rfl
    · have hlt : i < n := by omega
      have hn := h1 n (by omega) (by omega)
      rw [bitsU_succ, List.getElem?_append_right (by rw [bitsU_len]; exact Nat.le_refl _), bitsU_len, Nat.sub_self] at hn
      have hc : c % 2 = 1 := by
        rcases Nat.mod_two_eq_zero_or_one c with e | e
        · rw [e] at hn; simp at hn
        · exact e
      have h0' : (bitsU n (c / 2))[i]? = some 48 := by
        rw [bitsU_succ, List.getElem?_append_left (by rw [bitsU_len]; exact hlt)] at h0; exact h0
      have h1' : ∀ k, i < k → k < n → (bitsU n (c / 2))[k]? = some 49 := fun k hk hkn => by
        have := h1 k hk (by omega)
        rw [bitsU_succ, List.getElem?_append_left (by rw [bitsU_len]; exact hkn)] at this; exact this
      have ih := bitsU_more n (c / 2) i hlt h0' h1'
      rw [bitsU_succ n (c + 1), bitsU_succ n c, show (c + 1) / 2 = c / 2 + 1 by omega, show (c + 1) % 2 = 0 by omega, if_pos rfl, ih, List.take_append_of_le_length (by rw [bitsU_len]; omega), show n + 1 - 1 - i = (n - 1 - i) + 1 by omega, List.replicate_succ']
      simp
/-- All ones: the greatest. -/
theorem bitsU_ones : ∀ (n c : Nat), (∀ k, k < n → (bitsU n c)[k]? = some 49) → c < 2 ^ n → c + 1 = 2 ^ n
  | 0, c, _, hc => by rw [Nat.pow_zero] at hc ⊢; omega
  | n + 1, c, h, hc => by
    have hn := h n (by omega)
    rw [bitsU_succ, List.getElem?_append_right (by rw [bitsU_len]; exact Nat.le_refl _), bitsU_len, Nat.sub_self] at hn
    have hc2 : c % 2 = 1 := by
      rcases Nat.mod_two_eq_zero_or_one c with e | e
      · rw [e] at hn; simp at hn
      · exact e
    have ih := bitsU_ones n (c / 2) (fun k hk => by
      have := h k (by omega)
      rw [bitsU_succ, List.getElem?_append_left (by rw [bitsU_len]; exact hk)] at this; exact this) (by rw [Nat.pow_succ] at hc; omega)
    rw [Nat.pow_succ]
    omega

/-- The digits of a number, no more than it wants. -/
def minB (v : Nat) : List UInt8 := if h : v < 2 then [if v = 0 then 48 else 49] else minB (v / 2) ++ [if v % 2 = 0 then 48 else 49]
theorem minB_lt {v : Nat} (h : v < 2) : minB v = [if v = 0 then 48 else 49] := by rw [minB, dif_pos h]
theorem minB_ge {v : Nat} (h : ¬ v < 2) : minB v = minB (v / 2) ++ [if v % 2 = 0 then 48 else 49] := by rw [minB, dif_neg h]
theorem minB_bits : ∀ (n v : Nat), v < 2 ^ (n + 1) → (minB v).length ≤ n + 1 ∧ List.replicate (n + 1 - (minB v).length) 48 ++ minB v = bitsU (n + 1) v
  | 0, v, h => by
    have h2 : v < 2 := by simpa using h
    rw [minB_lt h2]
    refine ⟨Nat.le_refl _, ?_⟩
    have : v = 0 ∨ v = 1 := by omega
    rcases this with rfl | rfl <;> rfl
  | n + 1, v, h => by
    by_cases h2 : v < 2
    · rw [minB_lt h2]
      refine ⟨by simp, ?_⟩
      have ih := (minB_bits n (v / 2) (by rw [Nat.pow_succ] at h; omega)).2
      have e0 : v / 2 = 0 := by omega
      rw [e0, minB_lt (by decide)] at ih
      rw [bitsU_succ (n + 1), e0, ← ih]
      have hv : v = 0 ∨ v = 1 := by omega
      simp only [List.length_singleton, Nat.add_sub_cancel]
      rcases hv with rfl | rfl
      · simp [List.replicate_succ']
      · simp [List.replicate_succ']
    · have ih := minB_bits n (v / 2) (by rw [Nat.pow_succ] at h; omega)
      rw [minB_ge h2, List.length_append, List.length_singleton, bitsU_succ, ← ih.2, ← List.append_assoc]
      exact ⟨by omega, by rw [show n + 1 + 1 - ((minB (v / 2)).length + 1) = n + 1 - (minB (v / 2)).length by omega]⟩

/-- What is taken of a length: behind all codes that are no longer. -/
def topC (ls : List Nat) : Nat → Nat
  | 0 => 0
  | n + 1 => 2 * topC ls n + ls.count (n + 1)
theorem topC_succ (ls : List Nat) (n : Nat) : topC ls (n + 1) = 2 * topC ls n + ls.count (n + 1) := rfl
/-- The code that comes next, of a length, ahead of a symbol. -/
def nextC (ls : List Nat) (n i : Nat) : Nat := 2 * topC ls (n - 1) + (ls.take i).count n
theorem nextC_zero (ls : List Nat) (n : Nat) : nextC ls (n + 1) 0 = 2 * topC ls n := by simp [nextC]
theorem nextC_all (ls : List Nat) (n : Nat) : nextC ls (n + 1) ls.length = topC ls (n + 1) := by simp [nextC, topC]
theorem nextC_hit {ls : List Nat} {n i : Nat} (h : ls[i]? = some n) : nextC ls n (i + 1) = nextC ls n i + 1 := by
  obtain ⟨hi, e⟩ := List.getElem?_eq_some_iff.1 h
  unfold nextC
  rw [List.take_succ_eq_append_getElem hi, e, List.count_append, List.count_singleton_self]; omega
theorem nextC_miss {ls : List Nat} {n m i : Nat} (h : ls[i]? = some m) (hm : m ≠ n) : nextC ls n (i + 1) = nextC ls n i := by
  obtain ⟨hi, e⟩ := List.getElem?_eq_some_iff.1 h
  unfold nextC
  rw [List.take_succ_eq_append_getElem hi, e, List.count_append]
  simp [hm]
theorem topC_cons (a : Nat) (t : List Nat) : ∀ m, topC (a :: t) m = topC t m + (if 0 < a ∧ a ≤ m then 2 ^ (m - a) else 0)
  | 0 => by
    have h : ¬ (0 < a ∧ a ≤ 0) := by omega
    rw [if_neg h]; rfl
  | m + 1 => by
    have ih := topC_cons a t m
    rw [topC_succ, topC_succ, ih, List.count_cons]
    by_cases h1 : a = m + 1
    · have h2 : ¬ (0 < a ∧ a ≤ m) := by omega
      have h3 : 0 < a ∧ a ≤ m + 1 := by omega
      have h4 : (a == m + 1) = true := beq_iff_eq.2 h1
      rw [if_neg h2, if_pos h3, if_pos h4, h1, Nat.sub_self, Nat.pow_zero]; omega
    · have h4 : ¬ (a == m + 1) = true := fun e => h1 (beq_iff_eq.1 e)
      rw [if_neg h4]
      by_cases h2 : 0 < a ∧ a ≤ m
      · have h3 : 0 < a ∧ a ≤ m + 1 := by omega
        rw [if_pos h2, if_pos h3, show m + 1 - a = (m - a) + 1 by omega, Nat.pow_succ]; omega
      · have h3 : ¬ (0 < a ∧ a ≤ m + 1) := by omega
        rw [if_neg h2, if_neg h3]; omega
theorem topC_nil : ∀ m, topC [] m = 0
  | 0 => rfl
  | m + 1 => by rw [topC_succ, topC_nil m]; rfl
theorem topC_grow (ls : List Nat) (n : Nat) : ∀ d, topC ls n * 2 ^ d ≤ topC ls (n + d)
  | 0 => by simp
  | d + 1 => by
    have := topC_grow ls n d
    rw [← Nat.add_assoc, topC_succ, Nat.pow_succ, ← Nat.mul_assoc]; omega
theorem topC_le {ls : List Nat} {M n : Nat} (h : topC ls M ≤ 2 ^ M) (hn : n ≤ M) : topC ls n ≤ 2 ^ n := by
  obtain ⟨d, rfl⟩ := Nat.exists_eq_add_of_le hn
  have h1 := topC_grow ls n d
  rw [Nat.pow_add] at h
  exact Nat.le_of_mul_le_mul_right (Nat.le_trans h1 h) (Nat.two_pow_pos d)
/-- The number of a symbol's code, and the code. -/
def codeN (ls : List Nat) (i : Nat) : Nat := nextC ls (ls.getD i 0) i
def codeB (ls : List Nat) (i : Nat) : List UInt8 := bitsU (ls.getD i 0) (codeN ls i)
theorem codeB_of {ls : List Nat} {i n : Nat} (h : ls[i]? = some n) : codeB ls i = bitsU n (nextC ls n i) := by
  unfold codeB codeN; rw [List.getD_eq_getElem?_getD, h]; rfl
theorem codeB_len (ls : List Nat) (i : Nat) : (codeB ls i).length = ls.getD i 0 := bitsU_len _ _
theorem nextC_lt {ls : List Nat} {n i : Nat} (h : ls[i]? = some (n + 1)) : nextC ls (n + 1) i < topC ls (n + 1) := by
  obtain ⟨hi, e⟩ := List.getElem?_eq_some_iff.1 h
  unfold nextC
  rw [topC_succ, Nat.add_sub_cancel]
  have h1 : (ls.take (i + 1)).count (n + 1) ≤ ls.count (n + 1) := (List.take_sublist _ _).count_le _
  rw [List.take_succ_eq_append_getElem hi, e, List.count_append, List.count_singleton_self] at h1
  omega
theorem nextC_room {ls : List Nat} {M n i : Nat} (hM : topC ls M ≤ 2 ^ M) (h : ls[i]? = some n) (h0 : 0 < n) (hn : n ≤ M) : nextC ls n i < 2 ^ n := by
  obtain ⟨k, rfl⟩ : ∃ k, n = k + 1 := ⟨n - 1, by omega⟩
  exact Nat.lt_of_lt_of_le (nextC_lt h) (topC_le hM hn)
/-- No code begins another one. -/
theorem codeB_free {ls : List Nat} {M i j : Nat} (hM : topC ls M ≤ 2 ^ M) (hl : ∀ n ∈ ls, n ≤ M) (hi : i < ls.length) (hj : j < ls.length) (hne : codeB ls i ≠ []) (h : codeB ls i <+: codeB ls j) : i = j := by
  obtain ⟨a, ha⟩ : ∃ a, ls[i]? = some a := ⟨_, List.getElem?_eq_getElem hi⟩
  obtain ⟨b, hb⟩ : ∃ b, ls[j]? = some b := ⟨_, List.getElem?_eq_getElem hj⟩
  rw [codeB_of ha] at h hne
  rw [codeB_of hb] at h
  have hab : a ≤ b := by have := h.length_le; rw [bitsU_len, bitsU_len] at this; exact this
  have ha0 : 0 < a := by
    rcases Nat.eq_zero_or_pos a with e | e
    · subst e; exact absurd rfl hne
    · exact e
  have haM := hl a (List.mem_of_getElem? ha)
  have hbM := hl b (List.mem_of_getElem? hb)
  have h1 := bitsU_prefix (nextC_room hM ha ha0 haM) (nextC_room hM hb (by omega) hbM) hab h
  rcases Nat.lt_or_ge a b with hlt | hge
  · exfalso
    obtain ⟨k, rfl⟩ : ∃ k, a = k + 1 := ⟨a - 1, by omega⟩
    have h2 := nextC_lt ha
    obtain ⟨d, rfl⟩ := Nat.exists_eq_add_of_le (show k + 1 + 1 ≤ b from hlt)
    have h3 := topC_grow ls (k + 1) d
    have h4 : nextC ls (k + 1 + 1 + d) j ≥ 2 * topC ls (k + 1 + d) := by
      unfold nextC
      rw [show k + 1 + 1 + d - 1 = k + 1 + d by omega]; omega
    have e5 : k + 1 + 1 + d - (k + 1) = d + 1 := by omega
    rw [e5] at h1
    have h6 : (nextC ls (k + 1) i + 1) * 2 ^ (d + 1) ≤ nextC ls (k + 1 + 1 + d) j := by
      have h7 : (nextC ls (k + 1) i + 1) * 2 ^ d ≤ topC ls (k + 1) * 2 ^ d := Nat.mul_le_mul_right _ h2
      rw [Nat.pow_succ, ← Nat.mul_assoc]; omega
    have h8 : nextC ls (k + 1) i + 1 ≤ nextC ls (k + 1 + 1 + d) j / 2 ^ (d + 1) := (Nat.le_div_iff_mul_le (Nat.two_pow_pos _)).2 h6
    omega
  · obtain rfl : a = b := by omega
    rw [Nat.sub_self, Nat.pow_zero, Nat.div_one] at h1
    rcases Nat.lt_trichotomy i j with q | q | q
    · exfalso
      have h2 : nextC ls a (i + 1) ≤ nextC ls a j := by
        unfold nextC
        have : (ls.take (i + 1)).count a ≤ (ls.take j).count a := (List.take_sublist_take_left (by omega)).count_le _
        omega
      rw [nextC_hit ha] at h2; omega
    · exact q
    · exfalso
      have h2 : nextC ls a (j + 1) ≤ nextC ls a i := by
        unfold nextC
        have : (ls.take (j + 1)).count a ≤ (ls.take i).count a := (List.take_sublist_take_left (by omega)).count_le _
        omega
      rw [nextC_hit hb] at h2; omega
/-- All codes. -/
def codesB (ls : List Nat) : List (List UInt8) := (List.range ls.length).map (codeB ls)
theorem codesB_len (ls : List Nat) : (codesB ls).length = ls.length := by simp [codesB]
theorem codesB_get {ls : List Nat} {i : Nat} (h : i < ls.length) : (codesB ls)[i]? = some (codeB ls i) := by simp [codesB, h]

/-- Codes of which none begins another one. -/
def Free (cs : List (List UInt8)) : Prop := ∀ (i j : Nat) (a b : List UInt8), cs[i]? = some a → cs[j]? = some b → a ≠ [] → a <+: b → i = j
theorem codesB_free {ls : List Nat} {M : Nat} (hM : topC ls M ≤ 2 ^ M) (hl : ∀ n ∈ ls, n ≤ M) : Free (codesB ls) := fun i j a b ha hb hne h => by
  have hi : i < ls.length := by have := (List.getElem?_eq_some_iff.1 ha).1; rwa [codesB_len] at this
  have hj : j < ls.length := by have := (List.getElem?_eq_some_iff.1 hb).1; rwa [codesB_len] at this
  rw [codesB_get hi] at ha
  rw [codesB_get hj] at hb
  cases ha; cases hb
  exact codeB_free hM hl hi hj hne h
/-- The first symbol whose code begins a text. -/
def beginsB (cs : List (List UInt8)) (t : List UInt8) : Option Nat := cs.findIdx? fun c => decide (c ≠ []) && c.isPrefixOf t
theorem beginsB_some {cs : List (List UInt8)} {t : List UInt8} {i : Nat} (h : beginsB cs t = some i) : ∃ c, cs[i]? = some c ∧ c ≠ [] ∧ c <+: t := by
  unfold beginsB at h
  obtain ⟨hi, hp, _⟩ := List.findIdx?_eq_some_iff_getElem.1 h
  simp only [Bool.and_eq_true, decide_eq_true_eq] at hp
  exact ⟨cs[i], List.getElem?_eq_getElem hi, hp.1, List.isPrefixOf_iff_prefix.1 hp.2⟩
theorem beginsB_free {cs : List (List UInt8)} (hf : Free cs) {t : List UInt8} {i : Nat} {c : List UInt8} (hi : cs[i]? = some c) (hne : c ≠ []) (hp : c <+: t) : beginsB cs t = some i := by
  cases h : beginsB cs t with
  | none =>
    unfold beginsB at h
    have := List.findIdx?_eq_none_iff.1 h c (List.mem_of_getElem? hi)
    rw [decide_eq_true hne, List.isPrefixOf_iff_prefix.2 hp] at this
    cases this
  | some j =>
    obtain ⟨d, hj, hd, hq⟩ := beginsB_some h
    rcases List.prefix_or_prefix_of_prefix hp hq with e | e
    · rw [hf i j c d hi hj hne e]
    · rw [← hf j i d c hj hi hd e]
/-- Symbols as bits: what is wrong, the bits so far. -/
def encB (cs : List (List UInt8)) : List Int → List UInt8 → Nat × List UInt8
  | [], acc => (0, acc)
  | s :: t, acc => if s < 0 ∨ (cs.length : Int) ≤ s then (1, []) else if cs.getD s.toNat [] = [] then (5, []) else if 400 < (acc ++ cs.getD s.toNat []).length then (4, []) else encB cs t (acc ++ cs.getD s.toNat [])
/-- Bits as symbols. -/
def decB (cs : List (List UInt8)) : Nat → List UInt8 → Option (List Int)
  | _, [] => some []
  | 0, _ :: _ => none
  | f + 1, a :: t => match beginsB cs (a :: t) with
    | none => none
    | some i => (decB cs f ((a :: t).drop (cs.getD i []).length)).map ((i : Int) :: ·)
def decS (cs : List (List UInt8)) (t : List UInt8) : Option (List Int) := decB cs t.length t
theorem decB_nil (cs : List (List UInt8)) (f : Nat) : decB cs f [] = some [] := by cases f <;> rfl
theorem decB_step {cs : List (List UInt8)} {f : Nat} {t : List UInt8} {i : Nat} (h0 : t ≠ []) (h : beginsB cs t = some i) : decB cs (f + 1) t = (decB cs f (t.drop (cs.getD i []).length)).map ((i : Int) :: ·) := by
  cases t with
  | nil => exact absurd rfl h0
  | cons a t => rw [decB, h]
theorem decB_stop {cs : List (List UInt8)} {f : Nat} {t : List UInt8} (h0 : t ≠ []) (h : beginsB cs t = none) : decB cs (f + 1) t = none := by
  cases t with
  | nil => exact absurd rfl h0
  | cons a t => rw [decB, h]
/-- More steps than bits change nothing. -/
theorem decB_more {cs : List (List UInt8)} : ∀ {f g : Nat} {t : List UInt8}, t.length ≤ f → t.length ≤ g → decB cs f t = decB cs g t
  | f, g, [], _, _ => by rw [decB_nil, decB_nil]
  | 0, _, _ :: _, h, _ => absurd h (by simp)
  | _ + 1, 0, _ :: _, _, h => absurd h (by simp)
  | f + 1, g + 1, a :: t, hf, hg => by
    cases h : beginsB cs (a :: t) with
    | none => rw [decB_stop (by simp) h, decB_stop (by simp) h]
    | some i =>
      obtain ⟨c, hi, hne, hp⟩ := beginsB_some h
      have hc : cs.getD i [] = c := by rw [List.getD_eq_getElem?_getD, hi]; rfl
      have h1 : 0 < c.length := List.length_pos_iff.2 hne
      rw [decB_step (by simp) h, decB_step (by simp) h, decB_more (f := f) (g := g)]
      · rw [List.length_drop, hc, List.length_cons]; rw [List.length_cons] at hf; omega
      · rw [List.length_drop, hc, List.length_cons]; rw [List.length_cons] at hg; omega
theorem decS_step {cs : List (List UInt8)} {t : List UInt8} {i : Nat} (h0 : t ≠ []) (h : beginsB cs t = some i) : decS cs t = (decS cs (t.drop (cs.getD i []).length)).map ((i : Int) :: ·) := by
  obtain ⟨c, hi, hne, hp⟩ := beginsB_some h
  have hc : cs.getD i [] = c := by rw [List.getD_eq_getElem?_getD, hi]; rfl
  have h1 : 0 < c.length := List.length_pos_iff.2 hne
  have h2 : 0 < t.length := List.length_pos_iff.2 h0
  unfold decS
  obtain ⟨f, hf⟩ : ∃ f, t.length = f + 1 := ⟨t.length - 1, by omega⟩
  rw [hf, decB_step h0 h, decB_more (f := f) (g := (t.drop (cs.getD i []).length).length)]
  · rw [List.length_drop, hc]; omega
  · exact Nat.le_refl _
theorem decS_stop {cs : List (List UInt8)} {t : List UInt8} (h0 : t ≠ []) (h : beginsB cs t = none) : decS cs t = none := by
  obtain ⟨f, hf⟩ : ∃ f, t.length = f + 1 := ⟨t.length - 1, by have := List.length_pos_iff.2 h0; omega⟩
  unfold decS
  rw [hf, decB_stop h0 h]
theorem decS_nil (cs : List (List UInt8)) : decS cs [] = some [] := rfl
/-- The bits of symbols. -/
def catB (cs : List (List UInt8)) (l : List Int) : List UInt8 := (l.map fun s => cs.getD s.toNat []).flatten
theorem catB_cons (cs : List (List UInt8)) (s : Int) (t : List Int) : catB cs (s :: t) = cs.getD s.toNat [] ++ catB cs t := rfl
theorem catB_append (cs : List (List UInt8)) (s t : List Int) : catB cs (s ++ t) = catB cs s ++ catB cs t := by simp [catB]
/-- Symbols that are there and have codes. -/
def OkS (cs : List (List UInt8)) (l : List Int) : Prop := ∀ s ∈ l, 0 ≤ s ∧ s < cs.length ∧ cs.getD s.toNat [] ≠ []
theorem encB_ok {cs : List (List UInt8)} : ∀ {l : List Int} {acc : List UInt8}, (encB cs l acc).1 = 0 → OkS cs l ∧ (encB cs l acc).2 = acc ++ catB cs l ∧ (acc.length ≤ 400 → (acc ++ catB cs l).length ≤ 400)
  | [], acc, _ => ⟨fun s hs => by simp at hs, by simp [encB, catB], fun h => by simp [catB]; exact h⟩
  | s :: t, acc, h => by
    rw [encB] at h ⊢
    by_cases h1 : s < 0 ∨ (cs.length : Int) ≤ s
    · rw [if_pos h1] at h; cases h
    · rw [if_neg h1] at h ⊢
      by_cases h2 : cs.getD s.toNat [] = []
      · rw [if_pos h2] at h; cases h
      · rw [if_neg h2] at h ⊢
        by_cases h3 : 400 < (acc ++ cs.getD s.toNat []).length
        · rw [if_pos h3] at h; cases h
        · rw [if_neg h3] at h ⊢
          obtain ⟨a, b, c⟩ := encB_ok h
          refine ⟨fun x hx => ?_, by rw [b, catB_cons, List.append_assoc], fun _ => by rw [catB_cons, ← List.append_assoc]; exact c (by omega)⟩
          rcases List.mem_cons.1 hx with rfl | hx
          · exact ⟨by omega, by omega, h2⟩
          · exact a x hx
theorem encB_of {cs : List (List UInt8)} : ∀ {l : List Int} {acc : List UInt8}, OkS cs l → (acc ++ catB cs l).length ≤ 400 → encB cs l acc = (0, acc ++ catB cs l)
  | [], acc, _, _ => by simp [encB, catB]
  | s :: t, acc, h, hl => by
    obtain ⟨a, b, c⟩ := h s (by simp)
    rw [catB_cons, ← List.append_assoc] at hl
    rw [encB, if_neg (by omega), if_neg c, if_neg (by rw [List.length_append] at hl; omega), encB_of (fun x hx => h x (by simp [hx])) hl, catB_cons, List.append_assoc]
/-- What is encoded is decoded. -/
theorem dec_cat {cs : List (List UInt8)} (hf : Free cs) : ∀ {l : List Int} (t : List UInt8), OkS cs l → decS cs (catB cs l ++ t) = (decS cs t).map (l ++ ·)
  | [], t, _ => by simp [catB]
  | s :: l, t, h => by
    obtain ⟨a, b, c⟩ := h s (by simp)
    obtain ⟨k, rfl⟩ : ∃ k : Nat, s = k := ⟨s.toNat, by omega⟩
    rw [Int.toNat_natCast] at c
    have hk : cs[k]? = some (cs.getD k []) := by
      rw [List.getD_eq_getElem?_getD, List.getElem?_eq_getElem (by omega)]; rfl
    have hb : beginsB cs (catB cs ((k : Int) :: l) ++ t) = some k := beginsB_free hf hk c (by rw [catB_cons, Int.toNat_natCast, List.append_assoc]; exact List.prefix_append _ _)
    have h0 : catB cs ((k : Int) :: l) ++ t ≠ [] := by
      rw [catB_cons, Int.toNat_natCast]
      intro e
      simp only [List.append_eq_nil_iff] at e
      exact c e.1.1
    rw [decS_step h0 hb, catB_cons, Int.toNat_natCast, List.append_assoc, List.drop_left, dec_cat hf t (fun x hx => h x (by simp [hx]))]
    cases decS cs t <;> rfl
/-- What is decoded is encoded. -/
theorem cat_dec {cs : List (List UInt8)} : ∀ (n : Nat) {t : List UInt8} {l : List Int}, t.length ≤ n → decS cs t = some l → OkS cs l ∧ catB cs l = t
  | _, [], l, _, h => by
    rw [decS_nil] at h; cases h
    exact ⟨fun s hs => by simp at hs, rfl⟩
  | 0, _ :: _, _, h, _ => absurd h (by simp)
  | n + 1, a :: t, l, hn, h => by
    cases hb : beginsB cs (a :: t) with
    | none => rw [decS_stop (by simp) hb] at h; cases h
    | some i =>
      rw [decS_step (by simp) hb] at h
      obtain ⟨c, hi, hne, hp⟩ := beginsB_some hb
      have hc : cs.getD i [] = c := by rw [List.getD_eq_getElem?_getD, hi]; rfl
      have hlen := (List.getElem?_eq_some_iff.1 hi).1
      rw [hc] at h
      cases hd : decS cs ((a :: t).drop c.length) with
      | none => rw [hd] at h; cases h
      | some m =>
        rw [hd] at h; cases h
        have h1 : 0 < c.length := List.length_pos_iff.2 hne
        obtain ⟨x, y⟩ := cat_dec n (by rw [List.length_drop, List.length_cons]; rw [List.length_cons] at hn; omega) hd
        refine ⟨fun s hs => ?_, ?_⟩
        · rcases List.mem_cons.1 hs with rfl | hs
          · exact ⟨by omega, by omega, by rw [Int.toNat_natCast, hc]; exact hne⟩
          · exact x s hs
        · rw [catB_cons, Int.toNat_natCast, hc, y]
          obtain ⟨u, hu⟩ := hp
          rw [← hu, List.drop_left]
theorem decS_ok {cs : List (List UInt8)} {t : List UInt8} {l : List Int} (h : decS cs t = some l) : OkS cs l ∧ catB cs l = t := cat_dec t.length (Nat.le_refl _) h
theorem decS_append {cs : List (List UInt8)} (hf : Free cs) {s t : List UInt8} {a b : List Int} (hs : decS cs s = some a) (ht : decS cs t = some b) : decS cs (s ++ t) = some (a ++ b) := by
  obtain ⟨x, y⟩ := decS_ok hs
  rw [← y, dec_cat hf t x, ht]; rfl
#print axioms dec_cat
#print axioms decS_append
end Go.Proofs.YtlaeaeciomkababDoor
