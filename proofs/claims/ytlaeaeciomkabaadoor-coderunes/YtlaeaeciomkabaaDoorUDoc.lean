/-
  Plain: how long the rune is that bytes begin with, as the document tells it; its number.
-/
import Derived.Test.YtlaeaeciomkabaaDoorUMath
namespace Go.Proofs.YtlaeaeciomkabaaDoor
open Go.Lib

/-- How long a rune is that begins so; 0: none does. -/
def leadN (b : Nat) : Nat := if 194 ≤ b ∧ b ≤ 223 then 2 else if 224 ≤ b ∧ b ≤ 239 then 3 else if 240 ≤ b ∧ b ≤ 244 then 4 else 0
def lowN (b : Nat) : Nat := if b = 224 then 160 else if b = 240 then 144 else 128
def highN (b : Nat) : Nat := if b = 237 then 159 else if b = 244 then 143 else 191
def longN (n b0 b1 b2 b3 : Nat) : Nat :=
  if b0 < 128 then 1
  else if leadN b0 = 0 ∨ n < leadN b0 ∨ ¬ (lowN b0 ≤ b1 ∧ b1 ≤ highN b0) then 0
  else if 2 < leadN b0 ∧ ¬ (128 ≤ b2 ∧ b2 ≤ 191) then 0
  else if 3 < leadN b0 ∧ ¬ (128 ≤ b3 ∧ b3 ≤ 191) then 0
  else leadN b0
def valN (k b0 b1 b2 b3 : Nat) : Int :=
  if k = 1 then (b0 : Int)
  else if k = 2 then ((b0 : Int) - 192) * 64 + b1 - 128
  else if k = 3 then (((b0 : Int) - 224) * 64 + b1 - 128) * 64 + b2 - 128
  else ((((b0 : Int) - 240) * 64 + b1 - 128) * 64 + b2 - 128) * 64 + b3 - 128
theorem lowN_three {b : Nat} (h : b < 240) : lowN b = if b = 224 then 160 else 128 := by
  unfold lowN
  by_cases q : b = 224
  · rw [if_pos q, if_pos q]
  · rw [if_neg q, if_neg q, if_neg (by omega)]
theorem highN_three {b : Nat} (h : b < 240) : highN b = if b = 237 then 159 else 191 := by
  unfold highN
  by_cases q : b = 237
  · rw [if_pos q, if_pos q]
  · rw [if_neg q, if_neg q, if_neg (by omega)]
theorem lowN_ge (b : Nat) : 128 ≤ lowN b := by
  unfold lowN
  repeat' split
  all_goals omega
theorem highN_le (b : Nat) : highN b ≤ 191 := by
  unfold highN
  repeat' split
  all_goals omega
theorem long_two {n b0 b1 b2 b3 : Nat} (h : 194 ≤ b0) (h2 : b0 ≤ 223) : longN n b0 b1 b2 b3 = if n < 2 ∨ ¬ (128 ≤ b1 ∧ b1 ≤ 191) then 0 else 2 := by
  have e1 : leadN b0 = 2 := by unfold leadN; rw [if_pos ⟨h, h2⟩]
  have e2 : lowN b0 = 128 := by unfold lowN; rw [if_neg (by omega), if_neg (by omega)]
  have e3 : highN b0 = 191 := by unfold highN; rw [if_neg (by omega), if_neg (by omega)]
  unfold longN
  rw [e1, e2, e3, if_neg (by omega)]
  by_cases c : n < 2 ∨ ¬ (128 ≤ b1 ∧ b1 ≤ 191)
  · rw [if_pos (Or.inr c), if_pos c]
  · rw [if_neg (by omega), if_neg (by omega), if_neg (by omega), if_neg c]
theorem long_three {n b0 b1 b2 b3 lo hi : Nat} (h : 224 ≤ b0) (h2 : b0 ≤ 239) (hl : lowN b0 = lo) (hh : highN b0 = hi) : longN n b0 b1 b2 b3 = if n < 3 ∨ ¬ (lo ≤ b1 ∧ b1 ≤ hi) ∨ ¬ (128 ≤ b2 ∧ b2 ≤ 191) then 0 else 3 := by
  have e1 : leadN b0 = 3 := by unfold leadN; rw [if_neg (by omega), if_pos ⟨h, h2⟩]
  unfold longN
  rw [e1, hl, hh, if_neg (by omega)]
  by_cases c : n < 3 ∨ ¬ (lo ≤ b1 ∧ b1 ≤ hi)
  · rw [if_pos (Or.inr c), if_pos (by omega)]
  · rw [if_neg (by omega)]
    by_cases d : 128 ≤ b2 ∧ b2 ≤ 191
    · rw [if_neg (by omega), if_neg (by omega), if_neg (by omega)]
    · rw [if_pos ⟨by decide, d⟩, if_pos (Or.inr (Or.inr d))]
theorem long_four {n b0 b1 b2 b3 lo hi : Nat} (h : 240 ≤ b0) (h2 : b0 ≤ 244) (hl : lowN b0 = lo) (hh : highN b0 = hi) : longN n b0 b1 b2 b3 = if n < 4 ∨ ¬ (lo ≤ b1 ∧ b1 ≤ hi) ∨ ¬ (128 ≤ b2 ∧ b2 ≤ 191) ∨ ¬ (128 ≤ b3 ∧ b3 ≤ 191) then 0 else 4 := by
  have e1 : leadN b0 = 4 := by unfold leadN; rw [if_neg (by omega), if_neg (by omega), if_pos ⟨h, h2⟩]
  unfold longN
  rw [e1, hl, hh, if_neg (by omega)]
  by_cases c : n < 4 ∨ ¬ (lo ≤ b1 ∧ b1 ≤ hi)
  · rw [if_pos (Or.inr c), if_pos (by omega)]
  · rw [if_neg (by omega)]
    by_cases d : 128 ≤ b2 ∧ b2 ≤ 191
    · rw [if_neg (by omega)]
      by_cases d3 : 128 ≤ b3 ∧ b3 ≤ 191
      · rw [if_neg (by omega), if_neg (by omega)]
      · rw [if_pos ⟨by decide, d3⟩, if_pos (Or.inr (Or.inr (Or.inr d3)))]
    · rw [if_pos ⟨by decide, d⟩, if_pos (Or.inr (Or.inr (Or.inl d)))]
theorem long_none {n b0 b1 b2 b3 : Nat} (h : 128 ≤ b0) (h2 : b0 < 194 ∨ 244 < b0) : longN n b0 b1 b2 b3 = 0 := by
  have e1 : leadN b0 = 0 := by unfold leadN; rw [if_neg (by omega), if_neg (by omega), if_neg (by omega)]
  unfold longN
  rw [e1, if_neg (by omega), if_pos (Or.inl rfl)]
set_option maxRecDepth 100000 in
set_option maxHeartbeats 8000000 in
/-- The document's and the model's are the same. -/
theorem long_num (n b0 b1 b2 b3 : Nat) (h0 : b0 < 256) (h1 : b1 < 256) (h2 : b2 < 256) (h3 : b3 < 256) :
    (longN n b0 b1 b2 b3 = 0 ∧ (decodeN n b0 b1 b2 b3).1 = 65533 ∧ (decodeN n b0 b1 b2 b3).2 = 1 ∧ 128 ≤ b0) ∨
    (longN n b0 b1 b2 b3 ≠ 0 ∧ (decodeN n b0 b1 b2 b3).2 = longN n b0 b1 b2 b3 ∧ ((decodeN n b0 b1 b2 b3).1 : Int) = valN (longN n b0 b1 b2 b3) b0 b1 b2 b3 ∧ ¬ ((decodeN n b0 b1 b2 b3).1 = 65533 ∧ (decodeN n b0 b1 b2 b3).2 = 1)) := by
  unfold decodeN
  by_cases c0 : b0 < 128
  · have e : longN n b0 b1 b2 b3 = 1 := by unfold longN; rw [if_pos c0]
    rw [if_pos c0, e]
    exact Or.inr ⟨by decide, rfl, by unfold valN; rw [if_pos rfl], by simp only; omega⟩
  · rw [if_neg c0]
    by_cases c1 : b0 / 32 = 6 ∧ (1 < n ∧ b1 / 64 = 2)
    · rw [if_pos c1]
      by_cases d : b0 % 32 * 64 + b1 % 64 ≥ 128
      · have e : longN n b0 b1 b2 b3 = 2 := by rw [long_two (by omega) (by omega), if_neg (by omega)]
        rw [if_pos d, e]
        exact Or.inr ⟨by decide, rfl, by unfold valN; rw [if_neg (by decide), if_pos rfl]; simp only; omega, by simp only; omega⟩
      · have e : longN n b0 b1 b2 b3 = 0 := long_none (by omega) (by omega)
        rw [if_neg d, e]
        exact Or.inl ⟨rfl, rfl, rfl, by omega⟩
    · rw [if_neg c1]
      by_cases c2 : b0 / 16 = 14 ∧ (1 < n ∧ b1 / 64 = 2) ∧ (2 < n ∧ b2 / 64 = 2)
      · rw [if_pos c2]
        have hlo : lowN b0 = if b0 = 224 then 160 else 128 := lowN_three (by omega)
        have hhi : highN b0 = if b0 = 237 then 159 else 191 := highN_three (by omega)
        by_cases d : b0 % 16 * 4096 + b1 % 64 * 64 + b2 % 64 ≥ 2048 ∧ (b0 % 16 * 4096 + b1 % 64 * 64 + b2 % 64 < 55296 ∨ (57344 ≤ b0 % 16 * 4096 + b1 % 64 * 64 + b2 % 64 ∧ b0 % 16 * 4096 + b1 % 64 * 64 + b2 % 64 ≤ 1114111))
        · have e : longN n b0 b1 b2 b3 = 3 := by
            rw [long_three (by omega) (by omega) hlo hhi, if_neg]
            split <;> split <;> omega
          rw [if_pos d, e]
          exact Or.inr ⟨by decide, rfl, by unfold valN; rw [if_neg (by decide), if_neg (by decide), if_pos rfl]; simp only; omega, by simp only; omega⟩
        · have e : longN n b0 b1 b2 b3 = 0 := by
            rw [long_three (by omega) (by omega) hlo hhi, if_pos]
            split <;> split <;> omega
          rw [if_neg d, e]
          exact Or.inl ⟨rfl, rfl, rfl, by omega⟩
      · rw [if_neg c2]
        by_cases c3 : b0 / 8 = 30 ∧ (1 < n ∧ b1 / 64 = 2) ∧ (2 < n ∧ b2 / 64 = 2) ∧ (3 < n ∧ b3 / 64 = 2)
        · rw [if_pos c3]
          by_cases d : b0 % 8 * 262144 + b1 % 64 * 4096 + b2 % 64 * 64 + b3 % 64 ≥ 65536 ∧ (b0 % 8 * 262144 + b1 % 64 * 4096 + b2 % 64 * 64 + b3 % 64 < 55296 ∨ (57344 ≤ b0 % 8 * 262144 + b1 % 64 * 4096 + b2 % 64 * 64 + b3 % 64 ∧ b0 % 8 * 262144 + b1 % 64 * 4096 + b2 % 64 * 64 + b3 % 64 ≤ 1114111))
          · have hlo : lowN b0 = if b0 = 240 then 144 else 128 := by unfold lowN; rw [if_neg (by omega)]
            have hhi : highN b0 = if b0 = 244 then 143 else 191 := by unfold highN; rw [if_neg (by omega)]
            have e : longN n b0 b1 b2 b3 = 4 := by
              rw [long_four (by omega) (by omega) hlo hhi, if_neg]
              split <;> split <;> omega
            rw [if_pos d, e]
            exact Or.inr ⟨by decide, rfl, by unfold valN; rw [if_neg (by decide), if_neg (by decide), if_neg (by decide)]; simp only; omega, by simp only; omega⟩
          · have e : longN n b0 b1 b2 b3 = 0 := by
              by_cases q : b0 ≤ 244
              · have hlo : lowN b0 = if b0 = 240 then 144 else 128 := by unfold lowN; rw [if_neg (by omega)]
                have hhi : highN b0 = if b0 = 244 then 143 else 191 := by unfold highN; rw [if_neg (by omega)]
                rw [long_four (by omega) q hlo hhi, if_pos]
                split <;> split <;> omega
              · exact long_none (by omega) (by omega)
            rw [if_neg d, e]
            exact Or.inl ⟨rfl, rfl, rfl, by omega⟩
        · rw [if_neg c3]
          have e : longN n b0 b1 b2 b3 = 0 := by
            by_cases q2 : 194 ≤ b0 ∧ b0 ≤ 223
            · rw [long_two q2.1 q2.2, if_pos (by omega)]
            · by_cases q3 : 224 ≤ b0 ∧ b0 ≤ 239
              · have hlo : 128 ≤ lowN b0 := lowN_ge _
                have hhi : highN b0 ≤ 191 := highN_le _
                rw [long_three q3.1 q3.2 rfl rfl, if_pos (by omega)]
              · by_cases q4 : 240 ≤ b0 ∧ b0 ≤ 244
                · have hlo : 128 ≤ lowN b0 := lowN_ge _
                  have hhi : highN b0 ≤ 191 := highN_le _
                  rw [long_four q4.1 q4.2 rfl rfl, if_pos (by omega)]
                · exact long_none (by omega) (by omega)
          rw [e]
          exact Or.inl ⟨rfl, rfl, rfl, by omega⟩
def longL (l : List UInt8) : Nat := longN l.length (bAt l 0) (bAt l 1) (bAt l 2) (bAt l 3)
def valL (l : List UInt8) : Int := valN (longL l) (bAt l 0) (bAt l 1) (bAt l 2) (bAt l 3)
theorem long_dec (l : List UInt8) : (longL l = 0 ∧ (decL l).2 = 1 ∧ itemL l = -1 - (bAt l 0 : Int)) ∨ (longL l ≠ 0 ∧ (decL l).2 = longL l ∧ itemL l = valL l) := by
  rcases long_num l.length (bAt l 0) (bAt l 1) (bAt l 2) (bAt l 3) (bAt_lt _ _) (bAt_lt _ _) (bAt_lt _ _) (bAt_lt _ _) with ⟨a, b, c, _⟩ | ⟨a, b, c, d⟩
  · exact Or.inl ⟨a, c, by unfold itemL; exact if_pos ⟨b, c⟩⟩
  · exact Or.inr ⟨a, b, by unfold itemL; exact (if_neg d).trans c⟩
theorem long_le (l : List UInt8) : longL l ≤ 4 := by
  unfold longL longN leadN
  repeat' split
  all_goals omega
/-- What the bytes of a rune of so many bytes are, as far as its number goes. -/
def leadOk (k b0 b1 b2 : Nat) : Prop := (k = 1 ∨ (k = 2 ∧ 192 ≤ b0 ∧ b0 ≤ 223 ∧ 128 ≤ b1) ∨ (k = 3 ∧ 224 ≤ b0 ∧ b0 ≤ 239 ∧ 128 ≤ b1 ∧ 128 ≤ b2) ∨ (k = 4 ∧ 240 ≤ b0 ∧ b0 ≤ 244 ∧ 128 ≤ b1 ∧ 128 ≤ b2))
theorem long_rg {l : List UInt8} {k : Nat} (h : longL l = k + 0) (hk : k ≠ 0 := by decide) : 0 ≤ valN k (bAt l 0) (bAt l 1) (bAt l 2) (bAt l 3) ∧ leadOk k (bAt l 0) (bAt l 1) (bAt l 2) := by
  rw [Nat.add_zero] at h
  obtain ⟨n, hn⟩ : ∃ n, l.length = n := ⟨_, rfl⟩
  unfold longL at h
  rw [hn] at h
  generalize bAt l 0 = b0 at h ⊢
  generalize bAt l 1 = b1 at h ⊢
  generalize bAt l 2 = b2 at h ⊢
  generalize bAt l 3 = b3 at h ⊢
  have hlo := lowN_ge b0
  unfold longN at h
  unfold leadOk valN
  by_cases c0 : b0 < 128
  · rw [if_pos c0] at h
    subst h
    rw [if_pos rfl]
    omega
  · rw [if_neg c0] at h
    by_cases c1 : leadN b0 = 0 ∨ n < leadN b0 ∨ ¬ (lowN b0 ≤ b1 ∧ b1 ≤ highN b0)
    · rw [if_pos c1] at h; omega
    · rw [if_neg c1] at h
      by_cases c2 : 2 < leadN b0 ∧ ¬ (128 ≤ b2 ∧ b2 ≤ 191)
      · rw [if_pos c2] at h; omega
      · rw [if_neg c2] at h
        by_cases c3 : 3 < leadN b0 ∧ ¬ (128 ≤ b3 ∧ b3 ≤ 191)
        · rw [if_pos c3] at h; omega
        · rw [if_neg c3] at h
          have hld : (leadN b0 = 2 ∧ 194 ≤ b0 ∧ b0 ≤ 223) ∨ (leadN b0 = 3 ∧ 224 ≤ b0 ∧ b0 ≤ 239) ∨ (leadN b0 = 4 ∧ 240 ≤ b0 ∧ b0 ≤ 244) ∨ leadN b0 = 0 := by
            unfold leadN
            repeat' split
            all_goals omega
          rw [h] at hld c1 c2 c3
          rcases hld with ⟨e, q⟩ | ⟨e, q⟩ | ⟨e, q⟩ | e
          · subst e; rw [if_neg (by decide), if_pos rfl]; omega
          · subst e; rw [if_neg (by decide), if_neg (by decide), if_pos rfl]; omega
          · subst e; rw [if_neg (by decide), if_neg (by decide), if_neg (by decide)]; omega
          · exact absurd e hk
#print axioms long_dec
end Go.Proofs.YtlaeaeciomkabaaDoor
