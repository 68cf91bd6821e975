/-
  Plain facts: the document's lengths: groups in the order of their turns, of which the two lightest are sought, round by round.
-/
import Derived.Test.YtimlgdedgjpkdaaDoorHuPl
import Derived.Test.YtimlgdedgjpkdaaDoorHuC
namespace Go.Proofs.YtimlgdedgjpkdaaDoor
open Go.RowKit Go.Sort Go.Proofs

/-- The groups that are there: a weight below 0 is that of none. -/
def liveF : Nat → List Int → List Gr
  | _, [] => []
  | k, x :: r => if 0 ≤ x then (x.toNat, k) :: liveF (k + 1) r else liveF (k + 1) r
theorem liveF_append : ∀ (k : Nat) (A B : List Int), liveF k (A ++ B) = liveF k A ++ liveF (k + A.length) B
  | k, [], B => by simp [liveF]
  | k, x :: A, B => by
    rw [List.cons_append]
    simp only [liveF]
    rw [liveF_append (k + 1) A B, List.length_cons, show k + 1 + A.length = k + (A.length + 1) by omega]
    by_cases h : 0 ≤ x
    · rw [if_pos h, if_pos h]; rfl
    · rw [if_neg h, if_neg h]
theorem liveF_mem : ∀ (k : Nat) (W : List Int) (g : Gr), g ∈ liveF k W ↔ ∃ (t : Nat) (x : Int), W[t]? = some x ∧ 0 ≤ x ∧ g = (x.toNat, k + t)
  | k, [], g => by simp [liveF]
  | k, y :: W, g => by
    have ih := liveF_mem (k + 1) W g
    have step : (∃ (t : Nat) (x : Int), W[t]? = some x ∧ 0 ≤ x ∧ g = (x.toNat, k + 1 + t)) ↔ ∃ (t : Nat) (x : Int), 0 < t ∧ (y :: W)[t]? = some x ∧ 0 ≤ x ∧ g = (x.toNat, k + t) := by
      constructor
      · rintro ⟨t, x, a, b, c⟩
        exact ⟨t + 1, x, Nat.succ_pos _, by simpa using a, b, by rw [c]; congr 1; omega⟩
      · rintro ⟨t, x, h0, a, b, c⟩
        obtain ⟨u, rfl⟩ : ∃ u, t = u + 1 := ⟨t - 1, by omega⟩
        exact ⟨u, x, by simpa using a, b, by rw [c]; congr 1; omega⟩
    simp only [liveF]
    by_cases h : 0 ≤ y
    · rw [if_pos h, List.mem_cons, ih, step]
      constructor
      · rintro (rfl | ⟨t, x, _, a, b, c⟩)
        · exact ⟨0, y, rfl, h, rfl⟩
        · exact ⟨t, x, a, b, c⟩
      · rintro ⟨t, x, a, b, c⟩
        rcases Nat.eq_zero_or_pos t with z | z
        · subst z
          left
          simp only [List.getElem?_cons_zero, Option.some.injEq] at a
          rw [c, a]; rfl
        · exact Or.inr ⟨t, x, z, a, b, c⟩
    · rw [if_neg h, ih, step]
      constructor
      · rintro ⟨t, x, _, a, b, c⟩
        exact ⟨t, x, a, b, c⟩
      · rintro ⟨t, x, a, b, c⟩
        rcases Nat.eq_zero_or_pos t with z | z
        · subst z
          simp only [List.getElem?_cons_zero, Option.some.injEq] at a
          omega
        · exact ⟨t, x, z, a, b, c⟩
theorem liveF_snoc {W : List Int} {z : Int} (h : 0 ≤ z) : liveF 0 (W ++ [z]) = liveF 0 W ++ [(z.toNat, W.length)] := by
  rw [liveF_append]
  simp [liveF, h]
theorem liveF_gone {W : List Int} {a : Nat} {x : Int} (ha : W[a]? = some x) (hx : 0 ≤ x) : (liveF 0 W).Perm ((x.toNat, a) :: liveF 0 (W.set a (-1))) := by
  obtain ⟨hi, e⟩ := List.getElem?_eq_some_iff.1 ha
  have e1 : W = W.take a ++ x :: W.drop (a + 1) := by rw [← e, List.getElem_cons_drop, List.take_append_drop]
  have e2 : W.set a (-1) = W.take a ++ (-1) :: W.drop (a + 1) := by rw [List.set_eq_take_append_cons_drop, if_pos hi]
  have hl : (W.take a).length = a := by rw [List.length_take]; omega
  have r1 : liveF 0 W = liveF 0 (W.take a) ++ (x.toNat, a) :: liveF (a + 1) (W.drop (a + 1)) := by
    conv => lhs; rw [e1]
    rw [liveF_append, hl, Nat.zero_add]
    simp only [liveF]
    rw [if_pos hx]
  have r2 : liveF 0 (W.set a (-1)) = liveF 0 (W.take a) ++ liveF (a + 1) (W.drop (a + 1)) := by
    rw [e2, liveF_append, hl, Nat.zero_add]
    simp only [liveF]
    rw [if_neg (by decide)]
  rw [r1, r2]
  exact List.perm_middle
theorem liveF_nats (ws : List Nat) : ∀ k, liveF k (ws.map fun n : Nat => (n : Int)) = ws.zipIdx k := by
  induction ws with
  | nil => intro k; rfl
  | cons a t ih =>
    intro k
    rw [List.map_cons, List.zipIdx_cons]
    simp only [liveF]
    rw [if_pos (Int.natCast_nonneg a), ih, Int.toNat_natCast]

/-- The lighter one of two that are there, by weight and turn. -/
def leI (x : Int) (t : Nat) (y : Int) (u : Nat) : Prop := x < y ∨ (x = y ∧ t ≤ u)
/-- What the search has found among the first i: the two lightest, as far as there are. -/
def Find2 (W : List Int) (i : Nat) (a b : Int) : Prop :=
  (a = -1 ∧ b = -1 ∧ ∀ (t : Nat) (x : Int), t < i → W[t]? = some x → x < 0) ∨
  (∃ (ta : Nat) (xa : Int), a = ta ∧ b = -1 ∧ ta < i ∧ W[ta]? = some xa ∧ 0 ≤ xa ∧ ∀ (t : Nat) (x : Int), t < i → W[t]? = some x → 0 ≤ x → t = ta) ∨
  (∃ (ta tb : Nat) (xa xb : Int), a = ta ∧ b = tb ∧ ta ≠ tb ∧ ta < i ∧ tb < i ∧ W[ta]? = some xa ∧ W[tb]? = some xb ∧ 0 ≤ xa ∧ 0 ≤ xb ∧
    (∀ (t : Nat) (x : Int), t < i → W[t]? = some x → 0 ≤ x → leI xa ta x t) ∧ ∀ (t : Nat) (x : Int), t < i → W[t]? = some x → 0 ≤ x → t ≠ ta → leI xb tb x t)
theorem lt_succ_cases {t i : Nat} (h : t < i + 1) : t < i ∨ t = i := by omega
theorem find2_begin (W : List Int) : Find2 W 0 (-1) (-1) := Or.inl ⟨rfl, rfl, fun t x h => by omega⟩
theorem find2_skip {W : List Int} {i : Nat} {a b y : Int} (h : Find2 W i a b) (hy : W[i]? = some y) (h0 : y < 0) : Find2 W (i + 1) a b := by
  have key : ∀ (t : Nat) (x : Int), t < i + 1 → W[t]? = some x → 0 ≤ x → t < i := fun t x ht hx hx0 => by
    rcases lt_succ_cases ht with z | rfl
    · exact z
    · rw [hy] at hx; cases hx; omega
  rcases h with ⟨h1, h2, h3⟩ | ⟨ta, xa, h1, h2, h3, h4, h5, h6⟩ | ⟨ta, tb, xa, xb, h1, h2, h3, h4, h5, h6, h7, h8, h9, h10, h11⟩
  · refine Or.inl ⟨h1, h2, fun t x ht hx => ?_⟩
    rcases lt_succ_cases ht with z | rfl
    · exact h3 t x z hx
    · rw [hy] at hx; cases hx; exact h0
  · exact Or.inr (Or.inl ⟨ta, xa, h1, h2, by omega, h4, h5, fun t x ht hx hx0 => h6 t x (key t x ht hx hx0) hx hx0⟩)
  · exact Or.inr (Or.inr ⟨ta, tb, xa, xb, h1, h2, h3, by omega, by omega, h6, h7, h8, h9, fun t x ht hx hx0 => h10 t x (key t x ht hx hx0) hx hx0, fun t x ht hx hx0 hne => h11 t x (key t x ht hx hx0) hx hx0 hne⟩)
/-- The first one. -/
theorem find2_first {W : List Int} {i : Nat} {y : Int} (h : ∀ (t : Nat) (x : Int), t < i → W[t]? = some x → x < 0) (hy : W[i]? = some y) (h0 : 0 ≤ y) : Find2 W (i + 1) i (-1) :=
  Or.inr (Or.inl ⟨i, y, rfl, rfl, by omega, hy, h0, fun t x ht hx hx0 => by
    rcases lt_succ_cases ht with z | z
    · have := h t x z hx; omega
    · exact z⟩)
/-- A second one, that is lighter. -/
theorem find2_two {W : List Int} {i ta : Nat} {xa y : Int} (h3 : ta < i) (h4 : W[ta]? = some xa) (h5 : 0 ≤ xa) (h6 : ∀ (t : Nat) (x : Int), t < i → W[t]? = some x → 0 ≤ x → t = ta) (hy : W[i]? = some y) (h0 : 0 ≤ y) :
    (y < xa → Find2 W (i + 1) i ta) ∧ (¬ y < xa → Find2 W (i + 1) ta i) := by
  have key : ∀ (t : Nat) (x : Int), t < i + 1 → W[t]? = some x → 0 ≤ x → (t = ta ∧ x = xa) ∨ (t = i ∧ x = y) := fun t x ht hx hx0 => by
    rcases lt_succ_cases ht with z | rfl
    · have e := h6 t x z hx hx0
      subst e
      rw [h4] at hx; cases hx
      exact Or.inl ⟨rfl, rfl⟩
    · rw [hy] at hx; cases hx
      exact Or.inr ⟨rfl, rfl⟩
  constructor
  · intro hlt
    refine Or.inr (Or.inr ⟨i, ta, y, xa, rfl, rfl, by omega, by omega, by omega, hy, h4, h0, h5, fun t x ht hx hx0 => ?_, fun t x ht hx hx0 hne => ?_⟩)
    · rcases key t x ht hx hx0 with ⟨rfl, rfl⟩ | ⟨rfl, rfl⟩
      · exact Or.inl hlt
      · exact Or.inr ⟨rfl, Nat.le_refl _⟩
    · rcases key t x ht hx hx0 with ⟨rfl, rfl⟩ | ⟨rfl, rfl⟩
      · exact Or.inr ⟨rfl, Nat.le_refl _⟩
      · exact absurd rfl hne
  · intro hge
    refine Or.inr (Or.inr ⟨ta, i, xa, y, rfl, rfl, by omega, by omega, by omega, h4, hy, h5, h0, fun t x ht hx hx0 => ?_, fun t x ht hx hx0 hne => ?_⟩)
    · rcases key t x ht hx hx0 with ⟨rfl, rfl⟩ | ⟨rfl, rfl⟩
      · exact Or.inr ⟨rfl, Nat.le_refl _⟩
      · unfold leI; omega
    · rcases key t x ht hx hx0 with ⟨rfl, rfl⟩ | ⟨rfl, rfl⟩
      · exact absurd rfl hne
      · exact Or.inr ⟨rfl, Nat.le_refl _⟩
/-- One more than two. -/
theorem find2_more {W : List Int} {i ta tb : Nat} {xa xb y : Int} (h3 : ta ≠ tb) (h4 : ta < i) (h5 : tb < i) (h6 : W[ta]? = some xa) (h7 : W[tb]? = some xb) (h8 : 0 ≤ xa) (h9 : 0 ≤ xb)
    (h10 : ∀ (t : Nat) (x : Int), t < i → W[t]? = some x → 0 ≤ x → leI xa ta x t) (h11 : ∀ (t : Nat) (x : Int), t < i → W[t]? = some x → 0 ≤ x → t ≠ ta → leI xb tb x t) (hy : W[i]? = some y) (h0 : 0 ≤ y) :
    (y < xa → Find2 W (i + 1) i ta) ∧ (¬ y < xa → y < xb → Find2 W (i + 1) ta i) ∧ (¬ y < xa → ¬ y < xb → Find2 W (i + 1) ta tb) := by
  have key : ∀ (t : Nat) (x : Int), t < i + 1 → W[t]? = some x → (t < i) ∨ (t = i ∧ x = y) := fun t x ht hx => by
    rcases lt_succ_cases ht with z | rfl
    · exact Or.inl z
    · rw [hy] at hx; cases hx
      exact Or.inr ⟨rfl, rfl⟩
  refine ⟨fun hlt => ?_, fun hge hlt => ?_, fun hge hge2 => ?_⟩
  · refine Or.inr (Or.inr ⟨i, ta, y, xa, rfl, rfl, by omega, by omega, by omega, hy, h6, h0, h8, fun t x ht hx hx0 => ?_, fun t x ht hx hx0 hne => ?_⟩)
    · rcases key t x ht hx with z | ⟨rfl, rfl⟩
      · have := h10 t x z hx hx0
        unfold leI at *; omega
      · exact Or.inr ⟨rfl, Nat.le_refl _⟩
    · rcases key t x ht hx with z | ⟨rfl, rfl⟩
      · exact h10 t x z hx hx0
      · exact absurd rfl hne
  · refine Or.inr (Or.inr ⟨ta, i, xa, y, rfl, rfl, by omega, by omega, by omega, h6, hy, h8, h0, fun t x ht hx hx0 => ?_, fun t x ht hx hx0 hne => ?_⟩)
    · rcases key t x ht hx with z | ⟨rfl, rfl⟩
      · exact h10 t x z hx hx0
      · unfold leI; omega
    · rcases key t x ht hx with z | ⟨rfl, rfl⟩
      · have := h11 t x z hx hx0 hne
        unfold leI at *; omega
      · exact Or.inr ⟨rfl, Nat.le_refl _⟩
  · refine Or.inr (Or.inr ⟨ta, tb, xa, xb, rfl, rfl, h3, by omega, by omega, h6, h7, h8, h9, fun t x ht hx hx0 => ?_, fun t x ht hx hx0 hne => ?_⟩)
    · rcases key t x ht hx with z | ⟨rfl, rfl⟩
      · exact h10 t x z hx hx0
      · unfold leI; omega
    · rcases key t x ht hx with z | ⟨rfl, rfl⟩
      · exact h11 t x z hx hx0 hne
      · unfold leI; omega
/-- The two that the search has found are the two lightest groups. -/
theorem find2_done {W : List Int} {a b : Int} (h : Find2 W W.length a b) (h2 : 2 ≤ (liveF 0 W).length) :
    ∃ (ta tb : Nat) (xa xb : Int), a = ta ∧ b = tb ∧ ta ≠ tb ∧ W[ta]? = some xa ∧ W[tb]? = some xb ∧ 0 ≤ xa ∧ 0 ≤ xb ∧
      FirstG (liveF 0 W) (xa.toNat, ta) ∧ (liveF 0 W).Perm ((xa.toNat, ta) :: liveF 0 (W.set ta (-1))) ∧ FirstG (liveF 0 (W.set ta (-1))) (xb.toNat, tb) ∧ (liveF 0 (W.set ta (-1))).Perm ((xb.toNat, tb) :: liveF 0 ((W.set ta (-1)).set tb (-1))) := by
  have lt_len : ∀ {t : Nat} {x : Int}, W[t]? = some x → t < W.length := fun {t x} hx => (List.getElem?_eq_some_iff.1 hx).1
  rcases h with ⟨_, _, h3⟩ | ⟨ta, xa, _, _, _, h4, h5, h6⟩ | ⟨ta, tb, xa, xb, h1, h2', h3, h4, h5, h6, h7, h8, h9, h10, h11⟩
  · exfalso
    have e : liveF 0 W = [] := by
      cases hh : liveF 0 W with
      | nil => rfl
      | cons g r =>
        exfalso
        obtain ⟨t, x, hx, h0, _⟩ := (liveF_mem 0 W g).1 (by rw [hh]; exact List.mem_cons_self)
        have := h3 t x (lt_len hx) hx
        omega
    rw [e] at h2; simp at h2
  · exfalso
    have p := liveF_gone h4 h5
    have e : liveF 0 (W.set ta (-1)) = [] := by
      cases hh : liveF 0 (W.set ta (-1)) with
      | nil => rfl
      | cons g r =>
        exfalso
        obtain ⟨t, x, hx, h0, _⟩ := (liveF_mem 0 _ g).1 (by rw [hh]; exact List.mem_cons_self)
        by_cases ht : ta = t
        · subst ht
          rw [List.getElem?_set_self (lt_len h4)] at hx
          cases hx; omega
        · rw [List.getElem?_set_ne ht] at hx
          exact ht (h6 t x (lt_len hx) hx h0).symm
    rw [e] at p
    have := p.length_eq
    rw [this] at h2; simp at h2
  · have h7' : (W.set ta (-1))[tb]? = some xb := by rw [List.getElem?_set_ne h3]; exact h7
    have p1 := liveF_gone h6 h8
    have p2 := liveF_gone h7' h9
    refine ⟨ta, tb, xa, xb, h1, h2', h3, h6, h7, h8, h9, ⟨p1.symm.subset List.mem_cons_self, fun g hg => ?_⟩, p1, ⟨p2.symm.subset List.mem_cons_self, fun g hg => ?_⟩, p2⟩
    · obtain ⟨t, x, hx, h0, rfl⟩ := (liveF_mem 0 W g).1 hg
      have := h10 t x (lt_len hx) hx h0
      unfold leI at this
      unfold leG
      simp only
      omega
    · obtain ⟨t, x, hx, h0, rfl⟩ := (liveF_mem 0 _ g).1 hg
      by_cases ht : ta = t
      · subst ht
        rw [List.getElem?_set_self (lt_len h6)] at hx
        cases hx; omega
      · rw [List.getElem?_set_ne ht] at hx
        have := h11 t x (lt_len hx) hx h0 (fun e => ht e.symm)
        unfold leI at this
        unfold leG
        simp only
        omega
/-- The state of the rounds: r - 1 of them are done. -/
structure HuQ (n : Nat) (D0 : Nat → Nat) (r : Nat) (W of out : List Int) : Prop where
  wlen : W.length + 1 = n + r
  many : (liveF 0 W).length + r = n + 1
  tot : ((liveF 0 W).map Prod.fst).sum ≤ 40000
  olen : of.length = n
  outlen : out.length = n
  rel : ∀ s, s < n → ∃ t k : Nat, of[s]? = some (t : Int) ∧ t < W.length ∧ out[s]? = some (k : Int) ∧ k + huffD (n - r) W.length (liveF 0 W) t = D0 s
/-- What a round makes of the lists. -/
def hitZ (a b : Nat) (x : Int) : Bool := decide (x = (a : Int)) || decide (x = (b : Int))
theorem HuQ.step {n r : Nat} {D0 : Nat → Nat} {W of out of2 out2 : List Int} {ta tb : Nat} {xa xb : Int} (h : HuQ n D0 r W of out) (_hr : r < n) (hne : ta ≠ tb) (ha : W[ta]? = some xa) (hb : W[tb]? = some xb) (xa0 : 0 ≤ xa) (xb0 : 0 ≤ xb)
    (f1 : FirstG (liveF 0 W) (xa.toNat, ta)) (p1 : (liveF 0 W).Perm ((xa.toNat, ta) :: liveF 0 (W.set ta (-1)))) (f2 : FirstG (liveF 0 (W.set ta (-1))) (xb.toNat, tb)) (p2 : (liveF 0 (W.set ta (-1))).Perm ((xb.toNat, tb) :: liveF 0 ((W.set ta (-1)).set tb (-1))))
    (l1 : of2.length = n) (l2 : out2.length = n)
    (e1 : ∀ (s : Nat) (t : Int), of[s]? = some t → of2[s]? = some (if hitZ ta tb t then (W.length : Int) else t)) (e2 : ∀ (s : Nat) (t k : Int), of[s]? = some t → out[s]? = some k → out2[s]? = some (if hitZ ta tb t then k + 1 else k)) :
    HuQ n D0 (r + 1) (((W ++ [xa + xb]).set ta (-1)).set tb (-1)) of2 out2 ∧ xa + xb ≤ 40000 := by
  have la := (List.getElem?_eq_some_iff.1 ha).1
  have lb := (List.getElem?_eq_some_iff.1 hb).1
  have eW : ((W ++ [xa + xb]).set ta (-1)).set tb (-1) = (W.set ta (-1)).set tb (-1) ++ [xa + xb] := by
    rw [List.set_append_left _ _ la, List.set_append_left _ _ (by rw [List.length_set]; exact lb)]
  have eL : ((W.set ta (-1)).set tb (-1)).length = W.length := by rw [List.length_set, List.length_set]
  have eF : liveF 0 (((W ++ [xa + xb]).set ta (-1)).set tb (-1)) = liveF 0 ((W.set ta (-1)).set tb (-1)) ++ [((xa + xb).toNat, W.length)] := by
    rw [eW, liveF_snoc (Int.add_nonneg xa0 xb0), eL]
  have hab : (xa + xb).toNat = xa.toNat + xb.toNat := by omega
  have pF : (liveF 0 (((W ++ [xa + xb]).set ta (-1)).set tb (-1))).Perm ((xa.toNat + xb.toNat, W.length) :: liveF 0 ((W.set ta (-1)).set tb (-1))) := by
    rw [eF, hab]
    exact List.perm_append_comm
  have pp := p1.trans (p2.cons _)
  have s1 : ((liveF 0 W).map Prod.fst).sum = xa.toNat + (xb.toNat + ((liveF 0 ((W.set ta (-1)).set tb (-1))).map Prod.fst).sum) := by
    rw [(pp.map Prod.fst).sum_nat]; simp
  have s2 : ((liveF 0 (((W ++ [xa + xb]).set ta (-1)).set tb (-1))).map Prod.fst).sum = (xa.toNat + xb.toNat) + ((liveF 0 ((W.set ta (-1)).set tb (-1))).map Prod.fst).sum := by
    rw [(pF.map Prod.fst).sum_nat]; simp
  have ht := h.tot
  have c1 := p1.length_eq
  have c2 := p2.length_eq
  have c3 := pF.length_eq
  rw [List.length_cons] at c1 c2 c3
  have hm := h.many
  have hwl : (((W ++ [xa + xb]).set ta (-1)).set tb (-1)).length = W.length + 1 := by rw [List.length_set, List.length_set, List.length_append]; rfl
  refine ⟨⟨by rw [hwl]; have := h.wlen; omega, by omega, by omega, l1, l2, fun s hs => ?_⟩, by omega⟩
  obtain ⟨t, k, r1, r2, r3, r4⟩ := h.rel s hs
  rw [show n - r = (n - (r + 1)) + 1 by omega, huffD_two (a := (xa.toNat, ta)) (b := (xb.toNat, tb)) f1 p1 f2 p2] at r4
  have hD : huffD (n - (r + 1)) (((W ++ [xa + xb]).set ta (-1)).set tb (-1)).length (liveF 0 (((W ++ [xa + xb]).set ta (-1)).set tb (-1))) = huffD (n - (r + 1)) (W.length + 1) ((xa.toNat + xb.toNat, W.length) :: liveF 0 ((W.set ta (-1)).set tb (-1))) := by
    rw [hwl]; exact huffD_perm _ _ _ _ pF
  have k1 := e1 s _ r1
  have k2 := e2 s _ _ r1 r3
  by_cases hh : t = ta ∨ t = tb
  · have hz : hitZ ta tb (t : Int) = true := by
      unfold hitZ
      rcases hh with rfl | rfl
      · simp
      · simp
    rw [hz, if_pos rfl] at k1 k2
    rw [if_pos hh] at r4
    refine ⟨W.length, k + 1, k1, by rw [hwl]; omega, by rw [k2]; rfl, ?_⟩
    rw [hD]
    simp only at r4
    omega
  · have hz : hitZ ta tb (t : Int) = false := by
      unfold hitZ
      simp only [Bool.or_eq_false_iff, decide_eq_false_iff_not]
      constructor
      · intro q; exact hh (Or.inl (by omega))
      · intro q; exact hh (Or.inr (by omega))
    rw [hz] at k1 k2
    rw [if_neg hh] at r4
    refine ⟨t, k, by simpa using k1, by rw [hwl]; omega, by simpa using k2, ?_⟩
    rw [hD]
    exact r4
theorem HuQ.done {n : Nat} {D0 : Nat → Nat} {W of out : List Int} (h : HuQ n D0 n W of out) : out = (List.range n).map fun s => (D0 s : Int) := by
  have hm := h.many
  apply List.ext_getElem?
  intro i
  rcases Nat.lt_or_ge i n with hi | hi
  · rw [List.getElem?_map, List.getElem?_range hi]
    obtain ⟨t, k, _, _, e3, e4⟩ := h.rel i hi
    rw [huffD_one (by omega)] at e4
    rw [e3, Option.map_some, ← e4]
    rfl
  · rw [List.getElem?_eq_none (by rw [h.outlen]; exact hi), List.getElem?_eq_none (by simp; exact hi)]
theorem HuQ.begin {ws : List Nat} (h0 : 0 < ws.length) (h40 : ws.length ≤ 40) (hw : ∀ a ∈ ws, a ≤ 1000) :
    HuQ ws.length (lenU ws) 1 (ws.map fun n : Nat => (n : Int)) ((List.range ws.length).map fun n : Nat => (n : Int)) (List.replicate ws.length 0) := by
  have e := liveF_nats ws 0
  have hsum : ∀ l : List Nat, (∀ a ∈ l, a ≤ 1000) → l.sum ≤ 1000 * l.length := by
    intro l
    induction l with
    | nil => intro _; simp
    | cons a t ih =>
      intro h
      have h1 := h a List.mem_cons_self
      have h2 := ih fun b hb => h b (List.mem_cons_of_mem _ hb)
      rw [List.sum_cons, List.length_cons]; omega
  refine ⟨by rw [List.length_map], by rw [e]; simp, ?_, by simp, by simp, fun s hs => ?_⟩
  · rw [e, List.zipIdx_map_fst]
    have := hsum ws hw
    omega
  · refine ⟨s, 0, by rw [List.getElem?_map, List.getElem?_range hs]; rfl, by rw [List.length_map]; exact hs, by rw [List.getElem?_replicate, if_pos hs]; rfl, ?_⟩
    rw [e, List.length_map, Nat.zero_add]
    rfl
#print axioms find2_done
#print axioms HuQ.step
#print axioms HuQ.begin
end Go.Proofs.YtimlgdedgjpkdaaDoor
