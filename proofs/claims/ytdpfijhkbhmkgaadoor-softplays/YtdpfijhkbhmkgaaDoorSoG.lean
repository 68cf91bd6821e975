/-
  Plain facts of soft heaps: what a node keeps while it is filled.
-/
import Derived.Test.YtdpfijhkbhmkgaaDoorSoM
namespace Go.Proofs.YtdpfijhkbhmkgaaDoor

/-- How many items a node of a rank wants, in a heap of rank r0. -/
def wantR (r0 : Nat) : Nat → Nat
  | 0 => 1
  | r + 1 => if r + 1 ≤ r0 then 1 else wantR r0 r + (wantR r0 r + 1) / 2
theorem wantR_low {r0 r : Nat} (h : r ≤ r0) : wantR r0 r = 1 := by
  cases r with
  | zero => rfl
  | succ r => simp only [wantR]; rw [if_pos h]
theorem wantR_pos (r0 : Nat) : ∀ r, 1 ≤ wantR r0 r
  | 0 => Nat.le_refl _
  | r + 1 => by
    simp only [wantR]
    split
    · exact Nat.le_refl _
    · have := wantR_pos r0 r; omega
/-- At most so many items a node has. -/
def mostR (r0 r : Nat) : Nat := if r ≤ r0 then 1 else 3 * wantR r0 r
theorem mostR_le (r0 r : Nat) : mostR r0 r ≤ 3 * wantR r0 r := by
  unfold mostR
  have := wantR_pos r0 r
  split <;> omega
/-- What is put to a node of the next rank does not make too many. -/
theorem mostR_step {r0 r n : Nat} (h : n < wantR r0 (r + 1)) : n + mostR r0 r ≤ mostR r0 (r + 1) := by
  unfold mostR
  by_cases h1 : r + 1 ≤ r0
  · rw [if_pos h1, if_pos (by omega)]
    rw [wantR_low h1] at h
    omega
  · rw [if_neg h1]
    simp only [wantR] at h ⊢
    rw [if_neg h1] at h ⊢
    have h2 := wantR_pos r0 r
    by_cases h3 : r ≤ r0
    · rw [if_pos h3]; omega
    · rw [if_neg h3]; omega
/-- A part of a node: none, or a whole node of the rank below, whose key is not less. -/
structure GoodN (r0 : Nat) (k : Int) (r w : Nat) (is : List (Int × Int)) : Prop where
  want : w = wantR r0 r
  many : is ≠ []
  most : is.length ≤ mostR r0 r
  low : ∀ x ∈ is, x.1 ≤ k
  same : r ≤ r0 → ∀ x ∈ is, x.1 = k
/-- Below, all is as it should be: ranks fall by one, keys do not fall. -/
def SN.good (r0 : Nat) : SN → Prop
  | ⟨none⟩ => True
  | ⟨some (k, r, w, is, a, b)⟩ => GoodN r0 k r w is ∧ a.good r0 ∧ b.good r0 ∧ (a.none? = false → a.rank + 1 = r ∧ k ≤ a.key) ∧ (b.none? = false → b.rank + 1 = r ∧ k ≤ b.key)
theorem good_nil (r0 : Nat) : SN.nil.good r0 := by unfold SN.good; trivial
theorem good_node {r0 : Nat} {k : Int} {r w : Nat} {is : List (Int × Int)} {a b : SN} : (SN.node k r w is a b).good r0 ↔ GoodN r0 k r w is ∧ a.good r0 ∧ b.good r0 ∧ (a.none? = false → a.rank + 1 = r ∧ k ≤ a.key) ∧ (b.none? = false → b.rank + 1 = r ∧ k ≤ b.key) := by
  conv => lhs; unfold SN.good
theorem good_wants {r0 : Nat} : ∀ {t : SN}, t.good r0 → t.wants
  | ⟨none⟩, _ => wants_nil
  | ⟨some (k, r, w, is, a, b)⟩, h => by
    obtain ⟨h1, h2, h3, _⟩ := good_node.1 h
    exact wants_node.2 ⟨by rw [h1.want]; exact wantR_pos r0 r, good_wants h2, good_wants h3⟩
/-- A node that is to be filled: its parts are whole; what it has counts no less than its own, and no more than its parts. -/
structure OpenN (r0 : Nat) (k : Int) (r w : Nat) (is : List (Int × Int)) (a b : SN) : Prop where
  want : w = wantR r0 r
  most : is.length ≤ mostR r0 r
  low : ∀ x ∈ is, x.1 ≤ k
  same : r ≤ r0 → ∀ x ∈ is, x.1 = k
  ga : a.good r0
  gb : b.good r0
  ra : a.none? = false → a.rank + 1 = r
  rb : b.none? = false → b.rank + 1 = r
  ka : is ≠ [] → a.none? = false → k ≤ a.key
  kb : is ≠ [] → b.none? = false → k ≤ b.key
theorem OpenN.wants {r0 : Nat} {k : Int} {r w : Nat} {is : List (Int × Int)} {a b : SN} (h : OpenN r0 k r w is a b) : (SN.node k r w is a b).wants :=
  wants_node.2 ⟨by rw [h.want]; exact wantR_pos r0 r, good_wants h.ga, good_wants h.gb⟩
theorem OpenN.swap {r0 : Nat} {k : Int} {r w : Nat} {is : List (Int × Int)} {a b : SN} (h : OpenN r0 k r w is a b) : OpenN r0 k r w is b a :=
  ⟨h.want, h.most, h.low, h.same, h.gb, h.ga, h.rb, h.ra, h.kb, h.ka⟩
theorem OpenN.less {r0 : Nat} {k : Int} {r w : Nat} {is : List (Int × Int)} {a b : SN} (h : OpenN r0 k r w is a b) : OpenN r0 k r w is (lessS a b) (moreS a b) := by
  rcases less_more a b with ⟨e1, e2⟩ | ⟨e1, e2⟩
  · rw [e1, e2]; exact h
  · rw [e1, e2]; exact h.swap
/-- The part that is taken has the lesser key. -/
theorem less_key {a b : SN} (h : (moreS a b).none? = false) : (lessS a b).key ≤ (moreS a b).key := by
  unfold lessS moreS at *
  by_cases hs : swapS a b = true
  · rw [if_pos hs] at h
    rw [if_pos hs, if_pos hs]
    unfold swapS at hs
    rw [h] at hs
    simp at hs
    omega
  · rw [if_neg hs] at h
    rw [if_neg hs, if_neg hs]
    unfold swapS at hs
    rw [h] at hs
    simp at hs
    omega
/-- A whole node without its items may be filled. -/
theorem good_open {r0 : Nat} {k : Int} {r w : Nat} {is : List (Int × Int)} {a b : SN} (h : (SN.node k r w is a b).good r0) : OpenN r0 k r w [] a b := by
  obtain ⟨h1, h2, h3, h4, h5⟩ := good_node.1 h
  exact ⟨h1.want, Nat.zero_le _, fun x hx => (by cases hx), fun _ x hx => (by cases hx), h2, h3, fun q => (h4 q).1, fun q => (h5 q).1, fun q => absurd rfl q, fun q => absurd rfl q⟩

/-- Filled it is whole; nothing is lost; its key is one that a part had, or its own. -/
theorem fillS_good (r0 : Nat) : ∀ (n : Nat) (k : Int) (r w : Nat) (is : List (Int × Int)) (a b : SN), (SN.node k r w is a b).size ≤ n → OpenN r0 k r w is a b → (is ≠ [] ∨ a.none? = false ∨ b.none? = false) →
    (fillS (.node k r w is a b)).good r0 ∧ (fillS (.node k r w is a b)).all.Perm (is ++ (a.all ++ b.all)) ∧ (fillS (.node k r w is a b)).rank = r ∧ (fillS (.node k r w is a b)).none? = false ∧
      (∀ z : Int, (is ≠ [] → z ≤ k) → (a.none? = false → z ≤ a.key) → (b.none? = false → z ≤ b.key) → z ≤ (fillS (.node k r w is a b)).key)
  | 0, k, r, w, is, a, b, hs, _, _ => by rw [SN.size_node] at hs; omega
  | n + 1, k, r, w, is, a, b, hs, H, hne => by
    by_cases hc : is.length < w ∧ (a.none? = false ∨ b.none? = false)
    · obtain ⟨ka, ra, wa, ia, la, lb, e⟩ := less_node hc.2
      rw [fillS_step H.wants hc e]
      have HL := H.less
      have hmk : (moreS a b).none? = false → ka ≤ (moreS a b).key := fun q => by have := less_key q; rw [e] at this; exact this
      have hsz := less_size a b
      rw [e] at HL hsz
      rw [SN.size_node] at hsz hs
      have hga := HL.ga
      obtain ⟨g1, g2, g3, g4, g5⟩ := good_node.1 hga
      have hrr : ra + 1 = r := HL.ra rfl
      have hkk : is ≠ [] → k ≤ ka := fun q => HL.ka q rfl
      -- what becomes of the part
      have hpart : ∃ c : SN, (if la.none? && lb.none? then SN.nil else fillS (.node ka ra wa [] la lb)) = c ∧ c.good r0 ∧ c.all.Perm (la.all ++ lb.all) ∧ (c.none? = false → c.rank + 1 = r ∧ ka ≤ c.key) ∧ c.size ≤ la.size + lb.size := by
        cases hq : (la.none? && lb.none?)
        · have hp2 : la.none? = false ∨ lb.none? = false := by
            cases h4 : la.none?
            · exact Or.inl rfl
            · rw [h4] at hq; exact Or.inr (by simpa using hq)
          have hO := good_open hga
          obtain ⟨i1, i2, i3, i4, i5⟩ := fillS_good r0 n ka ra wa [] la lb (by rw [SN.size_node]; omega) hO (Or.inr hp2)
          refine ⟨_, by rw [if_neg (by simp)], i1, by simpa using i2, fun _ => ⟨by rw [i3]; exact hrr, i5 ka (fun q => absurd rfl q) (fun q => (g4 q).2) (fun q => (g5 q).2)⟩, ?_⟩
          have hw := wants_node.1 (good_wants hga)
          have := fillF_lt (SN.node ka ra wa [] la lb).size ka ra wa la lb hw.1 hw.2.1 hw.2.2 hp2 (Nat.le_refl _)
          unfold fillS
          rw [SN.size_node] at this ⊢
          omega
        · obtain ⟨q1, q2⟩ : la.none? = true ∧ lb.none? = true := by simpa using hq
          rw [SN.none_iff] at q1 q2
          refine ⟨_, by rw [if_pos rfl], good_nil r0, by rw [q1, q2, SN.all_nil]; simp, fun q => by simp [SN.none?] at q, by rw [SN.size_nil]; omega⟩
      obtain ⟨c, ec, hc1, hc2, hc3, hc4⟩ := hpart
      rw [ec]
      have hlen : (is ++ ia).length ≤ mostR r0 r := by
        have h1 := hc.1
        rw [H.want, ← hrr] at h1
        have h2 := mostR_step h1
        rw [hrr] at h2
        rw [List.length_append]
        have := g1.most
        omega
      have HO : OpenN r0 ka r w (is ++ ia) c (moreS a b) := by
        refine ⟨H.want, hlen, fun x hx => ?_, fun q x hx => ?_, hc1, HL.gb, fun q => (hc3 q).1, HL.rb, fun _ q => (hc3 q).2, fun _ q => hmk q⟩
        · rcases List.mem_append.1 hx with m | m
          · have h1 := H.low x m
            have h2 := hkk (List.ne_nil_of_mem m)
            omega
          · exact g1.low x m
        · rcases List.mem_append.1 hx with m | m
          · exfalso
            have h1 := hc.1
            rw [H.want, wantR_low q] at h1
            have := List.length_pos_of_mem m
            omega
          · exact g1.same (by omega) x m
      obtain ⟨i1, i2, i3, i4, i5⟩ := fillS_good r0 n ka r w (is ++ ia) c (moreS a b) (by rw [SN.size_node]; omega) HO (Or.inl (fun q => g1.many (List.append_eq_nil_iff.1 q).2))
      refine ⟨i1, ?_, i3, i4, fun z z1 z2 z3 => i5 z (fun _ => ?_) (fun q => ?_) (fun q => ?_)⟩
      · refine i2.trans ?_
        have ha := less_all a b
        rw [e, SN.all_node] at ha
        rw [List.append_assoc]
        refine List.Perm.append_left _ (List.Perm.trans ?_ ha)
        rw [List.append_assoc]
        exact List.Perm.append_left _ (List.Perm.append_right _ hc2)
      · have : z ≤ (lessS a b).key := by
          rcases less_more a b with ⟨e1, _⟩ | ⟨e1, _⟩
          · rw [e1]; rw [e1] at e; exact z2 (by rw [e]; rfl)
          · rw [e1]; rw [e1] at e; exact z3 (by rw [e]; rfl)
        rw [e] at this
        exact this
      · have h1 := (hc3 q).2
        have : z ≤ (lessS a b).key := by
          rcases less_more a b with ⟨e1, _⟩ | ⟨e1, _⟩
          · rw [e1]; rw [e1] at e; exact z2 (by rw [e]; rfl)
          · rw [e1]; rw [e1] at e; exact z3 (by rw [e]; rfl)
        rw [e] at this
        exact Int.le_trans this h1
      · rcases less_more a b with ⟨_, e2⟩ | ⟨_, e2⟩
        · rw [e2] at q ⊢; exact z3 q
        · rw [e2] at q ⊢; exact z2 q
    · rw [fillS_stop hc]
      have hin : is ≠ [] := by
        rcases hne with q | q
        · exact q
        · intro e
          apply hc
          refine ⟨?_, q⟩
          rw [e, H.want]
          exact wantR_pos r0 r
      refine ⟨good_node.2 ⟨⟨H.want, hin, H.most, H.low, H.same⟩, H.ga, H.gb, fun q => ⟨H.ra q, H.ka hin q⟩, fun q => ⟨H.rb q, H.kb hin q⟩⟩, by rw [SN.all_node], rfl, rfl, fun z z1 _ _ => z1 hin⟩
#print axioms fillS_good
end Go.Proofs.YtdpfijhkbhmkgaaDoor
