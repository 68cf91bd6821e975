/-
  Plain facts of soft heaps: nodes, and how they are filled.
-/
import Derived.WalkKit
namespace Go.Proofs.YtdpfijhkbhmkgaaDoor

/-- A node (its key, rank, want, items, left and right part), or none. -/
structure SN where
  root : Option (Int × Nat × Nat × List (Int × Int) × SN × SN)
abbrev SN.nil : SN := ⟨none⟩
abbrev SN.node (k : Int) (r w : Nat) (is : List (Int × Int)) (a b : SN) : SN := ⟨some (k, r, w, is, a, b)⟩
theorem SN.parts {P : SN → Prop} (t : SN) (nil : P .nil) (node : ∀ k r w is a b, P (.node k r w is a b)) : P t := by
  obtain ⟨_ | ⟨k, r, w, is, a, b⟩⟩ := t
  · exact nil
  · exact node k r w is a b
def SN.none? : SN → Bool
  | ⟨none⟩ => true
  | ⟨some _⟩ => false
def SN.size : SN → Nat
  | ⟨none⟩ => 0
  | ⟨some (_, _, _, _, a, b)⟩ => a.size + b.size + 1
def SN.key : SN → Int
  | ⟨none⟩ => 0
  | ⟨some (k, _, _, _, _, _)⟩ => k
def SN.rank : SN → Nat
  | ⟨none⟩ => 0
  | ⟨some (_, r, _, _, _, _)⟩ => r
/-- All items of a node and of those below it. -/
def SN.all : SN → List (Int × Int)
  | ⟨none⟩ => []
  | ⟨some (_, _, _, is, a, b)⟩ => is ++ (a.all ++ b.all)
theorem SN.none_iff (t : SN) : t.none? = true ↔ t = .nil := by
  cases t using SN.parts with
  | nil => simp [SN.none?]
  | node => simp [SN.none?]
theorem SN.size_nil : SN.nil.size = 0 := by simp [SN.size]
theorem SN.size_node (k : Int) (r w : Nat) (is : List (Int × Int)) (a b : SN) : (SN.node k r w is a b).size = a.size + b.size + 1 := by simp [SN.size]
theorem SN.all_nil : SN.nil.all = [] := by simp [SN.all]
theorem SN.all_node (k : Int) (r w : Nat) (is : List (Int × Int)) (a b : SN) : (SN.node k r w is a b).all = is ++ (a.all ++ b.all) := by simp [SN.all]
theorem SN.size_pos {t : SN} (h : t.none? = false) : 0 < t.size := by
  cases t using SN.parts with
  | nil => simp [SN.none?] at h
  | node => rw [SN.size_node]; omega
/-- Do the parts change places? -/
def swapS (a b : SN) : Bool := a.none? || (!b.none? && decide (b.key < a.key))
/-- The part that is taken, and the other one. -/
def lessS (a b : SN) : SN := if swapS a b then b else a
def moreS (a b : SN) : SN := if swapS a b then a else b
/-- A node is filled, with at most so many steps. -/
def fillF : Nat → SN → SN
  | 0, t => t
  | _ + 1, ⟨none⟩ => ⟨none⟩
  | n + 1, ⟨some (k, r, w, is, a, b)⟩ =>
    if is.length < w ∧ (a.none? = false ∨ b.none? = false) then
      match lessS a b with
      | ⟨none⟩ => ⟨some (k, r, w, is, a, b)⟩
      | ⟨some (ka, ra, wa, ia, la, lb)⟩ => fillF n (.node ka r w (is ++ ia) (if la.none? && lb.none? then .nil else fillF n (.node ka ra wa [] la lb)) (moreS a b))
    else ⟨some (k, r, w, is, a, b)⟩
theorem less_more (a b : SN) : (lessS a b = a ∧ moreS a b = b) ∨ (lessS a b = b ∧ moreS a b = a) := by
  unfold lessS moreS
  cases swapS a b
  · left; exact ⟨rfl, rfl⟩
  · right; exact ⟨rfl, rfl⟩
theorem less_some {a b : SN} (h : a.none? = false ∨ b.none? = false) : (lessS a b).none? = false := by
  unfold lessS swapS
  cases ha : a.none? <;> cases hb : b.none? <;> simp [ha, hb] at h ⊢
  split
  · exact hb
  · exact ha
theorem less_size (a b : SN) : (lessS a b).size + (moreS a b).size = a.size + b.size := by
  rcases less_more a b with ⟨e1, e2⟩ | ⟨e1, e2⟩
  · rw [e1, e2]
  · rw [e1, e2, Nat.add_comm]
theorem less_all (a b : SN) : ((lessS a b).all ++ (moreS a b).all).Perm (a.all ++ b.all) := by
  rcases less_more a b with ⟨e1, e2⟩ | ⟨e1, e2⟩
  · rw [e1, e2]
  · rw [e1, e2]; exact List.perm_append_comm
/-- What a step of filling makes. -/
theorem fillF_step {n : Nat} {k ka : Int} {r w ra wa : Nat} {is ia : List (Int × Int)} {a b la lb : SN} (h : is.length < w ∧ (a.none? = false ∨ b.none? = false)) (e : lessS a b = .node ka ra wa ia la lb) :
    fillF (n + 1) (.node k r w is a b) = fillF n (.node ka r w (is ++ ia) (if la.none? && lb.none? then .nil else fillF n (.node ka ra wa [] la lb)) (moreS a b)) := by
  simp only [fillF]
  rw [if_pos h, e]
theorem fillF_stop {n : Nat} {k : Int} {r w : Nat} {is : List (Int × Int)} {a b : SN} (h : ¬ (is.length < w ∧ (a.none? = false ∨ b.none? = false))) : fillF n (.node k r w is a b) = .node k r w is a b := by
  cases n with
  | zero => rfl
  | succ n => simp only [fillF]; rw [if_neg h]
theorem less_node {a b : SN} (h : a.none? = false ∨ b.none? = false) : ∃ ka ra wa ia la lb, lessS a b = .node ka ra wa ia la lb := by
  have := less_some h
  cases e : lessS a b using SN.parts with
  | nil => rw [e] at this; simp [SN.none?] at this
  | node ka ra wa ia la lb => exact ⟨ka, ra, wa, ia, la, lb, rfl⟩
theorem fillF_size : ∀ (n : Nat) (t : SN), (fillF n t).size ≤ t.size
  | 0, t => Nat.le_refl _
  | n + 1, t => by
    cases t using SN.parts with
    | nil => exact Nat.le_refl _
    | node k r w is a b =>
      by_cases h : is.length < w ∧ (a.none? = false ∨ b.none? = false)
      · obtain ⟨ka, ra, wa, ia, la, lb, e⟩ := less_node h.2
        rw [fillF_step h e]
        refine Nat.le_trans (fillF_size n _) ?_
        have h1 := less_size a b
        rw [e, SN.size_node] at h1
        rw [SN.size_node, SN.size_node]
        split
        · rw [SN.size_nil]; omega
        · have := fillF_size n (.node ka ra wa [] la lb)
          rw [SN.size_node] at this
          omega
      · rw [fillF_stop h]; exact Nat.le_refl _
/-- Every node below wants something. -/
def SN.wants : SN → Prop
  | ⟨none⟩ => True
  | ⟨some (_, _, w, _, a, b)⟩ => 1 ≤ w ∧ a.wants ∧ b.wants
theorem wants_node {k : Int} {r w : Nat} {is : List (Int × Int)} {a b : SN} : (SN.node k r w is a b).wants ↔ 1 ≤ w ∧ a.wants ∧ b.wants := by
  conv => lhs; unfold SN.wants
theorem wants_nil : SN.nil.wants := by unfold SN.wants; trivial
theorem less_wants {a b : SN} (ha : a.wants) (hb : b.wants) : (lessS a b).wants ∧ (moreS a b).wants := by
  rcases less_more a b with ⟨e1, e2⟩ | ⟨e1, e2⟩
  · rw [e1, e2]; exact ⟨ha, hb⟩
  · rw [e1, e2]; exact ⟨hb, ha⟩
theorem fillF_wants : ∀ (n : Nat) (t : SN), t.wants → (fillF n t).wants
  | 0, t, h => h
  | n + 1, t, h => by
    cases t using SN.parts with
    | nil => exact wants_nil
    | node k r w is a b =>
      obtain ⟨h1, h2, h3⟩ := wants_node.1 h
      by_cases hc : is.length < w ∧ (a.none? = false ∨ b.none? = false)
      · obtain ⟨ka, ra, wa, ia, la, lb, e⟩ := less_node hc.2
        rw [fillF_step hc e]
        obtain ⟨q1, q2⟩ := less_wants h2 h3
        rw [e] at q1
        obtain ⟨w1, w2, w3⟩ := wants_node.1 q1
        refine fillF_wants n _ (wants_node.2 ⟨h1, ?_, q2⟩)
        split
        · exact wants_nil
        · exact fillF_wants n _ (wants_node.2 ⟨w1, w2, w3⟩)
      · rw [fillF_stop hc]; exact h
/-- Of a node without items that has a part one node is taken away. -/
theorem fillF_lt : ∀ (n : Nat) (k : Int) (r w : Nat) (a b : SN), 1 ≤ w → a.wants → b.wants → (a.none? = false ∨ b.none? = false) → (SN.node k r w [] a b).size ≤ n → (fillF n (.node k r w [] a b)).size < (SN.node k r w [] a b).size
  | 0, k, r, w, a, b, _, _, _, _, hs => by rw [SN.size_node] at hs; omega
  | n + 1, k, r, w, a, b, hw, ha, hb, hp, hs => by
    obtain ⟨ka, ra, wa, ia, la, lb, e⟩ := less_node hp
    rw [fillF_step ⟨hw, hp⟩ e]
    refine Nat.lt_of_le_of_lt (fillF_size n _) ?_
    have h1 := less_size a b
    rw [e, SN.size_node] at h1
    rw [SN.size_node] at hs
    obtain ⟨q1, _⟩ := less_wants ha hb
    rw [e] at q1
    obtain ⟨w1, w2, w3⟩ := wants_node.1 q1
    rw [SN.size_node, SN.size_node]
    cases hq : (la.none? && lb.none?)
    · rw [if_neg (by simp)]
      have hp2 : la.none? = false ∨ lb.none? = false := by
        cases h2 : la.none?
        · exact Or.inl rfl
        · rw [h2] at hq; exact Or.inr (by simpa using hq)
      have := fillF_lt n ka ra wa la lb w1 w2 w3 hp2 (by rw [SN.size_node]; omega)
      rw [SN.size_node] at this
      omega
    · rw [if_pos rfl, SN.size_nil]; omega
/-- More steps than nodes make no difference. -/
theorem fillF_fuel : ∀ (n m : Nat) (t : SN), t.wants → t.size ≤ n → n ≤ m → fillF m t = fillF n t
  | 0, m, t, _, hs, _ => by
    cases t using SN.parts with
    | nil => cases m <;> rfl
    | node => rw [SN.size_node] at hs; omega
  | n + 1, 0, t, _, _, hm => by omega
  | n + 1, m + 1, t, hw, hs, hm => by
    cases t using SN.parts with
    | nil => rfl
    | node k r w is a b =>
      obtain ⟨h1, h2, h3⟩ := wants_node.1 hw
      by_cases hc : is.length < w ∧ (a.none? = false ∨ b.none? = false)
      · obtain ⟨ka, ra, wa, ia, la, lb, e⟩ := less_node hc.2
        rw [fillF_step hc e, fillF_step hc e]
        obtain ⟨q1, q2⟩ := less_wants h2 h3
        rw [e] at q1
        obtain ⟨w1, w2, w3⟩ := wants_node.1 q1
        have hsz := less_size a b
        rw [e, SN.size_node] at hsz
        rw [SN.size_node] at hs
        have hin : fillF m (.node ka ra wa [] la lb) = fillF n (.node ka ra wa [] la lb) := fillF_fuel n m _ (wants_node.2 ⟨w1, w2, w3⟩) (by rw [SN.size_node]; omega) (by omega)
        rw [hin]
        refine fillF_fuel n m _ (wants_node.2 ⟨h1, ?_, q2⟩) ?_ (by omega)
        · split
          · exact wants_nil
          · exact fillF_wants n _ (wants_node.2 ⟨w1, w2, w3⟩)
        · rw [SN.size_node]
          cases hq : (la.none? && lb.none?)
          · rw [if_neg (by simp)]
            have hp2 : la.none? = false ∨ lb.none? = false := by
              cases h4 : la.none?
              · exact Or.inl rfl
              · rw [h4] at hq; exact Or.inr (by simpa using hq)
            have := fillF_lt n ka ra wa la lb w1 w2 w3 hp2 (by rw [SN.size_node]; omega)
            rw [SN.size_node] at this
            omega
          · rw [if_pos rfl, SN.size_nil]; omega
      · rw [fillF_stop hc, fillF_stop hc]
/-- A node is filled. -/
def fillS (t : SN) : SN := fillF t.size t
theorem fillS_stop {k : Int} {r w : Nat} {is : List (Int × Int)} {a b : SN} (h : ¬ (is.length < w ∧ (a.none? = false ∨ b.none? = false))) : fillS (.node k r w is a b) = .node k r w is a b := fillF_stop h
theorem fillS_step {k ka : Int} {r w ra wa : Nat} {is ia : List (Int × Int)} {a b la lb : SN} (hw : (SN.node k r w is a b).wants) (h : is.length < w ∧ (a.none? = false ∨ b.none? = false)) (e : lessS a b = .node ka ra wa ia la lb) :
    fillS (.node k r w is a b) = fillS (.node ka r w (is ++ ia) (if la.none? && lb.none? then .nil else fillS (.node ka ra wa [] la lb)) (moreS a b)) := by
  obtain ⟨h1, h2, h3⟩ := wants_node.1 hw
  obtain ⟨q1, q2⟩ := less_wants h2 h3
  rw [e] at q1
  obtain ⟨w1, w2, w3⟩ := wants_node.1 q1
  have hsz := less_size a b
  rw [e, SN.size_node] at hsz
  unfold fillS
  rw [SN.size_node, fillF_step h e]
  have hin : fillF (a.size + b.size) (.node ka ra wa [] la lb) = fillF (SN.node ka ra wa [] la lb).size (.node ka ra wa [] la lb) := fillF_fuel _ _ _ (wants_node.2 ⟨w1, w2, w3⟩) (Nat.le_refl _) (by rw [SN.size_node]; omega)
  rw [hin]
  refine fillF_fuel _ _ _ (wants_node.2 ⟨h1, ?_, q2⟩) (Nat.le_refl _) ?_
  · split
    · exact wants_nil
    · exact fillF_wants _ _ (wants_node.2 ⟨w1, w2, w3⟩)
  · rw [SN.size_node]
    cases hq : (la.none? && lb.none?)
    · rw [if_neg (by simp)]
      have hp2 : la.none? = false ∨ lb.none? = false := by
        cases h4 : la.none?
        · exact Or.inl rfl
        · rw [h4] at hq; exact Or.inr (by simpa using hq)
      have := fillF_lt _ ka ra wa la lb w1 w2 w3 hp2 (Nat.le_refl _)
      rw [SN.size_node] at this ⊢
      omega
    · rw [if_pos rfl, SN.size_nil]; omega
end Go.Proofs.YtdpfijhkbhmkgaaDoor
