/-
  Plain facts of leaning heaps: which lists are written so; looked at from the end.
-/
import Derived.Test.YtoaabpoicacogaaDoorLMath
namespace Go.Proofs.YtoaabpoicacogaaDoor
namespace LT

/-- The list is a leaning heap, written as told. -/
def Good (l : List Nd) : Prop := ∃ t, l = enc 0 t ∧ Leans t

/-- At place j the tree s is written. -/
structure SubAt (l : List Nd) (j : Nat) (s : LT) : Prop where
  ne : s ≠ nil
  leans : Leans s
  at_ : ∃ rest, l.drop j = enc j s ++ rest
theorem SubAt.unique {l : List Nd} {j : Nat} {s s' : LT} (h : SubAt l j s) (h' : SubAt l j s') : s = s' := by
  obtain ⟨r, e⟩ := h.at_
  obtain ⟨r', e'⟩ := h'.at_
  exact (enc_inj s s' j r r' (e ▸ e') h.ne h'.ne).1
theorem SubAt.fits {l : List Nd} {j : Nat} {s : LT} (h : SubAt l j s) : j + s.size ≤ l.length := by
  obtain ⟨r, e⟩ := h.at_
  have h1 := congrArg List.length e
  have h2 := size_pos h.ne
  simp [enc_length] at h1
  omega
theorem SubAt.rest {l : List Nd} {j : Nat} {s : LT} (h : SubAt l j s) : l.drop j = enc j s ++ l.drop (j + s.size) := by
  obtain ⟨r, e⟩ := h.at_
  rw [← List.drop_drop, e]
  rw [List.drop_append_of_le_length (by rw [enc_length]; exact Nat.le_refl _), ← enc_length s j, List.drop_length]
  rfl
/-- The root that is written at place j. -/
theorem SubAt.root {l : List Nd} {j : Nat} {s : LT} (h : SubAt l j s) : ∃ k i a b, s = node k i a b ∧ l[j]? = some (k, i, place (j + 1) a, place (j + 1 + a.size) b) := by
  obtain ⟨r, e⟩ := h.at_
  cases s using LT.parts with
  | nil => exact absurd rfl h.ne
  | node k i a b =>
    refine ⟨k, i, a, b, rfl, ?_⟩
    have : (l.drop j)[0]? = some (k, i, place (j + 1) a, place (j + 1 + a.size) b) := by rw [e]; rfl
    simpa using this
theorem SubAt.left {l : List Nd} {j : Nat} {k i : Int} {a b : LT} (h : SubAt l j (node k i a b)) (ha : a ≠ nil) : SubAt l (j + 1) a := by
  obtain ⟨r, e⟩ := h.at_
  refine ⟨ha, h.leans.2.2.2.1, enc (j + 1 + a.size) b ++ r, ?_⟩
  have := congrArg (List.drop 1) e
  simpa [enc, List.drop_drop, Nat.add_comm] using this
theorem SubAt.right {l : List Nd} {j : Nat} {k i : Int} {a b : LT} (h : SubAt l j (node k i a b)) (hb : b ≠ nil) : SubAt l (j + 1 + a.size) b := by
  obtain ⟨r, e⟩ := h.at_
  refine ⟨hb, h.leans.2.2.2.2, r, ?_⟩
  have h1 := congrArg (List.drop (1 + a.size)) e
  rw [List.drop_drop] at h1
  rw [show j + 1 + a.size = j + (1 + a.size) by omega, h1]
  have e2 : enc j (node k i a b) ++ r = ((k, i, place (j + 1) a, place (j + 1 + a.size) b) :: enc (j + 1) a) ++ (enc (j + 1 + a.size) b ++ r) := by simp [enc]
  rw [e2, List.drop_append_of_le_length (by simp [enc_length]; omega)]
  have e3 : List.drop (1 + a.size) ((k, i, place (j + 1) a, place (j + 1 + a.size) b) :: enc (j + 1) a) = [] := List.drop_eq_nil_of_le (by simp [enc_length]; omega)
  rw [e3, show j + (1 + a.size) = j + 1 + a.size by omega]
  rfl
/-- A list that is good has a tree at each place. -/
theorem sub_all {l : List Nd} : ∀ (t : LT) (o : Nat), SubAt l o t → ∀ j, o ≤ j → j < o + t.size → ∃ s, SubAt l j s
  | ⟨none⟩, _, h, _, _, _ => absurd rfl h.ne
  | ⟨some (k, i, a, b)⟩, o, h, j, h1, h2 => by
    rcases Nat.eq_or_lt_of_le h1 with rfl | h3
    · exact ⟨_, h⟩
    · simp only [size] at h2
      by_cases h4 : j < o + 1 + a.size
      · have ha : a ≠ nil := fun e => by rw [e] at h4; simp [size] at h4; omega
        exact sub_all a (o + 1) (h.left ha) j (by omega) (by omega)
      · have hb : b ≠ nil := fun e => by rw [e] at h2; simp [size] at h2; omega
        exact sub_all b (o + 1 + a.size) (h.right hb) j (by omega) (by omega)
theorem Good.sub {l : List Nd} (h : Good l) {j : Nat} (hj : j < l.length) : ∃ s, SubAt l j s := by
  obtain ⟨t, rfl, ht⟩ := h
  rw [enc_length] at hj
  have hne : t ≠ nil := fun e => by rw [e] at hj; simp [size] at hj
  exact sub_all t 0 ⟨hne, ht, [], by simp⟩ j (Nat.zero_le _) (by omega)

/-- What is found at place i, with what is found behind it: one of the two parts. -/
def PartAt (l : List Nd) (k : Int) (at_ : Nat) (p : Int) (s : LT) : Prop := (p = -1 ∧ s = nil) ∨ (p = (at_ : Int) ∧ SubAt l at_ s ∧ above k s)
theorem PartAt.none {l : List Nd} {k p : Int} {at_ : Nat} (h : p = -1) : PartAt l k at_ p nil := Or.inl ⟨h, rfl⟩
theorem PartAt.some {l : List Nd} {k p : Int} {at_ : Nat} (s : LT) (h1 : p = (at_ : Int)) (h2 : SubAt l at_ s) (h3 : above k s) : PartAt l k at_ p s := Or.inr ⟨h1, h2, h3⟩
theorem PartAt.place {l : List Nd} {k p : Int} {o : Nat} {s : LT} (h : PartAt l k o p s) : place o s = p := by
  rcases h with ⟨e, rfl⟩ | ⟨e, hs, _⟩
  · rw [e]; rfl
  · rw [place_ne o hs.ne, e]
theorem PartAt.above {l : List Nd} {k p : Int} {o : Nat} {s : LT} (h : PartAt l k o p s) : LT.above k s := by
  rcases h with ⟨_, rfl⟩ | ⟨_, _, ha⟩
  · trivial
  · exact ha
theorem PartAt.leans {l : List Nd} {k p : Int} {o : Nat} {s : LT} (h : PartAt l k o p s) : Leans s := by
  rcases h with ⟨_, rfl⟩ | ⟨_, hs, _⟩
  · trivial
  · exact hs.leans
theorem PartAt.drop {l : List Nd} {k p : Int} {o : Nat} {s : LT} (h : PartAt l k o p s) : l.drop o = enc o s ++ l.drop (o + s.size) := by
  rcases h with ⟨_, rfl⟩ | ⟨_, hs, _⟩
  · simp [enc, size]
  · exact hs.rest
/-- Two parts make a tree. -/
theorem SubAt.make {l : List Nd} {i : Nat} {k d L R : Int} {a b : LT} (hi : l[i]? = some (k, d, L, R)) (ha : PartAt l k (i + 1) L a) (hb : PartAt l k (i + 1 + a.size) R b) (hs : b.spine ≤ a.spine) : SubAt l i (node k d a b) := by
  refine ⟨by simp, ⟨ha.above, hb.above, hs, ha.leans, hb.leans⟩, l.drop (i + 1 + a.size + b.size), ?_⟩
  have hlt := (List.getElem?_eq_some_iff.1 hi).1
  have hx := (List.getElem?_eq_some_iff.1 hi).2
  rw [List.drop_eq_getElem_cons hlt, hx, ha.drop, hb.drop]
  simp [enc, ha.place, hb.place]
/-- Where a list is good the parts are as written. -/
theorem SubAt.parts {l : List Nd} {i : Nat} {k d L R : Int} {s : LT} (h : SubAt l i s) (hi : l[i]? = some (k, d, L, R)) : ∃ a b, s = node k d a b ∧ PartAt l k (i + 1) L a ∧ PartAt l k (i + 1 + a.size) R b ∧ b.spine ≤ a.spine := by
  obtain ⟨k', d', a, b, rfl, e⟩ := h.root
  rw [hi] at e
  simp only [Option.some.injEq, Prod.mk.injEq] at e
  obtain ⟨rfl, rfl, e1, e2⟩ := e
  refine ⟨a, b, rfl, ?_, ?_, h.leans.2.2.1⟩
  · by_cases hn : a = nil
    · subst hn; exact .none e1
    · exact .some a (by rw [e1, place_ne _ hn]) (h.left hn) h.leans.1
  · by_cases hn : b = nil
    · subst hn; exact .none e2
    · exact .some b (by rw [e2, place_ne _ hn]) (h.right hn) h.leans.2.1
/-- The part at a place is just one. -/
theorem PartAt.unique {l : List Nd} {k p : Int} {o : Nat} {s s' : LT} (h : PartAt l k o p s) (h' : PartAt l k o p s') : s = s' := by
  rcases h with ⟨e, rfl⟩ | ⟨e, hs, _⟩
  · rcases h' with ⟨_, rfl⟩ | ⟨e', _, _⟩
    · rfl
    · omega
  · rcases h' with ⟨e', _⟩ | ⟨_, hs', _⟩
    · omega
    · exact hs.unique hs'
theorem Good.of_sub {l : List Nd} {s : LT} (h : SubAt l 0 s) (hs : s.size = l.length) : Good l := by
  refine ⟨s, ?_, h.leans⟩
  have := h.rest
  rw [Nat.zero_add, hs, List.drop_length] at this
  simpa using this
theorem Good.nil : Good [] := ⟨.nil, rfl, trivial⟩
theorem Good.whole {l : List Nd} {t s : LT} (h : l = enc 0 t) (ht : Leans t) (hs : SubAt l 0 s) : s = t ∧ s.size = l.length := by
  have hne : t ≠ .nil := fun e => by
    have := hs.fits
    have h2 := size_pos hs.ne
    rw [h, e] at this
    simp [enc] at this; omega
  have : s = t := hs.unique ⟨hne, ht, [], by simp [h]⟩
  exact ⟨this, by rw [this, h, enc_length]⟩

theorem PartAt.facts {l : List Nd} {k p : Int} {o : Nat} {s : LT} (h : PartAt l k o p s) (hp : p ≠ -1) : p = (o : Int) ∧ o < l.length ∧ ∀ x, l[o]? = Option.some x → k ≤ x.1 := by
  rcases h with ⟨e, _⟩ | ⟨e, hs, ha⟩
  · exact absurd e hp
  · have h1 := hs.fits
    have h2 := size_pos hs.ne
    refine ⟨e, by omega, fun x hx => ?_⟩
    obtain ⟨k', i', a, b, rfl, hr⟩ := hs.root
    rw [hx] at hr
    cases hr
    exact ha
theorem PartAt.of {l : List Nd} {k p : Int} {o : Nat} {s : LT} {x : Nd} (hp : p = (o : Int)) (hs : SubAt l o s) (hx : l[o]? = Option.some x) (hk : k ≤ x.1) : PartAt l k o p s := by
  refine .some s hp hs ?_
  obtain ⟨k', i', a, b, rfl, hr⟩ := hs.root
  rw [hx] at hr
  cases hr
  exact hk
theorem not_good_left {l : List Nd} {i : Nat} {k d L R : Int} (hi : l[i]? = some (k, d, L, R)) (hL : L ≠ -1) (h : ¬ (L = ((i + 1 : Nat) : Int) ∧ i + 1 < l.length ∧ ∀ x, l[i + 1]? = some x → k ≤ x.1)) : ¬ Good l := fun hg => by
  obtain ⟨s, hs⟩ := hg.sub (List.getElem?_eq_some_iff.1 hi).1
  obtain ⟨a, b, _, ha, _, _⟩ := hs.parts hi
  exact h (ha.facts hL)
theorem not_good_right {l : List Nd} {i : Nat} {k d L R : Int} {a : LT} (hi : l[i]? = some (k, d, L, R)) (ha : PartAt l k (i + 1) L a) (hR : R ≠ -1) (h : ¬ (R = ((i + 1 + a.size : Nat) : Int) ∧ i + 1 + a.size < l.length ∧ ∀ x, l[i + 1 + a.size]? = some x → k ≤ x.1)) : ¬ Good l := fun hg => by
  obtain ⟨s, hs⟩ := hg.sub (List.getElem?_eq_some_iff.1 hi).1
  obtain ⟨a', b, _, ha', hb, _⟩ := hs.parts hi
  rw [ha'.unique ha] at hb
  exact h (hb.facts hR)
theorem not_good_spine {l : List Nd} {i : Nat} {k d L R : Int} {a b : LT} (hi : l[i]? = some (k, d, L, R)) (ha : PartAt l k (i + 1) L a) (hb : PartAt l k (i + 1 + a.size) R b) (h : a.spine < b.spine) : ¬ Good l := fun hg => by
  obtain ⟨s, hs⟩ := hg.sub (List.getElem?_eq_some_iff.1 hi).1
  obtain ⟨a', b', _, ha', hb', hc⟩ := hs.parts hi
  have ea := ha'.unique ha
  subst ea
  have eb := hb'.unique hb
  subst eb
  omega
theorem not_good_size {l : List Nd} {s : LT} (h : SubAt l 0 s) (hs : s.size ≠ l.length) : ¬ Good l := fun ⟨_, e, ht⟩ => hs (Good.whole e ht h).2
theorem spine_le : ∀ t : LT, t.spine ≤ t.size
  | ⟨none⟩ => Nat.le_refl _
  | ⟨some (_, _, l, r)⟩ => by have := spine_le r; simp only [spine, size]; omega

/-- Is a number of a node none that may be? -/
def outN4 (x : Nd) : Bool := decide (x.1 < -1000000 ∨ 1000000 < x.1 ∨ x.2.1 < 0 ∨ 1000000 < x.2.1)
/-- What is wrong with a list, and the spine. -/
def Says (l : List Nd) (k m : Nat) : Prop :=
  (60 < l.length ∧ k = 4 ∧ m = 0) ∨ (l.length ≤ 60 ∧ l.any outN4 = true ∧ k = 1 ∧ m = 0) ∨ (l.length ≤ 60 ∧ l.any outN4 = false ∧ ¬ Good l ∧ k = 3 ∧ m = 0) ∨ ∃ t, l.length ≤ 60 ∧ l.any outN4 = false ∧ l = enc 0 t ∧ Leans t ∧ k = 0 ∧ m = t.spine
theorem Says.full {l : List Nd} (h : 60 < l.length) : Says l 4 0 := Or.inl ⟨h, rfl, rfl⟩
theorem Says.range {l : List Nd} (h : l.length ≤ 60) (h1 : l.any outN4 = true) : Says l 1 0 := Or.inr (Or.inl ⟨h, h1, rfl, rfl⟩)
theorem Says.shape {l : List Nd} (h : l.length ≤ 60) (h1 : l.any outN4 = false) (h2 : ¬ Good l) : Says l 3 0 := Or.inr (Or.inr (Or.inl ⟨h, h1, h2, rfl, rfl⟩))
theorem Says.right {l : List Nd} (t : LT) (h : l.length ≤ 60) (h1 : l.any outN4 = false) (h2 : l = enc 0 t) (h3 : Leans t) : Says l 0 t.spine := Or.inr (Or.inr (Or.inr ⟨t, h, h1, h2, h3, rfl, rfl⟩))
theorem Says.unique {l : List Nd} {k m k' m' : Nat} (h : Says l k m) (h' : Says l k' m') : k = k' ∧ m = m' := by
  rcases h with ⟨a, rfl, rfl⟩ | ⟨a, b, rfl, rfl⟩ | ⟨a, b, c, rfl, rfl⟩ | ⟨t, a, b, c, d, rfl, rfl⟩
  · rcases h' with ⟨_, rfl, rfl⟩ | ⟨b, _⟩ | ⟨b, _⟩ | ⟨_, b, _⟩
    · exact ⟨rfl, rfl⟩
    · omega
    · omega
    · omega
  · rcases h' with ⟨c, _⟩ | ⟨_, _, rfl, rfl⟩ | ⟨_, c, _⟩ | ⟨_, _, c, _⟩
    · omega
    · exact ⟨rfl, rfl⟩
    · rw [b] at c; cases c
    · rw [b] at c; cases c
  · rcases h' with ⟨d, _⟩ | ⟨_, d, _⟩ | ⟨_, _, _, rfl, rfl⟩ | ⟨t, _, _, e, f, _⟩
    · omega
    · rw [b] at d; cases d
    · exact ⟨rfl, rfl⟩
    · exact absurd ⟨t, e, f⟩ c
  · rcases h' with ⟨e, _⟩ | ⟨_, e, _⟩ | ⟨_, _, e, _⟩ | ⟨t', _, _, e, f, rfl, rfl⟩
    · omega
    · rw [b] at e; cases e
    · exact absurd ⟨t, c, d⟩ e
    · exact ⟨rfl, by rw [enc_unique (c.symm.trans e)]⟩
end LT
end Go.Proofs.YtoaabpoicacogaaDoor
