/-
  Plain facts of leaning heaps: trees, how they are written as lists, and what melding keeps.
-/
import Derived.WalkKit
namespace Go.Proofs.YtoaabpoicacogaaDoor

/-- A node as it is written: key, id, and the places of its parts. -/
abbrev Nd := Int × Int × Int × Int

/-- A tree: missing, or a key, an id and two parts. -/
structure LT where
  tr ::
  root : Option (Int × Int × LT × LT)
namespace LT
abbrev nil : LT := ⟨none⟩
abbrev node (k i : Int) (l r : LT) : LT := ⟨some (k, i, l, r)⟩
theorem parts {motive : LT → Prop} (t : LT) (nil : motive LT.nil) (node : ∀ k i l r, motive (LT.node k i l r)) : motive t := by
  rcases t with ⟨_ | ⟨k, i, l, r⟩⟩
  · exact nil
  · exact node k i l r
def size : LT → Nat
  | ⟨none⟩ => 0
  | ⟨some (_, _, l, r)⟩ => l.size + r.size + 1
/-- How many nodes there are from the root on, always to the right. -/
def spine : LT → Nat
  | ⟨none⟩ => 0
  | ⟨some (_, _, _, r)⟩ => r.spine + 1
def items : LT → List (Int × Int)
  | ⟨none⟩ => []
  | ⟨some (k, i, l, r)⟩ => (k, i) :: (l.items ++ r.items)
/-- Where a part begins, or -1. -/
def place (o : Nat) : LT → Int
  | ⟨none⟩ => -1
  | ⟨some _⟩ => o
/-- A tree written as a list that begins at place o. -/
def enc : Nat → LT → List Nd
  | _, ⟨none⟩ => []
  | o, ⟨some (k, i, l, r)⟩ => (k, i, place (o + 1) l, place (o + 1 + l.size) r) :: (enc (o + 1) l ++ enc (o + 1 + l.size) r)
/-- No key of the root of t is less than k. -/
def above (k : Int) : LT → Prop
  | ⟨none⟩ => True
  | ⟨some (k', _, _, _)⟩ => k ≤ k'
/-- No key is less than that of the node above it; no right part's spine is longer than the left one's. -/
def Leans : LT → Prop
  | ⟨none⟩ => True
  | ⟨some (k, _, l, r)⟩ => above k l ∧ above k r ∧ r.spine ≤ l.spine ∧ Leans l ∧ Leans r

theorem enc_length : ∀ (t : LT) (o : Nat), (enc o t).length = t.size
  | ⟨none⟩, _ => rfl
  | ⟨some (k, i, l, r)⟩, o => by simp [enc, size, enc_length l, enc_length r]
theorem size_zero {t : LT} (h : t.size = 0) : t = nil := by
  cases t using LT.parts with
  | nil => rfl
  | node => simp [size] at h
theorem size_pos {t : LT} (h : t ≠ nil) : 0 < t.size := by
  cases t using LT.parts with
  | nil => exact absurd rfl h
  | node => simp [size]
theorem items_length : ∀ t : LT, t.items.length = t.size
  | ⟨none⟩ => rfl
  | ⟨some (k, i, l, r)⟩ => by simp [items, size, items_length l, items_length r]
theorem place_nil (o : Nat) : place o nil = -1 := rfl
theorem place_ne {t : LT} (o : Nat) (h : t ≠ nil) : place o t = o := by
  cases t using LT.parts with
  | nil => exact absurd rfl h
  | node => rfl
theorem place_eq_neg {t : LT} {o : Nat} (h : place o t = -1) : t = nil := by
  cases t using LT.parts with
  | nil => rfl
  | node => simp [place] at h

/-- A place, d further on. -/
def mv (d : Int) (p : Int) : Int := if p = -1 then -1 else p + d
def mvN (d : Int) (x : Nd) : Nd := (x.1, x.2.1, mv d x.2.2.1, mv d x.2.2.2)
theorem mv_place (t : LT) (o o' : Nat) (d : Int) (h : (o' : Int) = o + d) : mv d (place o t) = place o' t := by
  cases t using LT.parts with
  | nil => rfl
  | node k i l r =>
    have e : place o (node k i l r) = (o : Int) := rfl
    have e' : place o' (node k i l r) = (o' : Int) := rfl
    rw [e, e']
    unfold mv
    rw [if_neg (by omega), h]
theorem enc_mv : ∀ (t : LT) (o o' : Nat) (d : Int), (o' : Int) = o + d → (enc o t).map (mvN d) = enc o' t
  | ⟨none⟩, _, _, _, _ => rfl
  | ⟨some (k, i, l, r)⟩, o, o', d, h => by
    simp only [enc, List.map_cons, List.map_append, mvN]
    rw [mv_place l (o + 1) (o' + 1) d (by omega), mv_place r (o + 1 + l.size) (o' + 1 + l.size) d (by omega), enc_mv l (o + 1) (o' + 1) d (by omega), enc_mv r (o + 1 + l.size) (o' + 1 + l.size) d (by omega)]

/-- One way to write: what begins alike is alike. -/
theorem enc_inj : ∀ (s t : LT) (o : Nat) (x y : List Nd), enc o s ++ x = enc o t ++ y → s ≠ nil → t ≠ nil → s = t ∧ x = y
  | ⟨none⟩, _, _, _, _, _, h, _ => absurd rfl h
  | ⟨some _⟩, ⟨none⟩, _, _, _, _, _, h => absurd rfl h
  | ⟨some (k, i, l, r)⟩, ⟨some (k', i', l', r')⟩, o, x, y, h, _, _ => by
    simp only [enc, List.cons_append, List.cons.injEq, Prod.mk.injEq, List.append_assoc] at h
    obtain ⟨⟨rfl, rfl, h1, h2⟩, h3⟩ := h
    have key : ∀ (u v : LT) (o1 o2 : Nat) (a b : List Nd), o1 = o2 → place o1 u = place o2 v → enc o1 u ++ a = enc o2 v ++ b → (∀ c e, enc o1 u ++ c = enc o1 v ++ e → u ≠ nil → v ≠ nil → u = v ∧ c = e) → u = v ∧ a = b := by
      intro u v o1 o2 a b ho hp he ih
      subst ho
      cases u using LT.parts with
      | nil =>
        cases v using LT.parts with
        | nil => exact ⟨rfl, he⟩
        | node => simp [place] at hp
      | node =>
        cases v using LT.parts with
        | nil => simp [place] at hp
        | node => exact ih a b he (by simp) (by simp)
    obtain ⟨rfl, h4⟩ := key l l' (o + 1) (o + 1) _ _ rfl h1 h3 fun c e q a b => enc_inj l l' (o + 1) c e q a b
    obtain ⟨rfl, h5⟩ := key r r' (o + 1 + l.size) (o + 1 + l.size) _ _ rfl h2 h4 fun c e q a b => enc_inj r r' _ c e q a b
    exact ⟨rfl, h5⟩
theorem enc_unique {s t : LT} {o : Nat} (h : enc o s = enc o t) : s = t := by
  cases s using LT.parts with
  | nil =>
    cases t using LT.parts with
    | nil => rfl
    | node => simp [enc] at h
  | node k i l r =>
    cases t using LT.parts with
    | nil => simp [enc] at h
    | node k' i' l' r' => exact (enc_inj _ _ o [] [] (by simpa using h) (by simp) (by simp)).1

/-- A root over two parts: they change places if the left one's spine is the lesser one. -/
def mk (k i : Int) (l r : LT) : LT := if l.spine < r.spine then node k i r l else node k i l r
def meld : LT → LT → LT
  | ⟨none⟩, b => b
  | ⟨some (k, i, l, r)⟩, ⟨none⟩ => node k i l r
  | ⟨some (k, i, l, r)⟩, ⟨some (k', i', l', r')⟩ => if k' < k then mk k' i' l' (meld (node k i l r) r') else mk k i l (meld r (node k' i' l' r'))
theorem meld_nil_left (b : LT) : meld nil b = b := by rw [meld]
theorem meld_nil_right (a : LT) : meld a nil = a := by cases a using LT.parts <;> rw [meld]
theorem meld_gt {k i k' i' : Int} {l r l' r' : LT} (h : k' < k) : meld (node k i l r) (node k' i' l' r') = mk k' i' l' (meld (node k i l r) r') := by rw [meld, if_pos h]
theorem meld_le {k i k' i' : Int} {l r l' r' : LT} (h : ¬ k' < k) : meld (node k i l r) (node k' i' l' r') = mk k i l (meld r (node k' i' l' r')) := by rw [meld, if_neg h]
theorem mk_size (k i : Int) (l r : LT) : (mk k i l r).size = l.size + r.size + 1 := by unfold mk; split <;> simp [size]; omega
theorem mk_items (k i : Int) (l r : LT) : (mk k i l r).items.Perm ((k, i) :: (l.items ++ r.items)) := by
  unfold mk
  split
  · exact List.Perm.cons _ List.perm_append_comm
  · exact List.Perm.refl _
theorem mk_leans {k i : Int} {l r : LT} (hl : above k l) (hr : above k r) (h1 : Leans l) (h2 : Leans r) : Leans (mk k i l r) := by
  unfold mk
  split
  · rename_i h; exact ⟨hr, hl, Nat.le_of_lt h, h2, h1⟩
  · rename_i h; exact ⟨hl, hr, by omega, h1, h2⟩
theorem mk_above {c k i : Int} {l r : LT} (h : c ≤ k) : above c (mk k i l r) := by unfold mk; split <;> exact h
theorem above_trans {c k : Int} {t : LT} (h : c ≤ k) (ht : above k t) : above c t := by
  cases t using LT.parts with
  | nil => trivial
  | node => exact Int.le_trans h ht

theorem meld_ind {motive : LT → LT → Prop} (h1 : ∀ b, motive nil b) (h2 : ∀ a, motive a nil)
    (h3 : ∀ k i l r k' i' l' r', k' < k → motive (node k i l r) r' → motive (node k i l r) (node k' i' l' r'))
    (h4 : ∀ k i l r k' i' l' r', ¬ k' < k → motive r (node k' i' l' r') → motive (node k i l r) (node k' i' l' r')) : ∀ a b, motive a b := by
  intro a b
  induction hn : a.size + b.size using Nat.strongRecOn generalizing a b with
  | _ n ih =>
    cases a using LT.parts with
    | nil => exact h1 b
    | node k i l r =>
      cases b using LT.parts with
      | nil => exact h2 _
      | node k' i' l' r' =>
        by_cases c : k' < k
        · exact h3 _ _ _ _ _ _ _ _ c (ih _ (by simp [size] at hn ⊢; omega) _ _ rfl)
        · exact h4 _ _ _ _ _ _ _ _ c (ih _ (by simp [size] at hn ⊢; omega) _ _ rfl)
theorem meld_size (a b : LT) : (meld a b).size = a.size + b.size := by
  refine meld_ind (motive := fun a b => (meld a b).size = a.size + b.size) ?_ ?_ ?_ ?_ a b
  · intro b; rw [meld_nil_left]; simp [size]
  · intro a; rw [meld_nil_right]; simp [size]
  · intro k i l r k' i' l' r' h ih; rw [meld_gt h, mk_size, ih]; simp [size]; omega
  · intro k i l r k' i' l' r' h ih; rw [meld_le h, mk_size, ih]; simp [size]; omega
theorem meld_items (a b : LT) : (meld a b).items.Perm (a.items ++ b.items) := by
  refine meld_ind (motive := fun a b => (meld a b).items.Perm (a.items ++ b.items)) ?_ ?_ ?_ ?_ a b
  · intro b; rw [meld_nil_left]; exact List.Perm.refl _
  · intro a; rw [meld_nil_right]; simp [items]
  · intro k i l r k' i' l' r' h ih
    rw [meld_gt h]
    refine (mk_items _ _ _ _).trans ?_
    rw [show items (node k' i' l' r') = (k', i') :: (l'.items ++ r'.items) from rfl]
    refine List.Perm.trans ?_ List.perm_middle.symm
    refine List.Perm.cons _ ?_
    refine (List.Perm.append_left _ ih).trans ?_
    rw [← List.append_assoc, ← List.append_assoc]
    exact List.Perm.append_right _ List.perm_append_comm
  · intro k i l r k' i' l' r' h ih
    rw [meld_le h]
    refine (mk_items _ _ _ _).trans ?_
    rw [show items (node k i l r) = (k, i) :: (l.items ++ r.items) from rfl]
    simp only [List.cons_append, List.append_assoc]
    exact List.Perm.cons _ (List.Perm.append_left _ ih)
theorem meld_above (c : Int) (a b : LT) (ha : above c a) (hb : above c b) : above c (meld a b) := by
  cases a using LT.parts with
  | nil => rw [meld_nil_left]; exact hb
  | node k i l r =>
    cases b using LT.parts with
    | nil => rw [meld_nil_right]; exact ha
    | node k' i' l' r' =>
      by_cases h : k' < k
      · rw [meld_gt h]; exact mk_above hb
      · rw [meld_le h]; exact mk_above ha
theorem meld_leans (a b : LT) (ha : Leans a) (hb : Leans b) : Leans (meld a b) := by
  revert ha hb
  refine meld_ind (motive := fun a b => Leans a → Leans b → Leans (meld a b)) ?_ ?_ ?_ ?_ a b
  · intro b _ hb; rw [meld_nil_left]; exact hb
  · intro a ha _; rw [meld_nil_right]; exact ha
  · intro k i l r k' i' l' r' h ih ha hb
    rw [meld_gt h]
    obtain ⟨b1, b2, b3, b4, b5⟩ := hb
    exact mk_leans b1 (meld_above k' _ _ (Int.le_of_lt h) b2) b4 (ih ha b5)
  · intro k i l r k' i' l' r' h ih ha hb
    rw [meld_le h]
    obtain ⟨a1, a2, a3, a4, a5⟩ := ha
    exact mk_leans a1 (meld_above k _ _ a2 (show k ≤ k' by omega)) a4 (ih a5 hb)
/-- The way to the right is short: with a spine of n nodes there are at least 2 to n, less 1. -/
theorem spine_short : ∀ t : LT, Leans t → 2 ^ t.spine ≤ t.size + 1
  | ⟨none⟩, _ => by simp [spine, size]
  | ⟨some (k, i, l, r)⟩, ⟨_, _, h, hl, hr⟩ => by
    have a := spine_short l hl
    have b := spine_short r hr
    have c : 2 ^ r.spine ≤ 2 ^ l.spine := Nat.pow_le_pow_right (by omega) h
    simp only [spine, size, Nat.pow_succ]
    omega
/-- No key of a tree is less than that of its root. -/
theorem root_least : ∀ (t : LT) (c : Int), above c t → Leans t → ∀ x ∈ t.items, c ≤ x.1
  | ⟨none⟩, _, _, _, x, hx => by simp [items] at hx
  | ⟨some (k, i, l, r)⟩, c, hc, ⟨a1, a2, _, hl, hr⟩, x, hx => by
    have hk : c ≤ k := hc
    simp only [items, List.mem_cons, List.mem_append] at hx
    rcases hx with rfl | hx | hx
    · exact hk
    · exact Int.le_trans hk (root_least l k a1 hl x hx)
    · exact Int.le_trans hk (root_least r k a2 hr x hx)
end LT
end Go.Proofs.YtoaabpoicacogaaDoor
