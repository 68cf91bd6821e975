/-
  Plain facts of two heaps of numbers: the lesser half, whose greatest comes first, and the greater half, whose least comes first.
-/
import Derived.Test.YtcjfbenbdjlodabHMath
namespace Go.Proofs.Ytcjfbenbdjlodab
open Go.RowKit Go.Sort Go.Proofs

/-- The number that an item of a queue stands for: where the least comes first, and where the greatest does. -/
def valL (x : Int × Int) : Int := x.1
def valG (x : Int × Int) : Int := -x.1
def itmL (c : Int) : Int × Int := (c, 0)
def itmG (c : Int) : Int × Int := (-c, 0)
theorem val_itmL (c : Int) : valL (itmL c) = c := rfl
theorem val_itmG (c : Int) : valG (itmG c) = c := by unfold valG itmG; omega
theorem ordL {x z : Int × Int} (h : z.1 < x.1) : valL z < valL x := h
theorem ordG {x z : Int × Int} (h : z.1 < x.1) : valG x < valG z := by unfold valG; omega
theorem ordL' {x z : Int × Int} (h : ¬ z.1 < x.1) : ¬ valL z < valL x := h
theorem ordG' {x z : Int × Int} (h : ¬ z.1 < x.1) : ¬ valG x < valG z := by unfold valG; omega
def numL (d : Array (Int × Int)) : List Int := d.toList.map valL
def numG (d : Array (Int × Int)) : List Int := d.toList.map valG
theorem numL_len (d : Array (Int × Int)) : (numL d).length = d.size := by simp [numL]
theorem numG_len (d : Array (Int × Int)) : (numG d).length = d.size := by simp [numG]
theorem numL_push (d : Array (Int × Int)) (c : Int) : (numL (hpush d (itmL c))).Perm (numL d ++ [c]) := by
  have := (hpush_perm d (itmL c)).map valL
  simpa [numL, val_itmL] using this
theorem numG_push (d : Array (Int × Int)) (c : Int) : (numG (hpush d (itmG c))).Perm (numG d ++ [c]) := by
  have := (hpush_perm d (itmG c)).map valG
  simpa [numG, val_itmG] using this
theorem numL_pop {d : Array (Int × Int)} (h : 0 < d.size) : (valL d[0]! :: numL (hpop d)).Perm (numL d) := by
  have := (hpop_perm h).map valL
  simpa [numL] using this
theorem numG_pop {d : Array (Int × Int)} (h : 0 < d.size) : (valG d[0]! :: numG (hpop d)).Perm (numG d) := by
  have := (hpop_perm h).map valG
  simpa [numG] using this
theorem mem_arr {d : Array (Int × Int)} {x : Int × Int} (h : x ∈ d.toList) : ∃ j, j < d.size ∧ d[j]! = x := by
  obtain ⟨j, hj, e⟩ := List.mem_iff_getElem.1 h
  exact ⟨j, by simpa using hj, by rw [getElem!_pos d j (by simpa using hj)]; simpa using e⟩
theorem leastL {d : Array (Int × Int)} (h : HeapFrom 0 d) {y : Int} (hy : y ∈ numL d) : valL d[0]! ≤ y := by
  obtain ⟨x, hx, rfl⟩ := List.mem_map.1 hy
  obtain ⟨j, hj, rfl⟩ := mem_arr hx
  exact h.root j hj
theorem mostG {d : Array (Int × Int)} (h : HeapFrom 0 d) {y : Int} (hy : y ∈ numG d) : y ≤ valG d[0]! := by
  obtain ⟨x, hx, rfl⟩ := List.mem_map.1 hy
  obtain ⟨j, hj, rfl⟩ := mem_arr hx
  have := h.root j hj
  unfold valG; omega

/-- a holds the lesser half of all numbers, and the odd one, too; b holds the greater half. -/
structure Half (all : List Int) (a b : Array (Int × Int)) : Prop where
  ha : HeapFrom 0 a
  hb : HeapFrom 0 b
  perm : (numG a ++ numL b).Perm all
  le : ∀ x ∈ numG a, ∀ y ∈ numL b, x ≤ y
  size : a.size = b.size ∨ a.size = b.size + 1
theorem heap_nil : HeapFrom 0 #[] := fun _ _ h => absurd h (Nat.not_lt_zero _)
theorem Half.nil : Half [] #[] #[] := ⟨heap_nil, heap_nil, List.Perm.refl _, fun x h => by simp [numG] at h, Or.inl rfl⟩
theorem Half.len {all : List Int} {a b : Array (Int × Int)} (h : Half all a b) : a.size + b.size = all.length := by
  have := h.perm.length_eq
  rw [List.length_append, numG_len, numL_len] at this
  exact this
/-- The first of a queue goes over. -/
def overA (a : Array (Int × Int)) (b : Array (Int × Int)) : Array (Int × Int) := hpush b (itmL (valG a[0]!))
def overB (b : Array (Int × Int)) (a : Array (Int × Int)) : Array (Int × Int) := hpush a (itmG (valL b[0]!))
/-- One more number: by way of the lesser half. -/
def halve (a b : Array (Int × Int)) (c : Int) : Array (Int × Int) × Array (Int × Int) :=
  let a1 := hpush a (itmG c)
  let a2 := hpop a1
  let b1 := overA a1 b
  if a2.size < b1.size then (overB b1 a2, hpop b1) else (a2, b1)
theorem perm_count {l m : List Int} (h : l.Perm m) (z : Int) : l.count z = m.count z := h.count_eq z
theorem Half.step {all : List Int} {a b : Array (Int × Int)} (h : Half all a b) (c : Int) : Half (all ++ [c]) (halve a b c).1 (halve a b c).2 := by
  obtain ⟨ha, hb, hp, hle, hsz⟩ := h
  unfold halve
  simp only
  obtain ⟨a1, e1⟩ : ∃ x, x = hpush a (itmG c) := ⟨_, rfl⟩
  have s1 : a1.size = a.size + 1 := by rw [e1, hpush_size]
  have p1 : (numG a1).Perm (numG a ++ [c]) := by rw [e1]; exact numG_push a c
  have k1 : HeapFrom 0 a1 := by rw [e1]; exact hpush_heap _ ha
  rw [← e1]
  obtain ⟨a2, e2⟩ : ∃ x, x = hpop a1 := ⟨_, rfl⟩
  have s2 : a2.size = a.size := by rw [e2, hpop_size, s1]; omega
  have p2 : (valG a1[0]! :: numG a2).Perm (numG a1) := by rw [e2]; exact numG_pop (by omega)
  have k2 : HeapFrom 0 a2 := by rw [e2]; exact hpop_heap k1
  rw [← e2]
  obtain ⟨m, em⟩ : ∃ m, m = valG a1[0]! := ⟨_, rfl⟩
  have hm : ∀ x ∈ numG a1, x ≤ m := fun x hx => by rw [em]; exact mostG k1 hx
  rw [← em] at p2
  obtain ⟨b1, e3⟩ : ∃ x, x = overA a1 b := ⟨_, rfl⟩
  have e3' : b1 = hpush b (itmL m) := by rw [e3, em]; rfl
  have s3 : b1.size = b.size + 1 := by rw [e3', hpush_size]
  have p3 : (numL b1).Perm (numL b ++ [m]) := by rw [e3']; exact numL_push b m
  have k3 : HeapFrom 0 b1 := by rw [e3']; exact hpush_heap _ hb
  rw [← e3]
  -- what is in a2 is in a, or is c
  have mem2 : ∀ x ∈ numG a2, x ≤ m := fun x hx => hm x (p2.subset (List.mem_cons_of_mem _ hx))
  have mb : ∀ y ∈ numL b, m ≤ y ∨ (∀ x ∈ numG a2, x ≤ y) := by
    intro y hy
    rcases List.mem_append.1 (p1.subset (p2.subset List.mem_cons_self)) with q | q
    · exact Or.inl (hle m q y hy)
    · obtain rfl : m = c := by simpa using q
      refine Or.inr fun x hx => ?_
      have pp : (m :: numG a2).Perm (m :: numG a) := (p2.trans p1).trans (List.perm_append_comm (l₁ := numG a) (l₂ := [m]))
      exact hle x ((List.Perm.cons_inv pp).subset hx) y hy
  have le2 : ∀ x ∈ numG a2, ∀ y ∈ numL b1, x ≤ y := by
    intro x hx y hy
    rcases List.mem_append.1 (p3.subset hy) with q | q
    · rcases mb y q with z | z
      · exact Int.le_trans (mem2 x hx) z
      · exact z x hx
    · obtain rfl : y = m := by simpa using q
      exact mem2 x hx
  have perm2 : (numG a2 ++ numL b1).Perm (all ++ [c]) := by
    rw [List.perm_iff_count]
    intro z
    have q1 := perm_count p1 z
    have q2 := perm_count p2 z
    have q3 := perm_count p3 z
    have q0 := perm_count hp z
    simp only [List.count_append, List.count_cons, List.count_nil] at q0 q1 q2 q3 ⊢
    omega
  by_cases hc : a2.size < b1.size
  · rw [if_pos hc]
    have hpos : 0 < b1.size := by omega
    obtain ⟨n, en⟩ : ∃ n, n = valL b1[0]! := ⟨_, rfl⟩
    have p4 : (n :: numL (hpop b1)).Perm (numL b1) := by rw [en]; exact numL_pop hpos
    have hn : ∀ y ∈ numL b1, n ≤ y := fun y hy => by rw [en]; exact leastL k3 hy
    have e4 : overB b1 a2 = hpush a2 (itmG n) := by rw [en]; rfl
    rw [e4]
    have p5 := numG_push a2 n
    refine ⟨hpush_heap _ k2, hpop_heap k3, ?_, ?_, ?_⟩
    · rw [List.perm_iff_count]
      intro z
      have q1 := perm_count perm2 z
      have q2 := perm_count p4 z
      have q3 := perm_count p5 z
      simp only [List.count_append, List.count_cons, List.count_nil] at q1 q2 q3 ⊢
      omega
    · intro x hx y hy
      have hy' : y ∈ numL b1 := p4.subset (List.mem_cons_of_mem _ hy)
      rcases List.mem_append.1 (p5.subset hx) with q | q
      · exact le2 x q y hy'
      · obtain rfl : x = n := by simpa using q
        exact hn y hy'
    · show (hpush a2 (itmG n)).size = (hpop b1).size ∨ (hpush a2 (itmG n)).size = (hpop b1).size + 1
      rw [hpush_size, hpop_size]; omega
  · rw [if_neg hc]
    exact ⟨k2, k3, perm2, le2, by show a2.size = b1.size ∨ a2.size = b1.size + 1; omega⟩

/-- How many are less, and how many greater. -/
def lessN (l : List Int) (m : Int) : Nat := l.countP fun x => decide (x < m)
def moreN (l : List Int) (m : Int) : Nat := l.countP fun x => decide (m < x)
theorem Half.pos {all : List Int} {a b : Array (Int × Int)} (h : Half all a b) (hne : 0 < all.length) : 0 < a.size := by
  have := h.len
  have := h.size
  omega
theorem Half.middle {all : List Int} {a b : Array (Int × Int)} (h : Half all a b) (hne : 0 < all.length) :
    lessN all (valG a[0]!) + 1 ≤ a.size ∧ moreN all (valG a[0]!) ≤ b.size := by
  have hp := h.pos hne
  have p := numG_pop hp
  have e1 : lessN all (valG a[0]!) = lessN (numG a ++ numL b) (valG a[0]!) := (h.perm.countP_eq _).symm
  have e2 : moreN all (valG a[0]!) = moreN (numG a ++ numL b) (valG a[0]!) := (h.perm.countP_eq _).symm
  have m0 : valG a[0]! ∈ numG a := p.subset List.mem_cons_self
  have z1 : lessN (numL b) (valG a[0]!) = 0 := List.countP_eq_zero.2 fun y hy => by
    have := h.le _ m0 y hy
    simp only [decide_eq_true_eq]; omega
  have z2 : moreN (numG a) (valG a[0]!) = 0 := List.countP_eq_zero.2 fun y hy => by
    have := mostG h.ha hy
    simp only [decide_eq_true_eq]; omega
  have z3 : lessN (numG a) (valG a[0]!) ≤ (numG (hpop a)).length := by
    have : lessN (numG a) (valG a[0]!) = lessN (valG a[0]! :: numG (hpop a)) (valG a[0]!) := (p.countP_eq _).symm
    rw [this]
    unfold lessN
    rw [List.countP_cons_of_neg (by simp)]
    exact List.countP_le_length
  have z4 : moreN (numL b) (valG a[0]!) ≤ (numL b).length := List.countP_le_length
  rw [numG_len, hpop_size] at z3
  rw [numL_len] at z4
  rw [e1, e2]
  unfold lessN moreN at *
  rw [List.countP_append, List.countP_append]
  omega
/-- In a sorted list the place tells. -/
theorem sorted_at {s : List Int} (hs : s.Pairwise (· ≤ ·)) {p : Nat} (hp : p < s.length) {m : Int} (h1 : lessN s m ≤ p) (h2 : moreN s m + p < s.length) : s[p] = m := by
  have hspl : s = s.take p ++ (s[p] :: s.drop (p + 1)) := by rw [List.getElem_cons_drop, List.take_append_drop]
  have hge : ∀ x ∈ s.drop (p + 1), s[p] ≤ x := by
    have := hs
    rw [hspl] at this
    have := (List.pairwise_append.1 this).2.1
    exact (List.pairwise_cons.1 this).1
  have hle : ∀ x ∈ s.take p, x ≤ s[p] := by
    have := hs
    rw [hspl] at this
    exact fun x hx => (List.pairwise_append.1 this).2.2 x hx _ List.mem_cons_self
  rcases Int.lt_trichotomy s[p] m with c | c | c
  · exfalso
    have e : lessN s m = lessN (s.take p) m + lessN (s[p] :: s.drop (p + 1)) m := by
      conv => lhs; rw [hspl]
      exact List.countP_append
    have f1 : lessN (s.take p) m = (s.take p).length := List.countP_eq_length.2 fun x hx => by
      have := hle x hx
      simp only [decide_eq_true_eq]; omega
    have f2 : lessN (s[p] :: s.drop (p + 1)) m = lessN (s.drop (p + 1)) m + 1 := List.countP_cons_of_pos (by simp [c])
    rw [List.length_take, Nat.min_eq_left (by omega)] at f1
    omega
  · exact c
  · exfalso
    have e : moreN s m = moreN (s.take p) m + moreN (s[p] :: s.drop (p + 1)) m := by
      conv => lhs; rw [hspl]
      exact List.countP_append
    have f1 : moreN (s[p] :: s.drop (p + 1)) m = (s[p] :: s.drop (p + 1)).length := List.countP_eq_length.2 fun x hx => by
      rcases List.mem_cons.1 hx with rfl | q
      · simp [c]
      · have := hge x q
        simp only [decide_eq_true_eq]; omega
    rw [List.length_cons, List.length_drop] at f1
    omega
theorem Half.at {all s : List Int} {a b : Array (Int × Int)} (h : Half all a b) (hne : 0 < all.length) (hp : s.Perm all) (hs : s.Pairwise (· ≤ ·)) (hi : (all.length - 1) / 2 < s.length) : s[(all.length - 1) / 2] = valG a[0]! := by
  have hl := h.len
  have hsz := h.size
  obtain ⟨m1, m2⟩ := h.middle hne
  have e1 : lessN s (valG a[0]!) = lessN all (valG a[0]!) := hp.countP_eq _
  have e2 : moreN s (valG a[0]!) = moreN all (valG a[0]!) := hp.countP_eq _
  have := hp.length_eq
  exact sorted_at hs hi (by omega) (by omega)
#print axioms Half.step
#print axioms Half.at
end Go.Proofs.Ytcjfbenbdjlodab
