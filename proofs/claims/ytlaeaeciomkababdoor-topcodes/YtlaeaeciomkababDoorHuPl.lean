/-
  Plain facts: groups in a heap, the two lightest put together, round by round; how long each symbol comes to be.
-/
import Derived.Test.YtlaeaeciomkababDoorHuSpec
import Derived.Test.YtlaeaeciomkababDoorHMath
namespace Go.Proofs.YtlaeaeciomkababDoor
open Go.RowKit Go.Sort Go.Proofs

/-- The turn of a group that lies in a heap as (key, weight); the group. -/
def turnU (x : Int × Int) : Int := x.1 - x.2 * 1000
def grU (x : Int × Int) : Gr := (x.2.toNat, (turnU x).toNat)
def GoodU (c : Nat) (x : Int × Int) : Prop := 0 ≤ x.2 ∧ 0 ≤ turnU x ∧ turnU x < c
def putU (a t : Int) : Int × Int := (a * 1000 + t, a)
theorem turn_put (a t : Int) : turnU (putU a t) = t := by unfold turnU putU; simp only; omega
theorem leG_of {c : Nat} (hc : c ≤ 1000) {x y : Int × Int} (hx : GoodU c x) (hy : GoodU c y) (h : x.1 ≤ y.1) : leG (grU x) (grU y) := by
  obtain ⟨x0, x1, x2⟩ := hx
  obtain ⟨y0, y1, y2⟩ := hy
  unfold leG grU
  unfold turnU at *
  simp only
  omega
theorem first_of {c : Nat} (hc : c ≤ 1000) {d : Array (Int × Int)} (hh : HeapFrom 0 d) (hg : ∀ x ∈ d.toList, GoodU c x) (h0 : 0 < d.size) : FirstG (d.toList.map grU) (grU d[0]!) := by
  have hm : d[0]! ∈ d.toList := by rw [getElem!_pos d 0 h0]; simp
  refine ⟨List.mem_map_of_mem hm, fun y hy => ?_⟩
  obtain ⟨z, hz, rfl⟩ := List.mem_map.1 hy
  obtain ⟨j, hj, rfl⟩ := List.getElem_of_mem hz
  have hj' : j < d.size := by simpa using hj
  refine leG_of hc (hg _ hm) (hg _ hz) ?_
  have := hh.root j hj'
  rw [getElem!_pos d j hj'] at this
  simpa using this
theorem pop_mem {d : Array (Int × Int)} (h : 0 < d.size) {x : Int × Int} (hx : x ∈ (hpop d).toList) : x ∈ d.toList := (hpop_perm h).subset (List.mem_cons_of_mem _ hx)
theorem top_mem {d : Array (Int × Int)} (h : 0 < d.size) : d[0]! ∈ d.toList := by rw [getElem!_pos d 0 h]; simp
theorem psum : ∀ {a b : List Int}, a.Perm b → a.sum = b.sum := fun h => by
  induction h with
  | nil => rfl
  | cons x _ ih => simp [ih]
  | swap x y l => simp only [List.sum_cons]; omega
  | trans _ _ i1 i2 => exact i1.trans i2
/-- A list of numbers, one more at each of these places. -/
def bump (L : List Int) (S : List Nat) : List Int := S.foldl (fun L s => L.set s (L.getD s 0 + 1)) L
theorem bump_snoc (L : List Int) (S : List Nat) (s : Nat) : bump L (S ++ [s]) = (bump L S).set s ((bump L S).getD s 0 + 1) := by unfold bump; rw [List.foldl_append]; rfl
theorem bump_len (L : List Int) : ∀ S, (bump L S).length = L.length := by
  intro S
  induction S generalizing L with
  | nil => rfl
  | cons s S ih => unfold bump at ih ⊢; rw [List.foldl_cons, ih, List.length_set]
theorem bump_get : ∀ (S : List Nat) (L : List Int) (i : Nat), S.Nodup → (∀ s ∈ S, s < L.length) → (bump L S)[i]? = (L[i]?).map fun v => if i ∈ S then v + 1 else v
  | [], L, i, _, _ => by simp [bump]
  | s :: S, L, i, hn, hl => by
    rw [List.nodup_cons] at hn
    have e : bump L (s :: S) = bump (L.set s (L.getD s 0 + 1)) S := rfl
    rw [e, bump_get S _ i hn.2 fun t ht => by rw [List.length_set]; exact hl t (List.mem_cons_of_mem _ ht)]
    by_cases h : s = i
    · subst h
      have hs := hl s List.mem_cons_self
      rw [List.getElem?_set_self hs, List.getD_eq_getElem?_getD, List.getElem?_eq_getElem hs]
      simp [hn.1]
    · rw [List.getElem?_set_ne h]
      have : (i ∈ s :: S) ↔ i ∈ S := by
        rw [List.mem_cons]
        constructor
        · rintro (q | q)
          · exact absurd q.symm h
          · exact q
        · exact Or.inr
      simp only [this]
/-- The state of the rounds: n symbols, how long they are to be, the next turn, the heap, each turn's symbols, how long they are so far. -/
structure HuP (n : Nat) (D0 : Nat → Nat) (c : Nat) (d : Array (Int × Int)) (sy : Nat → List Nat) (L : List Int) : Prop where
  heap : HeapFrom 0 d
  good : ∀ x ∈ d.toList, GoodU c x
  cnt : c + d.size = 2 * n
  pos : 0 < d.size
  tot : (d.toList.map fun x => x.2).sum ≤ 40000
  turns : (d.toList.map fun x => (turnU x).toNat).Nodup
  syms : (d.toList.map fun x => sy (turnU x).toNat).flatten.Perm (List.range n)
  full : ∀ x ∈ d.toList, sy (turnU x).toNat ≠ []
  len : L.length = n
  lens : ∀ x ∈ d.toList, ∀ s ∈ sy (turnU x).toNat, ∃ k : Nat, L[s]? = some (k : Int) ∧ k + huffD (d.size - 1) c (d.toList.map grU) (turnU x).toNat = D0 s
section
variable {n c : Nat} {D0 : Nat → Nat} {d : Array (Int × Int)} {sy : Nat → List Nat} {L : List Int}
theorem HuP.symLt (h : HuP n D0 c d sy L) {x : Int × Int} (hx : x ∈ d.toList) {s : Nat} (hs : s ∈ sy (turnU x).toNat) : s < n :=
  List.mem_range.1 (h.syms.subset (List.mem_flatten.2 ⟨_, List.mem_map_of_mem (f := fun x => sy (turnU x).toNat) hx, hs⟩))
/-- The two that are popped. -/
theorem HuP.two (h : HuP n D0 c d sy L) (h1 : 1 < d.size) :
    d.toList.Perm (d[0]! :: (hpop d)[0]! :: (hpop (hpop d)).toList) ∧ 0 < (hpop d).size := by
  have s1 := hpop_size d
  have p1 := hpop_perm h.pos
  have p2 := hpop_perm (d := hpop d) (by omega)
  exact ⟨p1.symm.trans (p2.symm.cons _), by omega⟩
theorem HuP.fresh (h : HuP n D0 c d sy L) (h1 : 1 < d.size) : (sy (turnU d[0]!).toNat ++ sy (turnU (hpop d)[0]!).toNat).Nodup ∧ ∀ s ∈ sy (turnU d[0]!).toNat ++ sy (turnU (hpop d)[0]!).toNat, s < n := by
  obtain ⟨p, _⟩ := h.two h1
  have q := ((p.map fun x => sy (turnU x).toNat).flatten).symm.trans h.syms
  simp only [List.map_cons, List.flatten_cons, ← List.append_assoc] at q
  have hn := q.nodup_iff.2 List.nodup_range
  exact ⟨(List.nodup_append.1 hn).1, fun s hs => List.mem_range.1 (q.subset (List.mem_append_left _ hs))⟩
theorem HuP.short (h : HuP n D0 c d sy L) (h1 : 1 < d.size) : (sy (turnU d[0]!).toNat ++ sy (turnU (hpop d)[0]!).toNat).length ≤ n ∧ 0 < (sy (turnU d[0]!).toNat ++ sy (turnU (hpop d)[0]!).toNat).length := by
  obtain ⟨p, _⟩ := h.two h1
  have q := (((p.map fun x => sy (turnU x).toNat).flatten).symm.trans h.syms).length_eq
  simp only [List.map_cons, List.flatten_cons, ← List.append_assoc] at q
  rw [List.length_append, List.length_range] at q
  have h2 := h.full d[0]! (p.symm.subset List.mem_cons_self)
  refine ⟨by omega, ?_⟩
  rw [List.length_append]
  have := List.length_pos_iff.2 h2
  omega
theorem HuP.weights (h : HuP n D0 c d sy L) (h1 : 1 < d.size) : 0 ≤ d[0]!.2 ∧ 0 ≤ (hpop d)[0]!.2 ∧ d[0]!.2 + (hpop d)[0]!.2 ≤ 40000 := by
  obtain ⟨p, p0⟩ := h.two h1
  have e : (d.toList.map fun x => x.2).sum = d[0]!.2 + ((hpop d)[0]!.2 + ((hpop (hpop d)).toList.map fun x => x.2).sum) := by
    have := psum (p.map fun x => x.2)
    rw [this]; simp
  have hnn : 0 ≤ ((hpop (hpop d)).toList.map fun x => x.2).sum := by
    have : ∀ l : List (Int × Int), (∀ x ∈ l, 0 ≤ x.2) → 0 ≤ (l.map fun x => x.2).sum := by
      intro l
      induction l with
      | nil => intro _; simp
      | cons a t ih =>
        intro ha
        have := ha a List.mem_cons_self
        have := ih fun x hx => ha x (List.mem_cons_of_mem _ hx)
        simp only [List.map_cons, List.sum_cons]; omega
    exact this _ fun x hx => (h.good x (p.symm.subset (List.mem_cons_of_mem _ (List.mem_cons_of_mem _ hx)))).1
  have a0 := (h.good _ (p.symm.subset List.mem_cons_self)).1
  have b0 := (h.good _ (p.symm.subset (List.mem_cons_of_mem _ List.mem_cons_self))).1
  have := h.tot
  exact ⟨a0, b0, by omega⟩
/-- How long a symbol of the two is so far. -/
theorem HuP.value (h : HuP n D0 c d sy L) (h1 : 1 < d.size) : ∀ s ∈ sy (turnU d[0]!).toNat ++ sy (turnU (hpop d)[0]!).toNat, ∃ k : Nat, L[s]? = some (k : Int) ∧ k ≤ D0 s := by
  obtain ⟨p, _⟩ := h.two h1
  intro s hs
  rcases List.mem_append.1 hs with z | z
  · obtain ⟨k, e1, e2⟩ := h.lens _ (p.symm.subset List.mem_cons_self) s z
    exact ⟨k, e1, by omega⟩
  · obtain ⟨k, e1, e2⟩ := h.lens _ (p.symm.subset (List.mem_cons_of_mem _ List.mem_cons_self)) s z
    exact ⟨k, e1, by omega⟩
/-- A round. -/
theorem HuP.step (h : HuP n D0 c d sy L) (h1 : 1 < d.size) (hn : n ≤ 40) :
    HuP n D0 (c + 1) (hpush (hpop (hpop d)) (putU (d[0]!.2 + (hpop d)[0]!.2) c)) (fun t => if t = c then sy (turnU d[0]!).toNat ++ sy (turnU (hpop d)[0]!).toNat else sy t) (bump L (sy (turnU d[0]!).toNat ++ sy (turnU (hpop d)[0]!).toNat)) := by
  obtain ⟨p, p0⟩ := h.two h1
  obtain ⟨hnd, hlt⟩ := h.fresh h1
  obtain ⟨wa, wb, wab⟩ := h.weights h1
  have hcnt := h.cnt
  have hc : c ≤ 1000 := by omega
  have s1 := hpop_size d
  have s2 := hpop_size (hpop d)
  obtain ⟨a, ha⟩ : ∃ a, d[0]! = a := ⟨_, rfl⟩
  obtain ⟨b, hb⟩ : ∃ b, (hpop d)[0]! = b := ⟨_, rfl⟩
  have hfa := first_of hc h.heap h.good h.pos
  have hg1 : ∀ x ∈ (hpop d).toList, GoodU c x := fun x hx => h.good x (pop_mem h.pos hx)
  have hfb := first_of hc (hpop_heap h.heap) hg1 p0
  have q1 := (hpop_perm h.pos).symm
  have q2 := (hpop_perm (d := hpop d) p0).symm
  rw [ha] at p hnd hlt wa wab hfa q1 ⊢
  rw [hb] at p hnd hlt wb wab hfb q2 ⊢
  obtain ⟨R, hR⟩ : ∃ R, hpop (hpop d) = R := ⟨_, rfl⟩
  rw [hR] at p q2 s2 ⊢
  have hga : GoodU c a := h.good a (p.symm.subset List.mem_cons_self)
  have hgb : GoodU c b := h.good b (p.symm.subset (List.mem_cons_of_mem _ List.mem_cons_self))
  have hgR : ∀ x ∈ R.toList, GoodU c x := fun x hx => h.good x (p.symm.subset (List.mem_cons_of_mem _ (List.mem_cons_of_mem _ hx)))
  obtain ⟨S, hS⟩ : ∃ S, sy (turnU a).toNat ++ sy (turnU b).toNat = S := ⟨_, rfl⟩
  rw [hS] at hnd hlt ⊢
  obtain ⟨y, hy⟩ : ∃ y, putU (a.2 + b.2) c = y := ⟨_, rfl⟩
  have ty : turnU y = c := by rw [← hy]; exact turn_put _ _
  have wy : y.2 = a.2 + b.2 := by rw [← hy]; rfl
  have gy : grU y = ((grU a).1 + (grU b).1, c) := by
    unfold grU
    rw [ty, wy]
    refine Prod.ext ?_ (by simp)
    show (a.2 + b.2).toNat = a.2.toNat + b.2.toNat
    omega
  rw [hy]
  have pp := hpush_perm R y
  have ppc : (hpush R y).toList.Perm (y :: R.toList) := pp.trans (List.perm_append_comm (l₁ := R.toList) (l₂ := [y]))
  have hsz := hpush_size R y
  have hmem : ∀ x ∈ (hpush R y).toList, x = y ∨ x ∈ R.toList := fun x hx => by
    rcases List.mem_cons.1 (ppc.subset hx) with z | z
    · exact Or.inl z
    · exact Or.inr z
  have tlt : ∀ x ∈ R.toList, (turnU x).toNat ≠ c := fun x hx => by
    have := hgR x hx
    unfold GoodU at this
    omega
  have hnt := (p.map fun x => (turnU x).toNat).nodup_iff.1 h.turns
  simp only [List.map_cons, List.nodup_cons, List.mem_cons, not_or] at hnt
  obtain ⟨⟨nab, naR⟩, nbR, nR⟩ := hnt
  have hsR : ∀ x ∈ R.toList, (if (turnU x).toNat = c then S else sy (turnU x).toNat) = sy (turnU x).toNat := fun x hx => if_neg (tlt x hx)
  have hsy : ((hpush R y).toList.map fun x => (fun t => if t = c then S else sy t) (turnU x).toNat).flatten.Perm (List.range n) := by
    refine ((ppc.map _).flatten).trans ?_
    simp only [List.map_cons, List.flatten_cons]
    rw [ty, Int.toNat_natCast, if_pos rfl, List.map_congr_left hsR]
    refine List.Perm.trans ?_ (((p.map fun x => sy (turnU x).toNat).flatten).symm.trans h.syms)
    simp only [List.map_cons, List.flatten_cons]
    rw [← hS, List.append_assoc]
  -- how long
  have hD : ∀ t, huffD (d.size - 1) c (d.toList.map grU) t = if t = (turnU a).toNat ∨ t = (turnU b).toNat then huffD ((hpush R y).size - 1) (c + 1) ((hpush R y).toList.map grU) c + 1 else huffD ((hpush R y).size - 1) (c + 1) ((hpush R y).toList.map grU) t := by
    intro t
    have e1 : d.size - 1 = (d.size - 2) + 1 := by omega
    have e2 : (hpush R y).size - 1 = d.size - 2 := by omega
    have e3 : huffD (d.size - 2) (c + 1) ((hpush R y).toList.map grU) = huffD (d.size - 2) (c + 1) (((grU a).1 + (grU b).1, c) :: R.toList.map grU) := by
      refine huffD_perm _ _ _ _ ?_
      have := ppc.map grU
      rw [List.map_cons, gy] at this
      exact this
    rw [e1, e2, e3]
    exact huffD_two (a := grU a) (b := grU b) hfa (by have := q1.map grU; rw [List.map_cons] at this; exact this) hfb (by have := q2.map grU; rw [List.map_cons] at this; exact this) t
  refine ⟨hpush_heap y (by rw [← hR]; exact hpop_heap (hpop_heap h.heap)), fun x hx => ?_, by omega, by omega, ?_, ?_, hsy, fun x hx => ?_, by rw [bump_len]; exact h.len, fun x hx s hs => ?_⟩
  · rcases hmem x hx with rfl | z
    · exact ⟨by rw [wy]; exact Int.add_nonneg wa wb, by rw [ty]; exact Int.natCast_nonneg _, by rw [ty]; omega⟩
    · have := hgR x z
      exact ⟨this.1, this.2.1, by have := this.2.2; omega⟩
  · have e := psum (ppc.map fun x => x.2)
    have e2 := psum (p.map fun x => x.2)
    have := h.tot
    simp only [List.map_cons, List.sum_cons] at e e2
    rw [wy] at e
    omega
  · have := (ppc.map fun x => (turnU x).toNat).nodup_iff.2 (by
      rw [List.map_cons, List.nodup_cons]
      refine ⟨fun q => ?_, nR⟩
      obtain ⟨x, hx, e⟩ := List.mem_map.1 q
      rw [ty, Int.toNat_natCast] at e
      exact tlt x hx e)
    exact this
  · rcases hmem x hx with rfl | z
    · rw [ty, Int.toNat_natCast, if_pos rfl, ← hS]
      intro q
      exact h.full a (p.symm.subset List.mem_cons_self) (List.append_eq_nil_iff.1 q).1
    · have := hsR x z
      rw [this]
      exact h.full x (p.symm.subset (List.mem_cons_of_mem _ (List.mem_cons_of_mem _ z)))
  · rcases hmem x hx with rfl | z
    · rw [ty, Int.toNat_natCast] at hs ⊢
      simp only [if_pos] at hs
      have hs2 : s ∈ sy (turnU a).toNat ++ sy (turnU b).toNat := by rw [hS]; exact hs
      have key : ∃ k : Nat, L[s]? = some (k : Int) ∧ k + (huffD ((hpush R x).size - 1) (c + 1) ((hpush R x).toList.map grU) c + 1) = D0 s := by
        rcases List.mem_append.1 hs2 with z | z
        · obtain ⟨k, e1, e2⟩ := h.lens a (p.symm.subset List.mem_cons_self) s z
          rw [hD, if_pos (Or.inl rfl)] at e2
          exact ⟨k, e1, e2⟩
        · obtain ⟨k, e1, e2⟩ := h.lens b (p.symm.subset (List.mem_cons_of_mem _ List.mem_cons_self)) s z
          rw [hD, if_pos (Or.inr rfl)] at e2
          exact ⟨k, e1, e2⟩
      obtain ⟨k, e1, e2⟩ := key
      refine ⟨k + 1, ?_, by omega⟩
      rw [bump_get S L s hnd fun t ht => by rw [h.len]; exact hlt t ht, e1]
      simp [hs]
    · have hs' : s ∈ sy (turnU x).toNat := by
        have := hsR x z
        rw [this] at hs
        exact hs
      have hxd := p.symm.subset (List.mem_cons_of_mem _ (List.mem_cons_of_mem _ z))
      obtain ⟨k, e1, e2⟩ := h.lens x hxd s hs'
      rw [hD, if_neg] at e2
      · refine ⟨k, ?_, e2⟩
        have hnS : s ∉ S := by
          intro q
          have hq := ((p.map fun x => sy (turnU x).toNat).flatten).symm.trans h.syms
          simp only [List.map_cons, List.flatten_cons, ← List.append_assoc] at hq
          have hn2 := hq.nodup_iff.2 List.nodup_range
          rw [hS] at hn2
          exact (List.nodup_append.1 hn2).2.2 s q s (List.mem_flatten.2 ⟨_, List.mem_map_of_mem (f := fun x => sy (turnU x).toNat) z, hs'⟩) rfl
        rw [bump_get S L s hnd fun t ht => by rw [h.len]; exact hlt t ht, e1]
        simp [hnS]
      · rintro (q | q)
        · exact naR (by rw [← q]; exact List.mem_map_of_mem (f := fun x => (turnU x).toNat) z)
        · exact nbR (by rw [← q]; exact List.mem_map_of_mem (f := fun x => (turnU x).toNat) z)
theorem HuP.done (h : HuP n D0 c d sy L) (h1 : ¬ 1 < d.size) : L = (List.range n).map fun s => (D0 s : Int) := by
  have hs := h.pos
  apply List.ext_getElem?
  intro i
  rcases Nat.lt_or_ge i n with hi | hi
  · rw [List.getElem?_map, List.getElem?_range hi]
    obtain ⟨l, hl, hil⟩ := List.mem_flatten.1 (h.syms.symm.subset (List.mem_range.2 hi))
    obtain ⟨x, hx, rfl⟩ := List.mem_map.1 hl
    obtain ⟨k, e1, e2⟩ := h.lens x hx i hil
    rw [huffD_one (by rw [List.length_map, Array.length_toList]; omega)] at e2
    rw [e1, Option.map_some, ← e2]
    rfl
  · rw [List.getElem?_eq_none (by rw [h.len]; exact hi), List.getElem?_eq_none (by simp; exact hi)]
end
/-- The groups at first; how long symbols come to be. -/
def gr0 (ws : List Nat) : List Gr := ws.zipIdx
def lenU (ws : List Nat) (s : Nat) : Nat := huffD (ws.length - 1) ws.length (gr0 ws) s
def lensU (ws : List Nat) : List Int := (List.range ws.length).map fun s => (lenU ws s : Int)
/-- While the groups are put into the heap. -/
structure HuB (ws : List Nat) (i : Nat) (d : Array (Int × Int)) : Prop where
  heap : HeapFrom 0 d
  good : ∀ x ∈ d.toList, GoodU i x
  size : d.size = i
  tot : (d.toList.map fun x => x.2).sum ≤ 1000 * i
  grs : (d.toList.map grU).Perm (ws.take i).zipIdx
theorem HuB.begin (ws : List Nat) : HuB ws 0 #[] := ⟨fun j _ h => by simp at h, fun x hx => by simp at hx, rfl, by simp, by simp⟩
theorem HuB.put {ws : List Nat} {i : Nat} {d : Array (Int × Int)} (h : HuB ws i d) {a : Nat} (ha : ws[i]? = some a) (h1 : a ≤ 1000) : HuB ws (i + 1) (hpush d (putU a i)) := by
  obtain ⟨y, hy⟩ : ∃ y, putU (a : Int) (i : Int) = y := ⟨_, rfl⟩
  have ty : turnU y = i := by rw [← hy]; exact turn_put _ _
  have wy : y.2 = a := by rw [← hy]; rfl
  have gy : grU y = (a, i) := by
    unfold grU
    rw [ty, wy]; simp
  rw [hy]
  have pp := hpush_perm d y
  refine ⟨hpush_heap y h.heap, fun x hx => ?_, by rw [hpush_size, h.size], ?_, ?_⟩
  · rcases List.mem_append.1 (pp.subset hx) with z | z
    · have := h.good x z
      exact ⟨this.1, this.2.1, by have := this.2.2; omega⟩
    · rw [List.mem_singleton.1 z]
      exact ⟨by rw [wy]; exact Int.natCast_nonneg _, by rw [ty]; exact Int.natCast_nonneg _, by rw [ty]; omega⟩
  · have e := psum (pp.map fun x => x.2)
    rw [List.map_append, List.sum_append] at e
    simp only [List.map_cons, List.map_nil, List.sum_cons, List.sum_nil] at e
    have := h.tot
    rw [wy] at e
    have h2 : (a : Int) ≤ 1000 := by omega
    rw [e]
    have : ((1000 : Int) * ((i + 1 : Nat) : Int)) = 1000 * i + 1000 := by omega
    omega
  · obtain ⟨hi, e⟩ := List.getElem?_eq_some_iff.1 ha
    have h2 := pp.map grU
    rw [List.map_append, List.map_cons, List.map_nil, gy] at h2
    refine h2.trans ?_
    rw [List.take_succ_eq_append_getElem hi, List.zipIdx_append, e]
    refine h.grs.append ?_
    have : (List.take i ws).length = i := by rw [List.length_take]; omega
    simp [this]
theorem HuB.ready {ws : List Nat} {d : Array (Int × Int)} (h : HuB ws ws.length d) (h0 : 0 < ws.length) (hn : ws.length ≤ 40) : HuP ws.length (lenU ws) ws.length d (fun t => [t]) (List.replicate ws.length 0) := by
  have hgr := h.grs
  rw [List.take_length] at hgr
  have ht : (d.toList.map fun x => (turnU x).toNat).Perm (List.range ws.length) := by
    have := hgr.map Prod.snd
    rw [List.map_map, show (List.map Prod.snd ws.zipIdx) = List.range' 0 ws.length from List.zipIdx_map_snd 0 ws] at this
    rw [List.range_eq_range']
    exact this
  have hsy : (d.toList.map fun x => [(turnU x).toNat]).flatten = d.toList.map fun x => (turnU x).toNat := by
    generalize d.toList = l
    induction l with
    | nil => rfl
    | cons a t ih => simp only [List.map_cons, List.flatten_cons, ih]; rfl
  refine ⟨h.heap, h.good, by rw [h.size]; omega, by rw [h.size]; exact h0, by have := h.tot; omega, ht.nodup_iff.2 List.nodup_range, by rw [hsy]; exact ht, fun _ _ q => (by cases q), by simp, fun x hx s hs => ?_⟩
  have hs' : s = (turnU x).toNat := List.mem_singleton.1 hs
  have hlt : s < ws.length := List.mem_range.1 (ht.subset (by rw [hs']; exact List.mem_map_of_mem (f := fun x => (turnU x).toNat) hx))
  refine ⟨0, by rw [List.getElem?_replicate, if_pos hlt]; rfl, ?_⟩
  rw [← hs', h.size, huffD_perm _ _ _ _ hgr, Nat.zero_add]
  rfl
theorem gr0_snd (ws : List Nat) : (gr0 ws).map Prod.snd = List.range ws.length := by
  unfold gr0
  rw [List.range_eq_range', List.zipIdx_map_snd]
theorem gr0_len (ws : List Nat) : (gr0 ws).length = ws.length := by unfold gr0; simp
theorem gr0_mem {ws : List Nat} {s : Nat} (hs : s < ws.length) : (ws[s], s) ∈ gr0 ws := by
  unfold gr0
  rw [List.mem_zipIdx_iff_getElem?]
  simp [hs]
/-- HUFFMAN, for all symbols. -/
theorem lenU_fact {ws : List Nat} (h0 : 0 < ws.length) : Best (withD (huffD (ws.length - 1) ws.length (gr0 ws)) (gr0 ws)) ∧ (∀ s, s < ws.length → lenU ws s + 1 ≤ ws.length) ∧ ∀ M, ws.length ≤ M + 1 → roomW M (withD (huffD (ws.length - 1) ws.length (gr0 ws)) (gr0 ws)) = 2 ^ M := by
  have hl := gr0_len ws
  obtain ⟨a, b, c⟩ := huffD_fact (ws.length - 1) ws.length (gr0 ws) (fun e => by rw [e] at hl; simp at hl; omega) (by omega) (by rw [gr0_snd]; exact List.nodup_range) (fun g hg => by
    have : g.2 ∈ (gr0 ws).map Prod.snd := List.mem_map_of_mem hg
    rw [gr0_snd] at this
    exact List.mem_range.1 this)
  refine ⟨a, fun s hs => ?_, fun M hM => c M (by rw [hl]; exact hM)⟩
  have := b _ (gr0_mem hs)
  rw [hl] at this
  exact this
theorem bump_at {L : List Int} {S : List Nat} (hn : S.Nodup) (hl : ∀ s ∈ S, s < L.length) {j s : Nat} (hj : S[j]? = some s) : (bump L (S.take j))[s]? = L[s]? := by
  have hsub : (S.take j).Sublist S := List.take_sublist j S
  rw [bump_get _ _ _ (hn.sublist hsub) fun t ht => hl t (hsub.subset ht)]
  have : s ∉ S.take j := by
    intro q
    obtain ⟨k, hk⟩ := List.getElem?_of_mem q
    rw [List.getElem?_take] at hk
    split at hk
    · rename_i hkj
      have hk1 := List.getElem?_eq_some_iff.1 hk
      have hj1 := List.getElem?_eq_some_iff.1 hj
      have := (List.getElem_inj (h₀ := hk1.1) (h₁ := hj1.1) hn).1 (hk1.2.trans hj1.2.symm)
      omega
    · cases hk
  simp [this]
theorem bump_next {L : List Int} {S : List Nat} {j s : Nat} {k : Int} (hj : S[j]? = some s) (hk : (bump L (S.take j))[s]? = some k) : bump L (S.take (j + 1)) = (bump L (S.take j)).set s (k + 1) := by
  obtain ⟨hi, e⟩ := List.getElem?_eq_some_iff.1 hj
  rw [List.take_succ_eq_append_getElem hi, e, bump_snoc, List.getD_eq_getElem?_getD, hk]
  rfl
#print axioms lenU_fact
#print axioms HuP.step
#print axioms HuB.ready
end Go.Proofs.YtlaeaeciomkababDoor
