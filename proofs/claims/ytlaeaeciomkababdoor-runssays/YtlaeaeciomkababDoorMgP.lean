/-
  Plain facts of merging: a heap of what is left of sorted runs, by their first numbers.
-/
import Derived.Test.YtlaeaeciomkababDoorHSV
import Derived.Test.YtlaeaeciomkababDoorRnK
namespace Go.Proofs.YtlaeaeciomkababDoor
open Go.RowKit Go.Sort Go.Proofs

/-- What is left of a run: the run's place times 64, and how many are gone. -/
def restL (ls : List (List Int)) (c : Int) : List Int := (ls.getD (c.toNat / 64) []).drop (c.toNat % 64)
def GV (ls : List (List Int)) (x : Int × Int) : Prop := 0 ≤ x.2 ∧ (restL ls x.2).head? = some x.1
theorem gv_cons {ls : List (List Int)} {x : Int × Int} (h : GV ls x) : restL ls x.2 = x.1 :: (restL ls x.2).tail := by
  cases e : restL ls x.2 with
  | nil => have := h.2; rw [e] at this; simp at this
  | cons a t => have := h.2; rw [e] at this; simp at this; rw [this]; rfl
theorem restL_next {ls : List (List Int)} (h60 : ∀ l ∈ ls, l.length ≤ 60) {c : Int} (hc : 0 ≤ c) (h : 1 < (restL ls c).length) : restL ls (c + 1) = (restL ls c).tail := by
  unfold restL at *
  obtain ⟨n, rfl⟩ : ∃ n : Nat, c = n := ⟨c.toNat, by omega⟩
  have e1 : ((n : Int) + 1).toNat = n + 1 := by omega
  have e2 : ((n : Int)).toNat = n := by omega
  rw [e2] at h
  rw [e1, e2]
  rw [List.length_drop] at h
  have hl : (ls.getD (n / 64) []).length ≤ 60 := by
    rw [List.getD_eq_getElem?_getD]
    cases q : ls[n / 64]? with
    | none => simp
    | some l => exact h60 l (List.mem_of_getElem? q)
  have h1 : (n + 1) / 64 = n / 64 := by omega
  have h2 : (n + 1) % 64 = n % 64 + 1 := by omega
  rw [h1, h2, List.tail_drop]
theorem restL_first {ls : List (List Int)} {i : Nat} {l : List Int} (h : ls[i]? = some l) : restL ls ((i * 64 : Nat) : Int) = l := by
  unfold restL
  rw [show ((i * 64 : Nat) : Int).toNat = i * 64 by omega, show i * 64 / 64 = i by omega, show i * 64 % 64 = 0 by omega, List.drop_zero, List.getD_eq_getElem?_getD, h]; rfl
def restsL (ls : List (List Int)) (d : List (Int × Int)) : List Int := d.flatMap fun x => restL ls x.2
theorem restsL_perm {ls : List (List Int)} {d e : List (Int × Int)} (h : d.Perm e) : (restsL ls d).Perm (restsL ls e) := h.flatMap_right _
/-- How things stand: what came out, what is held. -/
structure MerP (ls : List (List Int)) (out : List Int) (d : Array (Int × Int)) (all : List Int) : Prop where
  heap : HeapFrom 0 d
  good : AllP (GV ls) d
  perm : (out ++ restsL ls d.toList).Perm all
  up : out.Pairwise (· ≤ ·)
  low : ∀ o ∈ out, ∀ x ∈ d.toList, o ≤ x.1
theorem MerP.begin (ls : List (List Int)) : MerP ls [] #[] [] := ⟨fun _ _ h => absurd h (Nat.not_lt_zero _), AllP.nil _, List.Perm.refl _, List.Pairwise.nil, fun _ h => by cases h⟩
theorem MerP.size {ls : List (List Int)} {out : List Int} {d : Array (Int × Int)} {all : List Int} (h : MerP ls out d all) : d.size ≤ all.length := by
  have h1 := h.perm.length_eq
  have h2 : ∀ (l : List (Int × Int)), (∀ x ∈ l, GV ls x) → l.length ≤ (restsL ls l).length := by
    intro l
    induction l with
    | nil => intro _; simp
    | cons x t ih =>
      intro hg
      have := ih fun y hy => hg y (List.mem_cons_of_mem _ hy)
      have hx := gv_cons (hg x List.mem_cons_self)
      unfold restsL at *
      rw [List.flatMap_cons, List.length_append, hx]
      simp only [List.length_cons]; omega
  have := h2 d.toList h.good
  simp at *
  omega
/-- One more run. -/
theorem MerP.more {ls : List (List Int)} {d : Array (Int × Int)} {all : List Int} (h : MerP ls [] d all) {i : Nat} {a : Int} {t : List Int} (hi : ls[i]? = some (a :: t)) : MerP ls [] (hpush d (a, ((i * 64 : Nat) : Int))) (all ++ (a :: t)) := by
  have hr := restL_first hi
  have hx : GV ls (a, ((i * 64 : Nat) : Int)) := ⟨by show (0 : Int) ≤ ((i * 64 : Nat) : Int); omega, by show (restL ls ((i * 64 : Nat) : Int)).head? = _; rw [hr]; rfl⟩
  refine ⟨hpush_heap _ h.heap, h.good.hpush hx, ?_, List.Pairwise.nil, fun _ q => by cases q⟩
  have h1 := restsL_perm (ls := ls) (hpush_perm d (a, ((i * 64 : Nat) : Int)))
  refine h1.trans ?_
  unfold restsL
  rw [List.flatMap_append]
  refine List.Perm.append h.perm ?_
  rw [List.flatMap_cons, List.flatMap_nil, List.append_nil]
  show (restL ls ((i * 64 : Nat) : Int)).Perm _
  rw [hr]
theorem MerP.skip {ls : List (List Int)} {d : Array (Int × Int)} {all : List Int} (h : MerP ls [] d all) : MerP ls [] d (all ++ []) := by rw [List.append_nil]; exact h
/-- The first number of all goes out; the rest of its run is held again, if there is one. -/
theorem MerP.pop {ls : List (List Int)} (hup : ∀ l ∈ ls, l.Pairwise (· ≤ ·)) (h60 : ∀ l ∈ ls, l.length ≤ 60) {out : List Int} {d : Array (Int × Int)} {all : List Int} (h : MerP ls out d all) (h0 : 0 < d.size) :
    (¬ 1 < (restL ls d[0]!.2).length → MerP ls (out ++ [d[0]!.1]) (hpop d) all) ∧
    (∀ b, (restL ls d[0]!.2)[1]? = some b → MerP ls (out ++ [d[0]!.1]) (hpush (hpop d) (b, d[0]!.2 + 1)) all) := by
  have hg := h.good.at h0
  have hc := gv_cons hg
  have hp := hpop_perm h0
  have hmin : ∀ x ∈ d.toList, d[0]!.1 ≤ x.1 := fun x hx => by
    obtain ⟨j, hj, e⟩ := List.mem_iff_getElem.1 hx
    have hj' : j < d.size := by simpa using hj
    have := h.heap.root j hj'
    rw [getElem!_pos d j hj'] at this
    rw [← e]; simpa using this
  have hx0 : d[0]! ∈ d.toList := hp.subset List.mem_cons_self
  have hupo : (out ++ [d[0]!.1]).Pairwise (· ≤ ·) := by
    rw [List.pairwise_append]
    exact ⟨h.up, List.pairwise_singleton _ _, fun a ha b hb => by rw [List.mem_singleton.1 hb]; exact h.low a ha _ hx0⟩
  have hlow : ∀ o ∈ out ++ [d[0]!.1], ∀ x ∈ d.toList, o ≤ x.1 := fun o ho x hx => by
    rcases List.mem_append.1 ho with z | z
    · exact h.low o z x hx
    · rw [List.mem_singleton.1 z]; exact hmin x hx
  have hsub : ∀ x ∈ (hpop d).toList, x ∈ d.toList := fun x hx => hp.subset (List.mem_cons_of_mem _ hx)
  have hperm : (out ++ (restL ls d[0]!.2 ++ restsL ls (hpop d).toList)).Perm all := by
    refine (List.Perm.append_left out ?_).trans h.perm
    have := restsL_perm (ls := ls) hp
    unfold restsL at this ⊢
    rw [List.flatMap_cons] at this
    exact this
  have hsorted : (restL ls d[0]!.2).Pairwise (· ≤ ·) := by
    unfold restL
    rw [List.getD_eq_getElem?_getD]
    cases q : ls[d[0]!.2.toNat / 64]? with
    | none => simp
    | some l => exact (hup l (List.mem_of_getElem? q)).drop
  refine ⟨fun hn => ?_, fun b hb => ?_⟩
  · refine ⟨hpop_heap h.heap, h.good.hpop h0, ?_, hupo, fun o ho x hx => hlow o ho x (hsub x hx)⟩
    have : restL ls d[0]!.2 = [d[0]!.1] := by
      rw [hc] at hn ⊢
      cases e : (restL ls d[0]!.2).tail with
      | nil => rfl
      | cons a t => rw [e] at hn; simp at hn
    rw [this] at hperm
    rw [List.append_assoc]
    exact hperm
  · have h1 : 1 < (restL ls d[0]!.2).length := (List.getElem?_eq_some_iff.1 hb).1
    have hnx := restL_next h60 hg.1 h1
    have htail : (restL ls d[0]!.2).tail = b :: (restL ls d[0]!.2).tail.tail := by
      cases e : (restL ls d[0]!.2).tail with
      | nil => rw [hc, e] at h1; simp at h1
      | cons a t =>
        rw [hc, e] at hb
        simp at hb
        rw [hb]; rfl
    have hgx : GV ls (b, d[0]!.2 + 1) := ⟨by have := hg.1; show (0 : Int) ≤ d[0]!.2 + 1; omega, by show (restL ls (d[0]!.2 + 1)).head? = _; rw [hnx, htail]; rfl⟩
    have hab : d[0]!.1 ≤ b := by
      rw [hc, htail] at hsorted
      exact (List.pairwise_cons.1 hsorted).1 b List.mem_cons_self
    refine ⟨hpush_heap _ (hpop_heap h.heap), (h.good.hpop h0).hpush hgx, ?_, hupo, fun o ho x hx => ?_⟩
    · have h2 := restsL_perm (ls := ls) (hpush_perm (hpop d) (b, d[0]!.2 + 1))
      refine (List.Perm.append_left _ h2).trans ?_
      have e3 : restsL ls ((hpop d).toList ++ [(b, d[0]!.2 + 1)]) = restsL ls (hpop d).toList ++ (restL ls d[0]!.2).tail := by
        unfold restsL
        rw [List.flatMap_append]
        simp [hnx]
      rw [e3, List.append_assoc]
      refine (List.Perm.append_left out ?_).trans hperm
      conv => rhs; rw [hc]
      show (d[0]!.1 :: (restsL ls (hpop d).toList ++ (restL ls d[0]!.2).tail)).Perm (d[0]!.1 :: ((restL ls d[0]!.2).tail ++ restsL ls (hpop d).toList))
      exact List.Perm.cons _ List.perm_append_comm
    · rcases List.mem_append.1 ((hpush_perm (hpop d) (b, d[0]!.2 + 1)).subset hx) with z | z
      · exact hlow o ho x (hsub x z)
      · rw [List.mem_singleton.1 z]
        show o ≤ b
        have : o ≤ d[0]!.1 := by
          rcases List.mem_append.1 ho with t | t
          · exact h.low o t _ hx0
          · rw [List.mem_singleton.1 t]; exact Int.le_refl _
        omega
theorem MerP.done {ls : List (List Int)} {out : List Int} {d : Array (Int × Int)} {all : List Int} (h : MerP ls out d all) (h0 : d.size = 0) : out.Perm all ∧ out.Pairwise (· ≤ ·) := by
  have e : d = #[] := Array.eq_empty_of_size_eq_zero h0
  subst e
  have := h.perm
  simp [restsL] at this
  exact ⟨this, h.up⟩
#print axioms MerP.pop
end Go.Proofs.YtlaeaeciomkababDoor
