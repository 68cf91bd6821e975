/-
  Plain facts of soft heaps: cells in a row, and the heap's trees; how many items there are, and of how many it is wrong.
-/
import Derived.Test.YtdpfijhkbhmkgaaDoorSoA
namespace Go.Proofs.YtdpfijhkbhmkgaaDoor

/-- What is counted of a cell. -/
def SC.many (c : SC) : Nat := c.items.length
def SC.wrong (c : SC) : Nat := (c.items.filter fun x => decide (x.1 ≠ c.key)).length
def manyA (A : List SC) : Nat := (A.map SC.many).sum
def wrongA (A : List SC) : Nat := (A.map SC.wrong).sum
/-- What is counted at a place. -/
def atA (A : List SC) (g : SC → Nat) (j : Nat) : Nat := match A[j]? with
  | some c => g c
  | none => 0
theorem atA_some {A : List SC} {g : SC → Nat} {j : Nat} {c : SC} (e : A[j]? = some c) : atA A g j = g c := by
  unfold atA; rw [e]
theorem sum_range (A : List SC) (g : SC → Nat) : ((List.range A.length).map (atA A g)).sum = (A.map g).sum := by
  congr 1
  apply List.ext_getElem
  · simp
  · intro j h1 h2
    simp only [List.getElem_map, List.getElem_range]
    simp only [List.length_map] at h2
    exact atA_some (List.getElem?_eq_getElem h2)
theorem sum_none (l : List Nat) (g : Nat → Nat) (h : ∀ j ∈ l, g j = 0) : (l.map g).sum = 0 := by
  induction l with
  | nil => rfl
  | cons a l ih => simp [h a List.mem_cons_self, ih fun j q => h j (List.mem_cons_of_mem _ q)]
theorem sum_parts (l : List Nat) (g : Nat → Nat) (p : Nat → Bool) : (l.map g).sum = ((l.filter p).map g).sum + ((l.filter fun j => !p j).map g).sum := by
  induction l with
  | nil => rfl
  | cons a l ih =>
    cases e : p a <;> simp [e, ih] <;> omega
/-- All cells but these have nothing: what is counted is counted of these. -/
theorem sum_cells {A : List SC} {g : SC → Nat} {f : List Nat} (hf : f.Nodup) (hlt : ∀ j ∈ f, j < A.length) (h : ∀ j c, j ∉ f → A[j]? = some c → g c = 0) : (A.map g).sum = (f.map (atA A g)).sum := by
  rw [← sum_range, sum_parts _ _ (fun j => decide (j ∈ f))]
  rw [sum_none ((List.range A.length).filter fun j => !decide (j ∈ f)) _ (by
    intro j hj
    rw [List.mem_filter, List.mem_range] at hj
    exact (atA_some (List.getElem?_eq_getElem hj.1)).trans (h j _ (by simpa using hj.2) (List.getElem?_eq_getElem hj.1)))]
  rw [Nat.add_zero]
  refine List.Perm.sum_nat (List.Perm.map _ ?_)
  refine (List.perm_ext_iff_of_nodup (List.nodup_range.filter _) hf).2 fun j => ?_
  rw [List.mem_filter, List.mem_range]
  simp only [decide_eq_true_eq]
  exact ⟨fun q => q.2, fun q => ⟨hlt j q, q⟩⟩
/-- What is counted of a node and of those below it. -/
theorem rep_sum {A : List SC} : ∀ (s : Nat) (t : SN) (i : Int) (f : List Nat), t.size ≤ s → Rep A t i f → (f.map (atA A SC.many)).sum = t.all.length ∧ (f.map (atA A SC.wrong)).sum = t.wrong
  | s, t, i, f, hs, h => by
    cases t using SN.parts with
    | nil =>
      obtain ⟨_, rfl⟩ := rep_nil.1 h
      exact ⟨by rw [SN.all_nil]; rfl, by simp [SN.wrong]⟩
    | node k r w is a b =>
      obtain ⟨n, l, m, fa, fb, h1, h2, h3, h4, h5⟩ := rep_node.1 h
      rw [SN.size_node] at hs
      cases s with
      | zero => omega
      | succ s =>
        obtain ⟨p1, p2⟩ := rep_sum s a l fa (by omega) h3
        obtain ⟨q1, q2⟩ := rep_sum s b m fb (by omega) h4
        have ew : (SN.node k r w is a b).wrong = (is.filter fun x => decide (x.1 ≠ k)).length + (a.wrong + b.wrong) := by simp [SN.wrong]
        constructor
        · rw [(List.Perm.map _ h5).sum_nat, List.map_cons, List.sum_cons, List.map_append, List.sum_append_nat, p1, q1, atA_some h2, SN.all_node, List.length_append, List.length_append]; rfl
        · rw [(List.Perm.map _ h5).sum_nat, List.map_cons, List.sum_cons, List.map_append, List.sum_append_nat, p2, q2, atA_some h2, ew]; rfl
/-- At these places are the trees. -/
def RepS (A : List SC) : List SN → List Nat → List Nat → Prop
  | [], [], f => f = []
  | t :: ts, i :: is, f => ∃ f1 f2, Rep A t (i : Int) f1 ∧ RepS A ts is f2 ∧ f.Perm (f1 ++ f2)
  | _, _, _ => False
theorem RepS.perm {A : List SC} : ∀ {ts : List SN} {is f g : List Nat}, RepS A ts is f → f.Perm g → RepS A ts is g
  | [], [], f, g, h, p => by
    have h : f = [] := h
    subst h
    exact List.nil_perm.1 p
  | t :: ts, i :: is, f, g, ⟨f1, f2, h1, h2, h3⟩, p => ⟨f1, f2, h1, h2, p.symm.trans h3⟩
theorem RepS.frame {A B : List SC} : ∀ {ts : List SN} {is f : List Nat}, RepS A ts is f → (∀ j ∈ f, B[j]? = A[j]?) → RepS B ts is f
  | [], [], _, h, _ => h
  | _ :: _, _ :: _, _, ⟨f1, f2, h1, h2, h3⟩, hj =>
    ⟨f1, f2, h1.frame fun j q => hj j (h3.symm.subset (List.mem_append_left _ q)), h2.frame fun j q => hj j (h3.symm.subset (List.mem_append_right _ q)), h3⟩
theorem RepS.lt {A : List SC} : ∀ {ts : List SN} {is f : List Nat}, RepS A ts is f → ∀ j ∈ f, j < A.length
  | [], [], f, h, j, hj => by
    have h : f = [] := h
    subst h
    cases hj
  | t :: ts, i :: is, f, ⟨f1, f2, h1, h2, h3⟩, j, hj => by
    rcases List.mem_append.1 (h3.subset hj) with q | q
    · exact h1.lt q
    · exact h2.lt j q
theorem RepS.length {A : List SC} : ∀ {ts : List SN} {is f : List Nat}, RepS A ts is f → is.length = ts.length
  | [], [], _, _ => rfl
  | _ :: _, _ :: _, _, ⟨_, _, _, h2, _⟩ => by rw [List.length_cons, List.length_cons, h2.length]
theorem RepS.sum {A : List SC} : ∀ {ts : List SN} {is f : List Nat}, RepS A ts is f → (f.map (atA A SC.many)).sum = (allS ts).length ∧ (f.map (atA A SC.wrong)).sum = wrongS ts
  | [], [], f, h => by
    have h : f = [] := h
    subst h
    exact ⟨rfl, rfl⟩
  | t :: ts, i :: is, f, ⟨f1, f2, h1, h2, h3⟩ => by
    obtain ⟨p1, p2⟩ := rep_sum t.size t i f1 (Nat.le_refl _) h1
    obtain ⟨q1, q2⟩ := h2.sum
    have ew : wrongS (t :: ts) = t.wrong + wrongS ts := by simp [wrongS]
    rw [(List.Perm.map _ h3).sum_nat, (List.Perm.map _ h3).sum_nat, List.map_append, List.map_append, List.sum_append_nat, List.sum_append_nat, p1, p2, q1, q2, allS_cons, List.length_append, ew]
    exact ⟨rfl, rfl⟩
theorem RepS.split {A : List SC} : ∀ {ts us : List SN} {is f : List Nat}, RepS A (ts ++ us) is f → ∃ f1 f2, RepS A ts (is.take ts.length) f1 ∧ RepS A us (is.drop ts.length) f2 ∧ f.Perm (f1 ++ f2)
  | [], us, is, f, h => ⟨[], f, rfl, h, List.Perm.refl _⟩
  | t :: ts, us, i :: is, f, ⟨f1, f2, h1, h2, h3⟩ => by
    obtain ⟨g1, g2, k1, k2, k3⟩ := h2.split
    refine ⟨f1 ++ g1, g2, ⟨f1, g1, h1, k1, List.Perm.refl _⟩, k2, ?_⟩
    rw [List.append_assoc]
    exact h3.trans (List.Perm.append_left _ k3)
theorem RepS.join {A : List SC} : ∀ {ts us : List SN} {is js f g : List Nat}, RepS A ts is f → RepS A us js g → RepS A (ts ++ us) (is ++ js) (f ++ g)
  | [], us, [], js, f, g, h, k => by
    have h : f = [] := h
    subst h
    exact k
  | t :: ts, us, i :: is, js, f, g, ⟨f1, f2, h1, h2, h3⟩, k =>
    ⟨f1, f2 ++ g, h1, h2.join k, by rw [← List.append_assoc]; exact List.Perm.append_right _ h3⟩
/-- The row of cells has the heap's trees at these places, and nothing else. -/
structure HeapA (A : List SC) (ts : List SN) (is f : List Nat) : Prop where
  trees : RepS A ts is f
  nodup : f.Nodup
  dead : ∀ j c, j ∉ f → A[j]? = some c → c.items = []
theorem HeapA.counts {A : List SC} {ts : List SN} {is f : List Nat} (h : HeapA A ts is f) : manyA A = (allS ts).length ∧ wrongA A = wrongS ts := by
  obtain ⟨p1, p2⟩ := h.trees.sum
  refine ⟨?_, ?_⟩
  · rw [← p1]
    exact sum_cells h.nodup h.trees.lt fun j c q e => by unfold SC.many; rw [h.dead j c q e]; rfl
  · rw [← p2]
    exact sum_cells h.nodup h.trees.lt fun j c q e => by unfold SC.wrong; rw [h.dead j c q e]; rfl
end Go.Proofs.YtdpfijhkbhmkgaaDoor
