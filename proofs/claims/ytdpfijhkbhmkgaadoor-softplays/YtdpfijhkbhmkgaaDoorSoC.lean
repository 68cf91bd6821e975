/-
  Plain facts of soft heaps: cells in a row, when an item is pushed and when one is popped.
-/
import Derived.Test.YtdpfijhkbhmkgaaDoorSoB
namespace Go.Proofs.YtdpfijhkbhmkgaaDoor

/-- While an item is pushed: a tree, and the trees that it was not joined with. -/
structure PushA (B : List SC) (c : SN) (at' : Nat) (ts : List SN) (is fc fr : List Nat) : Prop where
  tree : Rep B c (at' : Int) fc
  rest : RepS B ts is fr
  nodup : (fc ++ fr).Nodup
  dead : ∀ j d, j ∉ fc ++ fr → B[j]? = some d → d.items = []
theorem append_old {B : List SC} {c : SC} {j : Nat} (h : j < B.length) : (B ++ [c])[j]? = B[j]? := List.getElem?_append_left h
theorem append_new (B : List SC) (c : SC) : (B ++ [c])[B.length]? = some c := by simp
theorem append_none {B : List SC} {c d : SC} {j : Nat} (hn : j ≠ B.length) (h : (B ++ [c])[j]? = some d) : B[j]? = some d := by
  have hl := (List.getElem?_eq_some_iff.1 h).1
  rw [List.length_append, List.length_singleton] at hl
  rw [← h, append_old (by omega)]
theorem HeapA.start {A : List SC} {ts : List SN} {is f : List Nat} (h : HeapA A ts is f) (x : Int × Int) : PushA (A ++ [⟨x.1, 0, 1, -1, -1, [x]⟩]) (leafS x) A.length ts is [A.length] f := by
  refine ⟨rep_node.2 ⟨A.length, -1, -1, [], [], rfl, append_new _ _, rep_nil.2 ⟨rfl, rfl⟩, rep_nil.2 ⟨rfl, rfl⟩, List.Perm.refl _⟩, h.trees.frame fun j q => append_old (h.trees.lt j q), ?_, fun j d hj hd => ?_⟩
  · rw [List.singleton_append, List.nodup_cons]
    exact ⟨fun q => Nat.lt_irrefl _ (h.trees.lt _ q), h.nodup⟩
  · rw [List.singleton_append, List.mem_cons, not_or] at hj
    exact h.dead j d hj.2 (append_none hj.1 hd)
/-- A tree is joined with the first one: a new cell, ahead of its being filled. -/
theorem PushA.joined {B : List SC} {c t : SN} {at' i : Nat} {ts : List SN} {is fc fr : List Nat} (h : PushA B c at' (t :: ts) (i :: is) fc fr) (k : Int) (r w : Nat) :
    ∃ f fo, Rep (B ++ [⟨k, r, w, i, at', []⟩]) (.node k r w [] t c) (B.length : Int) f ∧ f.Nodup ∧
      ∀ D g s, Moved (B ++ [⟨k, r, w, i, at', []⟩]) D f g → Rep D s (B.length : Int) g → PushA D s B.length ts is g fo := by
  obtain ⟨ft, fo, h1, h2, h3⟩ := h.rest
  have hall : (fc ++ fr).Perm ((ft ++ fc) ++ fo) := by
    refine (List.Perm.append_left _ h3).trans ?_
    rw [← List.append_assoc]
    exact List.Perm.append_right _ List.perm_append_comm
  have hlt : ∀ j ∈ (ft ++ fc) ++ fo, j < B.length := by
    intro j hj
    rcases List.mem_append.1 hj with q | q
    · rcases List.mem_append.1 q with q | q
      · exact h1.lt q
      · exact h.tree.lt q
    · exact h2.lt j q
  have hnd := hall.nodup_iff.1 h.nodup
  rw [List.nodup_append] at hnd
  obtain ⟨n1, n2, n3⟩ := hnd
  have hB : B.length ∉ (ft ++ fc) ++ fo := fun q => Nat.lt_irrefl _ (hlt _ q)
  refine ⟨B.length :: (ft ++ fc), fo, rep_node.2 ⟨B.length, i, at', ft, fc, rfl, append_new _ _, h1.frame fun j q => append_old (h1.lt q), h.tree.frame fun j q => append_old (h.tree.lt q), List.Perm.refl _⟩, List.nodup_cons.2 ⟨fun q => hB (List.mem_append_left _ q), n1⟩, fun D g s hd hr => ?_⟩
  have hout : ∀ j ∈ fo, j ∉ B.length :: (ft ++ fc) := by
    intro j q1 q2
    rcases List.mem_cons.1 q2 with e | q
    · exact hB (e ▸ List.mem_append_right _ q1)
    · exact n3 j q j q1 rfl
  refine ⟨hr, h2.frame fun j q => ?_, ?_, fun j d hj hdj => ?_⟩
  · rw [hd.same j (hout j q), append_old (h2.lt j q)]
  · rw [List.nodup_append]
    exact ⟨hd.nodup, n2, fun a q1 b q2 e => hout b q2 (e ▸ hd.sub a q1)⟩
  · rw [List.mem_append, not_or] at hj
    by_cases q : j ∈ B.length :: (ft ++ fc)
    · exact hd.dead j q hj.1 d hdj
    · rw [hd.same j q] at hdj
      rw [List.mem_cons, not_or] at q
      exact h.dead j d (fun z => by
        rcases List.mem_append.1 (hall.subset z) with z | z
        · exact q.2 z
        · exact hj.2 z) (append_none q.1 hdj)
theorem PushA.done {B : List SC} {c : SN} {at' : Nat} {ts : List SN} {is fc fr : List Nat} (h : PushA B c at' ts is fc fr) : HeapA B (c :: ts) (at' :: is) (fc ++ fr) :=
  ⟨⟨fc, fr, h.tree, h.rest, List.Perm.refl _⟩, h.nodup, h.dead⟩
theorem RepS.at {A : List SC} : ∀ {ts : List SN} {is f : List Nat} {n : Nat} {t : SN}, RepS A ts is f → ts[n]? = some t → ∃ i ft fo, is[n]? = some i ∧ Rep A t (i : Int) ft ∧ f.Perm (ft ++ fo) ∧
      (∀ B g s, (∀ j ∈ fo, B[j]? = A[j]?) → Rep B s (i : Int) g → RepS B (ts.set n s) is (g ++ fo)) ∧ (∀ B, (∀ j ∈ fo, B[j]? = A[j]?) → RepS B (ts.eraseIdx n) (is.eraseIdx n) fo)
  | [], _, _, _, _, _, e => by simp at e
  | u :: ts, i :: is, f, 0, t, ⟨f1, f2, h1, h2, h3⟩, e => by
    simp only [List.getElem?_cons_zero, Option.some.injEq] at e
    subst e
    exact ⟨i, f1, f2, rfl, h1, h3, fun B g s hB hr => ⟨g, f2, hr, h2.frame hB, List.Perm.refl _⟩, fun B hB => h2.frame hB⟩
  | u :: ts, i :: is, f, n + 1, t, ⟨f1, f2, h1, h2, h3⟩, e => by
    simp only [List.getElem?_cons_succ] at e
    obtain ⟨i2, ft, fo, k1, k2, k3, k4, k5⟩ := h2.at e
    refine ⟨i2, ft, f1 ++ fo, by simpa using k1, k2, ?_, fun B g s hB hr => ?_, fun B hB => ?_⟩
    · refine h3.trans ((List.Perm.append_left _ k3).trans ?_)
      exact List.perm_append_comm_assoc _ _ _
    · have q := k4 B g s (fun j z => hB j (List.mem_append_right _ z)) hr
      exact ⟨f1, g ++ fo, h1.frame fun j z => hB j (List.mem_append_left _ z), q, List.perm_append_comm_assoc _ _ _⟩
    · exact ⟨f1, fo, h1.frame fun j z => hB j (List.mem_append_left _ z), k5 B (fun j z => hB j (List.mem_append_right _ z)), List.Perm.refl _⟩
/-- One of the trees is changed, or taken away. -/
theorem HeapA.change {A : List SC} {ts : List SN} {is f : List Nat} (h : HeapA A ts is f) {n : Nat} {t : SN} (e : ts[n]? = some t) :
    ∃ i ft fo, is[n]? = some i ∧ Rep A t (i : Int) ft ∧ ft.Nodup ∧ (∀ B g s, Moved A B ft g → Rep B s (i : Int) g → HeapA B (ts.set n s) is (g ++ fo)) ∧
      (∀ B g, Moved A B ft g → (∀ j ∈ g, ∀ d, B[j]? = some d → d.items = []) → HeapA B (ts.eraseIdx n) (is.eraseIdx n) fo) := by
  obtain ⟨i, ft, fo, k1, k2, k3, k4, k5⟩ := h.trees.at e
  have hnd := k3.nodup_iff.1 h.nodup
  rw [List.nodup_append] at hnd
  obtain ⟨n1, n2, n3⟩ := hnd
  have hout : ∀ j ∈ fo, j ∉ ft := fun j q1 q2 => n3 j q2 j q1 rfl
  refine ⟨i, ft, fo, k1, k2, n1, fun B g s hd hr => ⟨k4 B g s (fun j q => hd.same j (hout j q)) hr, ?_, fun j d hj hdj => ?_⟩, fun B g hd hg => ⟨k5 B (fun j q => hd.same j (hout j q)), n2, fun j d hj hdj => ?_⟩⟩
  · rw [List.nodup_append]
    exact ⟨hd.nodup, n2, fun a q1 b q2 e => hout b q2 (e ▸ hd.sub a q1)⟩
  · rw [List.mem_append, not_or] at hj
    by_cases q : j ∈ ft
    · exact hd.dead j q hj.1 d hdj
    · rw [hd.same j q] at hdj
      exact h.dead j d (fun z => by
        rcases List.mem_append.1 (k3.subset z) with z | z
        · exact q z
        · exact hj.2 z) hdj
  · by_cases q : j ∈ ft
    · by_cases q2 : j ∈ g
      · exact hg j q2 d hdj
      · exact hd.dead j q q2 d hdj
    · rw [hd.same j q] at hdj
      exact h.dead j d (fun z => by
        rcases List.mem_append.1 (k3.subset z) with z | z
        · exact q z
        · exact hj z) hdj
/-- The items of a node's cell are others. -/
theorem rep_items {A : List SC} {k : Int} {r w : Nat} {is : List (Int × Int)} {a b : SN} {n : Nat} {f : List Nat} (h : Rep A (.node k r w is a b) (n : Int) f) (hf : f.Nodup) (js : List (Int × Int)) :
    ∃ l m, A[n]? = some ⟨k, r, w, l, m, is⟩ ∧ a.none? = decide (l < 0) ∧ b.none? = decide (m < 0) ∧ Rep (A.set n ⟨k, r, w, l, m, js⟩) (.node k r w js a b) (n : Int) f ∧ Moved A (A.set n ⟨k, r, w, l, m, js⟩) f f := by
  obtain ⟨n', l, m, fa, fb, h1, h2, h3, h4, h5⟩ := rep_node.1 h
  obtain rfl : n = n' := by omega
  have hn := h5.nodup_iff.1 hf
  rw [List.nodup_cons, List.mem_append, not_or] at hn
  have hl := (List.getElem?_eq_some_iff.1 h2).1
  have hnf : n ∈ f := h5.symm.subset List.mem_cons_self
  refine ⟨l, m, h2, rep_none h3, rep_none h4, rep_node.2 ⟨n, l, m, fa, fb, rfl, List.getElem?_set_self hl, h3.frame fun j q => List.getElem?_set_ne (show n ≠ j from fun z => hn.1.1 (z ▸ q)), h4.frame fun j q => List.getElem?_set_ne (show n ≠ j from fun z => hn.1.2 (z ▸ q)), h5⟩, ⟨hf, fun _ q => q, fun j hj => List.getElem?_set_ne (show n ≠ j from fun z => hj (z ▸ hnf)), fun _ q q2 => absurd q q2, List.length_set⟩⟩
end Go.Proofs.YtdpfijhkbhmkgaaDoor
