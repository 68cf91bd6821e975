/-
  Plain facts of soft heaps: cells in a row, whose parts are places of cells, and which nodes they are.
-/
import Derived.Test.YtdpfijhkbhmkgaaDoorSoH
namespace Go.Proofs.YtdpfijhkbhmkgaaDoor

/-- A cell: its parts are places, or -1. -/
structure SC where
  key : Int
  rank : Nat
  want : Nat
  left : Int
  right : Int
  items : List (Int × Int)
/-- At a place there is a node, and it has these cells. -/
def Rep (A : List SC) : SN → Int → List Nat → Prop
  | ⟨none⟩, i, f => i = -1 ∧ f = []
  | ⟨some (k, r, w, is, a, b)⟩, i, f => ∃ (n : Nat) (l m : Int) (fa fb : List Nat), i = n ∧ A[n]? = some ⟨k, r, w, l, m, is⟩ ∧ Rep A a l fa ∧ Rep A b m fb ∧ f.Perm (n :: (fa ++ fb))
theorem rep_nil {A : List SC} {i : Int} {f : List Nat} : Rep A .nil i f ↔ i = -1 ∧ f = [] := by
  conv => lhs; unfold Rep
theorem rep_node {A : List SC} {k : Int} {r w : Nat} {is : List (Int × Int)} {a b : SN} {i : Int} {f : List Nat} :
    Rep A (.node k r w is a b) i f ↔ ∃ (n : Nat) (l m : Int) (fa fb : List Nat), i = n ∧ A[n]? = some ⟨k, r, w, l, m, is⟩ ∧ Rep A a l fa ∧ Rep A b m fb ∧ f.Perm (n :: (fa ++ fb)) := by
  conv => lhs; unfold Rep
theorem rep_perm {A : List SC} {t : SN} {i : Int} {f g : List Nat} (h : Rep A t i f) (p : f.Perm g) : Rep A t i g := by
  cases t using SN.parts with
  | nil =>
    obtain ⟨e, rfl⟩ := rep_nil.1 h
    exact rep_nil.2 ⟨e, List.nil_perm.1 p⟩
  | node k r w is a b =>
    obtain ⟨n, l, m, fa, fb, h1, h2, h3, h4, h5⟩ := rep_node.1 h
    exact rep_node.2 ⟨n, l, m, fa, fb, h1, h2, h3, h4, p.symm.trans h5⟩
theorem rep_frame {A B : List SC} : ∀ (s : Nat) (t : SN) (i : Int) (f : List Nat), t.size ≤ s → (∀ j ∈ f, B[j]? = A[j]?) → Rep A t i f → Rep B t i f
  | s, t, i, f, hs, hj, h => by
    cases t using SN.parts with
    | nil => exact rep_nil.2 (rep_nil.1 h)
    | node k r w is a b =>
      obtain ⟨n, l, m, fa, fb, h1, h2, h3, h4, h5⟩ := rep_node.1 h
      rw [SN.size_node] at hs
      have hm : ∀ j ∈ n :: (fa ++ fb), j ∈ f := fun j q => h5.symm.subset q
      cases s with
      | zero => omega
      | succ s =>
        exact rep_node.2 ⟨n, l, m, fa, fb, h1, by rw [hj n (hm n List.mem_cons_self)]; exact h2,
          rep_frame s a l fa (by omega) (fun j q => hj j (hm j (List.mem_cons_of_mem _ (List.mem_append_left _ q)))) h3,
          rep_frame s b m fb (by omega) (fun j q => hj j (hm j (List.mem_cons_of_mem _ (List.mem_append_right _ q)))) h4, h5⟩
theorem Rep.frame {A B : List SC} {t : SN} {i : Int} {f : List Nat} (h : Rep A t i f) (hj : ∀ j ∈ f, B[j]? = A[j]?) : Rep B t i f := rep_frame t.size t i f (Nat.le_refl _) hj h
theorem rep_none {A : List SC} {t : SN} {i : Int} {f : List Nat} (h : Rep A t i f) : t.none? = decide (i < 0) := by
  cases t using SN.parts with
  | nil => obtain ⟨rfl, _⟩ := rep_nil.1 h; rfl
  | node k r w is a b =>
    obtain ⟨n, l, m, fa, fb, rfl, _⟩ := rep_node.1 h
    simp [SN.none?]
/-- What a cell says of its node. -/
theorem rep_cell {A : List SC} {t : SN} {i : Int} {f : List Nat} (h : Rep A t i f) (hn : t.none? = false) : ∃ (n : Nat) (c : SC), i = n ∧ n ∈ f ∧ A[n]? = some c ∧ c.key = t.key ∧ c.rank = t.rank := by
  cases t using SN.parts with
  | nil => simp [SN.none?] at hn
  | node k r w is a b =>
    obtain ⟨n, l, m, fa, fb, h1, h2, _, _, h5⟩ := rep_node.1 h
    exact ⟨n, _, h1, h5.symm.subset List.mem_cons_self, h2, by simp [SN.key], by simp [SN.rank]⟩
theorem rep_in {A : List SC} : ∀ (s : Nat) (t : SN) (i : Int) (f : List Nat), t.size ≤ s → Rep A t i f → ∀ j ∈ f, j < A.length
  | s, t, i, f, hs, h, j, hj => by
    cases t using SN.parts with
    | nil => obtain ⟨_, rfl⟩ := rep_nil.1 h; cases hj
    | node k r w is a b =>
      obtain ⟨n, l, m, fa, fb, h1, h2, h3, h4, h5⟩ := rep_node.1 h
      rw [SN.size_node] at hs
      cases s with
      | zero => omega
      | succ s =>
        rcases List.mem_cons.1 (h5.subset hj) with rfl | q
        · exact (List.getElem?_eq_some_iff.1 h2).1
        · rcases List.mem_append.1 q with q | q
          · exact rep_in s a l fa (by omega) h3 j q
          · exact rep_in s b m fb (by omega) h4 j q
theorem Rep.lt {A : List SC} {t : SN} {i : Int} {f : List Nat} (h : Rep A t i f) {j : Nat} (hj : j ∈ f) : j < A.length := rep_in t.size t i f (Nat.le_refl _) h j hj
/-- Cells were written: those outside are as they were, and what is no more has no items. -/
structure Moved (A B : List SC) (f g : List Nat) : Prop where
  nodup : g.Nodup
  sub : ∀ j ∈ g, j ∈ f
  same : ∀ j, j ∉ f → B[j]? = A[j]?
  dead : ∀ j, j ∈ f → j ∉ g → ∀ c, B[j]? = some c → c.items = []
  len : B.length = A.length
theorem Moved.refl {A : List SC} {f : List Nat} (h : f.Nodup) : Moved A A f f := ⟨h, fun _ q => q, fun _ _ => rfl, fun _ q q2 => absurd q q2, rfl⟩
theorem Moved.trans {A B C : List SC} {f g h : List Nat} (p : Moved A B f g) (q : Moved B C g h) : Moved A C f h := by
  refine ⟨q.nodup, fun j hj => p.sub j (q.sub j hj), fun j hj => ?_, fun j hj hh c hc => ?_, q.len.trans p.len⟩
  · rw [q.same j (fun w => hj (p.sub j w)), p.same j hj]
  · by_cases w : j ∈ g
    · exact q.dead j w hh c hc
    · rw [q.same j w] at hc
      exact p.dead j hj w c hc
/-- The row of cells when the items of a part were taken. -/
def takenA (A : List SC) (n ja : Nat) (c d : SC) (l m : Int) : List SC := (A.set n ⟨d.key, c.rank, c.want, l, m, c.items ++ d.items⟩).set ja ⟨d.key, d.rank, d.want, d.left, d.right, []⟩
/-- A part's items were taken. -/
structure Taken (A B : List SC) (n ja : Nat) (f fl fm : List Nat) (c : SC) (s o : SN) (m2 : Int) : Prop where
  cell : B[n]? = some c
  part : Rep B s (ja : Int) fl
  more : Rep B o m2 fm
  moved : Moved A B f f
  perm : f.Perm (n :: (fl ++ fm))
  nodup : f.Nodup
theorem parted {n : Nat} {f fl fm : List Nat} (hp : f.Perm (n :: (fl ++ fm))) (hf : f.Nodup) : n ∉ fl ∧ n ∉ fm ∧ fl.Nodup ∧ fm.Nodup ∧ ∀ j ∈ fl, j ∉ fm := by
  have hn := hp.nodup_iff.1 hf
  rw [List.nodup_cons, List.mem_append, not_or, List.nodup_append] at hn
  obtain ⟨⟨n1, n2⟩, n3, n4, n5⟩ := hn
  exact ⟨n1, n2, n3, n4, fun j q1 q2 => n5 j q1 j q2 rfl⟩
/-- The part had no parts: it is taken away. -/
theorem Taken.leaf {A B : List SC} {n ja : Nat} {f fl fm : List Nat} {ka : Int} {r w : Nat} {is : List (Int × Int)} {l m2 : Int} {kb : Int} {ra wa : Nat} {o : SN} (h : Taken A B n ja f fl fm ⟨ka, r, w, l, m2, is⟩ (.node kb ra wa [] .nil .nil) o m2) :
    Rep (B.set n ⟨ka, r, w, -1, m2, is⟩) (.node ka r w is .nil o) (n : Int) (n :: fm) ∧ Moved A (B.set n ⟨ka, r, w, -1, m2, is⟩) f (n :: fm) := by
  obtain ⟨n1, n2, _, n4, n5⟩ := parted h.perm h.nodup
  have hB := (List.getElem?_eq_some_iff.1 h.cell).1
  obtain ⟨j', p, q, fp, fq, e1, e2, e3, e4, e5⟩ := rep_node.1 h.part
  obtain ⟨_, rfl⟩ := rep_nil.1 e3
  obtain ⟨_, rfl⟩ := rep_nil.1 e4
  have hnf : n ∈ f := h.perm.symm.subset List.mem_cons_self
  refine ⟨rep_node.2 ⟨n, -1, m2, [], fm, rfl, List.getElem?_set_self hB, rep_nil.2 ⟨rfl, rfl⟩, h.more.frame fun j w => List.getElem?_set_ne (show n ≠ j from fun z => n2 (z ▸ w)), List.Perm.refl _⟩, ⟨List.nodup_cons.2 ⟨n2, n4⟩, fun j hj => ?_, fun j hj => ?_, fun j hj hn c hc => ?_, ?_⟩⟩
  · rcases List.mem_cons.1 hj with rfl | q
    · exact hnf
    · exact h.perm.symm.subset (List.mem_cons_of_mem _ (List.mem_append_right _ q))
  · rw [List.getElem?_set_ne (show n ≠ j from fun z => hj (z ▸ hnf)), h.moved.same j hj]
  · rcases List.mem_cons.1 (h.perm.subset hj) with rfl | q
    · exact absurd List.mem_cons_self hn
    · rcases List.mem_append.1 q with q | q
      · have q2 := e5.subset q
        simp only [List.append_nil, List.mem_singleton] at q2
        subst q2
        rw [List.getElem?_set_ne (show n ≠ j from fun z => n1 (z ▸ q)), e2] at hc
        obtain rfl := Option.some.inj hc
        rfl
      · exact absurd (List.mem_cons_of_mem _ q) hn
  · rw [List.length_set, h.moved.len]
/-- The part is filled. -/
theorem Taken.deep {A B D : List SC} {n ja : Nat} {f fl fm g : List Nat} {ka : Int} {r w : Nat} {is : List (Int × Int)} {m2 : Int} {s s2 o : SN} (h : Taken A B n ja f fl fm ⟨ka, r, w, ja, m2, is⟩ s o m2) (hd : Moved B D fl g) (hr : Rep D s2 (ja : Int) g) :
    Rep D (.node ka r w is s2 o) (n : Int) (n :: (g ++ fm)) ∧ Moved A D f (n :: (g ++ fm)) := by
  obtain ⟨n1, n2, _, n4, n5⟩ := parted h.perm h.nodup
  have hnf : n ∈ f := h.perm.symm.subset List.mem_cons_self
  have hlf : ∀ j ∈ fl, j ∈ f := fun j q => h.perm.symm.subset (List.mem_cons_of_mem _ (List.mem_append_left _ q))
  refine ⟨rep_node.2 ⟨n, ja, m2, g, fm, rfl, by rw [hd.same n n1]; exact h.cell, hr, h.more.frame fun j w => hd.same j (fun z => n5 j z w), List.Perm.refl _⟩, ⟨?_, fun j hj => ?_, fun j hj => ?_, fun j hj hn c hc => ?_, hd.len.trans h.moved.len⟩⟩
  · rw [List.nodup_cons, List.mem_append, not_or, List.nodup_append]
    exact ⟨⟨fun z => n1 (hd.sub n z), n2⟩, hd.nodup, n4, fun a q1 b q2 e => n5 a (hd.sub a q1) (e ▸ q2)⟩
  · rcases List.mem_cons.1 hj with rfl | q
    · exact hnf
    · rcases List.mem_append.1 q with q | q
      · exact hlf j (hd.sub j q)
      · exact h.perm.symm.subset (List.mem_cons_of_mem _ (List.mem_append_right _ q))
  · rw [hd.same j (fun z => hj (hlf j z)), h.moved.same j hj]
  · rcases List.mem_cons.1 (h.perm.subset hj) with rfl | q
    · exact absurd List.mem_cons_self hn
    · rcases List.mem_append.1 q with q | q
      · exact hd.dead j q (fun z => hn (List.mem_cons_of_mem _ (List.mem_append_left _ z))) c hc
      · exact absurd (List.mem_cons_of_mem _ (List.mem_append_right _ q)) hn
/-- A round of filling: the parts as they are after a change of places. -/
structure Round (A : List SC) (n : Nat) (f : List Nat) (k : Int) (r w : Nat) (is : List (Int × Int)) (a b : SN) (l m : Int) (fl fm : List Nat) : Prop where
  less : Rep A (lessS a b) (if swapS a b then m else l) fl
  more : Rep A (moreS a b) (if swapS a b then l else m) fm
  cell : A[n]? = some ⟨k, r, w, l, m, is⟩
  perm : f.Perm (n :: (fl ++ fm))
  la : a.none? = decide (l < 0)
  mb : b.none? = decide (m < 0)
theorem round_of {A : List SC} {n : Nat} {f : List Nat} {k : Int} {r w : Nat} {is : List (Int × Int)} {a b : SN} (h : Rep A (.node k r w is a b) (n : Int) f) : ∃ l m fl fm, Round A n f k r w is a b l m fl fm := by
  obtain ⟨n', l, m, fa, fb, h1, h2, h3, h4, h5⟩ := rep_node.1 h
  obtain rfl : n = n' := by omega
  cases hs : swapS a b
  · refine ⟨l, m, fa, fb, ?_, ?_, h2, h5, rep_none h3, rep_none h4⟩
    · rw [hs]; unfold lessS; rw [hs]; exact h3
    · rw [hs]; unfold moreS; rw [hs]; exact h4
  · refine ⟨l, m, fb, fa, ?_, ?_, h2, h5.trans (List.Perm.cons _ List.perm_append_comm), rep_none h3, rep_none h4⟩
    · rw [hs]; unfold lessS; rw [hs]; exact h4
    · rw [hs]; unfold moreS; rw [hs]; exact h3
/-- What the row is when a part's items were taken: the part is there, without items. -/
theorem Round.taken {A : List SC} {n : Nat} {f : List Nat} {k : Int} {r w : Nat} {is : List (Int × Int)} {a b : SN} {l m : Int} {fl fm : List Nat} (h : Round A n f k r w is a b l m fl fm) (hf : f.Nodup) {ka : Int} {ra wa : Nat} {ia : List (Int × Int)} {la lb : SN} (e : lessS a b = .node ka ra wa ia la lb) :
    ∃ (ja : Nat) (d : SC), (if swapS a b then m else l) = ja ∧ n ≠ ja ∧ A[ja]? = some d ∧ d.key = ka ∧ d.items = ia ∧ (la.none? && lb.none?) = (decide (d.left < 0) && decide (d.right < 0)) ∧
      ∀ m2, m2 = (if swapS a b then l else m) →
        Taken A (takenA A n ja ⟨k, r, w, l, m, is⟩ d ja m2) n ja f fl fm ⟨ka, r, w, ja, m2, is ++ ia⟩ (.node ka ra wa [] la lb) (moreS a b) m2 := by
  have h1 := h.less
  rw [e] at h1
  obtain ⟨ja, p, q, fp, fq, e1, e2, e3, e4, e5⟩ := rep_node.1 h1
  obtain ⟨n1, n2, n3, n4, hdj⟩ := parted h.perm hf
  have hja : ja ∈ fl := e5.symm.subset List.mem_cons_self
  have hne : n ≠ ja := fun q => n1 (q ▸ hja)
  have hA := (List.getElem?_eq_some_iff.1 h.cell).1
  have hB := (List.getElem?_eq_some_iff.1 e2).1
  refine ⟨ja, _, e1, hne, e2, rfl, rfl, by rw [rep_none e3, rep_none e4], fun m2 hm => ?_⟩
  have hl := e5.nodup_iff.1 n3
  rw [List.nodup_cons, List.mem_append, not_or] at hl
  obtain ⟨⟨l1, l2⟩, _⟩ := hl
  have hoth : ∀ j, j ≠ n → j ≠ ja → (takenA A n ja ⟨k, r, w, l, m, is⟩ ⟨ka, ra, wa, p, q, ia⟩ ja m2)[j]? = A[j]? := by
    intro j q1 q2
    unfold takenA
    rw [List.getElem?_set_ne (Ne.symm q2), List.getElem?_set_ne (Ne.symm q1)]
  have hmemp : ∀ j ∈ fp, j ∈ fl := fun j q => e5.symm.subset (List.mem_cons_of_mem _ (List.mem_append_left _ q))
  have hmemq : ∀ j ∈ fq, j ∈ fl := fun j q => e5.symm.subset (List.mem_cons_of_mem _ (List.mem_append_right _ q))
  refine ⟨?_, ?_, ?_, ?_, h.perm, hf⟩
  · unfold takenA
    rw [List.getElem?_set_ne (Ne.symm hne), List.getElem?_set_self hA]
  · refine rep_node.2 ⟨ja, p, q, fp, fq, rfl, ?_, e3.frame ?_, e4.frame ?_, e5⟩
    · unfold takenA
      rw [List.getElem?_set_self (by simpa using hB)]
    · exact fun j w => hoth j (fun z => n1 (z ▸ hmemp j w)) (fun z => l1 (z ▸ w))
    · exact fun j w => hoth j (fun z => n1 (z ▸ hmemq j w)) (fun z => l2 (z ▸ w))
  · have hmore := h.more
    rw [← hm] at hmore
    exact hmore.frame fun j w => hoth j (fun z => n2 (z ▸ w)) (fun z => hdj ja hja (z ▸ w))
  · refine ⟨hf, fun _ q => q, fun j hj => hoth j (fun z => hj (z ▸ h.perm.symm.subset List.mem_cons_self)) (fun z => hj (z ▸ h.perm.symm.subset (List.mem_cons_of_mem _ (List.mem_append_left _ hja)))), fun j q1 q2 => absurd q1 q2, ?_⟩
    unfold takenA
    rw [List.length_set, List.length_set]
end Go.Proofs.YtdpfijhkbhmkgaaDoor
