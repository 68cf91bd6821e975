/-
  The document's heaps of trees: what melding leans on: rows of lists, lists that lie apart from a growing one.
-/
import Derived.Test.YtmkjalpgeljnkaaDoorRefB4
import Derived.Test.YtmkjalpgeljnkaaDoorWr
namespace Go.Proofs.YtmkjalpgeljnkaaDoor
open Go.RowKit Go.Sort Go.Proofs

/-- A heap as it is written: ranks as whole numbers. -/
def zH (h : List TrL) : List (Int × List (Int × Int)) := h.map fun t => ((t.1 : Int), t.2)
theorem zH_len (h : List TrL) : (zH h).length = h.length := by simp [zH]
theorem zH_get {h : List TrL} {i r : Nat} {l : List (Int × Int)} (e : h[i]? = some (r, l)) : (zH h)[i]? = some ((r : Int), l) := by simp [zH, e]
/-- make([][]api.Item, n): empty lists. -/
theorem made_rows {w : World} {base n g : Nat} (h : w.ownsRow base 35 1 (.slice (some ⟨g, 0, none⟩) n n) n (madeCells (Value.slice none 0 0).cells (n * 1)).toList) (hn : 0 < n) : base ≤ g ∧ WrE ES w g 0 (List.replicate n (none, 0, 0)) := by
  have e : (madeCells (Value.slice none 0 0).cells (n * 1)).toList = ES.flat (List.replicate n (none, 0, 0)) := by
    have h1 : (Value.slice none 0 0).cells = #[.slice none 0 0] := rfl
    rw [h1, toList_madeCells_one, Nat.mul_one]
    have : ∀ m, ES.flat (List.replicate m (none, 0, 0)) = List.replicate m (.slice none 0 0) := fun m => by
      induction m with
      | zero => rfl
      | succ m ih => rw [List.replicate_succ, El.flat_cons, ih, List.replicate_succ]; rfl
    rw [this]
  rw [e] at h
  have ho : OwnE ES w base (.slice (some ⟨g, 0, none⟩) n n) (List.replicate n (none, 0, 0)) := by unfold OwnE; rw [List.length_replicate]; exact h
  obtain ⟨g', cp, e1, hb, _, hr, hf⟩ := ho.some List.length_replicate hn
  simp only [Value.slice.injEq, Option.some.injEq, Addr.mk.injEq] at e1
  obtain ⟨⟨rfl, _⟩, _⟩ := e1
  exact ⟨hb, hr, fun j _ => by rw [Nat.zero_add]; exact hf j⟩
theorem WrE.row {w : World} {blk i : Nat} {d : List SlV} (h : WrE ES w blk 0 d) {s : SlV} (hx : d[i]? = some s) : w.cell? ⟨blk, i, none⟩ = some (.slice s.1 s.2.1 s.2.2) ∧ w.frozen? ⟨blk, i, none⟩ = false := by
  have h1 := h.rd.row hx
  have hi := (List.getElem?_eq_some_iff.1 hx).1
  have h2 := h.fr i (by simpa [ES] using hi)
  rw [Nat.zero_add] at h1 h2
  exact ⟨h1, h2⟩
theorem WrE.setRow {w : World} {blk i : Nat} {d : List SlV} (h : WrE ES w blk 0 d) (hi : i < d.length) (y : SlV) : WrE ES (w.setCell ⟨blk, i, none⟩ (.slice y.1 y.2.1 y.2.2)) blk 0 (d.set i y) := by
  have := h.set hi y
  have e : w.setCells blk (0 + i * ES.K) (ES.enc y) = w.setCell ⟨blk, i, none⟩ (.slice y.1 y.2.1 y.2.2) := by
    show w.setCells blk (0 + i * 1) [.slice y.1 y.2.1 y.2.2] = _
    rw [Nat.zero_add, Nat.mul_one]; rfl
  rw [e] at this
  exact this
/-- Eight rows that hold the trees of a heap, by rank; what lies there is w's. -/
def RowsAt (w : World) (d : List SlV) (f : Nat → List (Int × Int)) : Prop := d.length = 8 ∧ ∀ j, j < 8 → ∃ s, d[j]? = some s ∧ Sl w (.slice s.1 s.2.1 s.2.2) (f j).toArray
theorem RowsAt.start (w : World) : RowsAt w (List.replicate 8 (none, 0, 0)) (digitH []) :=
  ⟨by simp, fun j hj => ⟨(none, 0, 0), by rw [List.getElem?_replicate, if_pos hj], by rw [digitH_nil]; exact Sl.nil w⟩⟩
theorem digitH_snoc {h : List TrL} {r : Nat} {l : List (Int × Int)} (hr : ∀ t ∈ h, t.1 < r) (j : Nat) : digitH (h ++ [(r, l)]) j = if j = r then l else digitH h j := by
  by_cases e : j = r
  · subst e
    rw [if_pos rfl]
    have : ∀ (g : List TrL), (∀ t ∈ g, t.1 < j) → digitH (g ++ [(j, l)]) j = l := by
      intro g
      induction g with
      | nil => intro _; exact digitH_eq l [] j
      | cons t g ih =>
        intro hg
        obtain ⟨q, m⟩ := t
        have := hg (q, m) List.mem_cons_self
        simp only at this
        rw [List.cons_append, digitH_ne m _ (by omega)]
        exact ih fun u hu => hg u (List.mem_cons_of_mem _ hu)
    exact this h hr
  · rw [if_neg e]
    induction h with
    | nil => rw [List.nil_append, digitH_ne l [] (fun q => e q.symm)]
    | cons t g ih =>
      obtain ⟨q, m⟩ := t
      by_cases k : q = j
      · subst k; rw [List.cons_append, digitH_eq, digitH_eq]
      · rw [List.cons_append, digitH_ne m _ k, digitH_ne m _ k]
        exact ih fun u hu => hr u (List.mem_cons_of_mem _ hu)
theorem RowsAt.set {w : World} {d : List SlV} {h : List TrL} {i r : Nat} {l : List (Int × Int)} {s : SlV} (H : RowsAt w d (digitH (h.take i))) (hp : h.Pairwise (fun a b => a.1 < b.1)) (hi : h[i]? = some (r, l)) (hs : Sl w (.slice s.1 s.2.1 s.2.2) l.toArray) : RowsAt w (d.set r s) (digitH (h.take (i + 1))) := by
  obtain ⟨hlt, e⟩ := List.getElem?_eq_some_iff.1 hi
  have et : h.take (i + 1) = h.take i ++ [(r, l)] := by rw [List.take_succ_eq_append_getElem hlt, e]
  have hlow : ∀ t ∈ h.take i, t.1 < r := fun t ht => by
    obtain ⟨j, hj, rfl⟩ := List.getElem_of_mem ht
    rw [List.length_take] at hj
    rw [List.getElem_take]
    have := List.pairwise_iff_getElem.1 hp j i (by omega) hlt (by omega)
    rw [e] at this
    exact this
  refine ⟨by rw [List.length_set]; exact H.1, fun j hj => ?_⟩
  rw [et, digitH_snoc hlow]
  by_cases q : j = r
  · subst q
    rw [if_pos rfl]
    exact ⟨s, by rw [List.getElem?_set_self (by rw [H.1]; exact hj)], hs⟩
  · rw [if_neg q]
    obtain ⟨s', e', hs'⟩ := H.2 j hj
    exact ⟨s', by rw [List.getElem?_set_ne (fun c => q c.symm)]; exact e', hs'⟩

/-- A list that lies neither in the block B nor in the block F. -/
def SlB (F : Option Nat) (w : World) (B : Option Nat) (v : Value) (l : List (Int × Int)) : Prop :=
  ∃ p c, v = .slice p l.length c ∧ l.length ≤ c ∧ (l = [] ∨ ∃ blk off, p = some ⟨blk, off, none⟩ ∧ some blk ≠ B ∧ some blk ≠ F ∧ RdAt w blk off l.toArray)
theorem SlB.sl {F : Option Nat} {w : World} {B : Option Nat} {v : Value} {l : List (Int × Int)} (h : SlB F w B v l) : Sl w v l.toArray := by
  obtain ⟨p, c, rfl, hc, h | ⟨blk, off, rfl, _, _, hr⟩⟩ := h
  · exact ⟨p, c, by simp, by simpa using hc, Or.inl (by simp [h])⟩
  · exact ⟨_, c, by simp, by simpa using hc, Or.inr ⟨blk, off, rfl, hr⟩⟩
theorem SlB.below {F : Option Nat} {w w' : World} {B : Option Nat} {v : Value} {l : List (Int × Int)} (h : SlB F w B v l) (hb : Below w.heap.size w w') : SlB F w' B v l := by
  obtain ⟨p, c, rfl, hc, h | ⟨blk, off, rfl, hn, hf, hr⟩⟩ := h
  · exact ⟨p, c, rfl, hc, Or.inl h⟩
  · exact ⟨_, c, rfl, hc, Or.inr ⟨blk, off, rfl, hn, hf, hr.below hb hr.1⟩⟩
theorem RdAt.keptB {w w' : World} {blk off : Nat} {row : Option Nat} {d : Array (Int × Int)} (h : RdAt w blk off d) (hg : w.grownBy w' row) (hne : some blk ≠ row) : RdAt w' blk off d :=
  have hb := hg.block blk h.1 hne
  ⟨Nat.lt_of_lt_of_le h.1 hg.size, fun i hi => ⟨(World.cell?_of_block (a := ⟨blk, off + i * 2, none⟩) hb).trans (h.2 i hi).1, (World.cell?_of_block (a := ⟨blk, off + i * 2 + 1, none⟩) hb).trans (h.2 i hi).2⟩⟩
/-- .. where a list grows in B. -/
theorem SlB.kept {F : Option Nat} {w w' : World} {B B' : Option Nat} {v : Value} {l : List (Int × Int)} (h : SlB F w B v l) (hg : w.grownBy w' B) (hB : B' = B ∨ B' = some w.heap.size) : SlB F w' B' v l := by
  obtain ⟨p, c, rfl, hc, h | ⟨blk, off, rfl, hn, hf, hr⟩⟩ := h
  · exact ⟨p, c, rfl, hc, Or.inl h⟩
  · refine ⟨_, c, rfl, hc, Or.inr ⟨blk, off, rfl, ?_, hf, hr.keptB hg hn⟩⟩
    rcases hB with e | e
    · rw [e]; exact hn
    · rw [e]; intro q; have := Option.some.inj q; have := hr.1; omega
/-- What lay there before, apart from what is one's own since. -/
theorem SlB.old {F : Option Nat} {w w' : World} {B : Option Nat} {v : Value} {l : List (Int × Int)} (h : Sl w v l.toArray) (hb : Below w.heap.size w w') (hB : ∀ g, B = some g → w.heap.size ≤ g) (hF : ∀ g, F = some g → w.heap.size ≤ g) : SlB F w' B v l := by
  obtain ⟨p, c, rfl, hc, h | ⟨blk, off, rfl, hr⟩⟩ := h
  · exact ⟨p, c, by simp, by simpa using hc, Or.inl (by simpa using h)⟩
  · refine ⟨_, c, by simp, by simpa using hc, Or.inr ⟨blk, off, rfl, fun e => ?_, fun e => ?_, hr.below hb hr.1⟩⟩
    · have := hB blk e.symm
      have := hr.1
      omega
    · have := hF blk e.symm
      have := hr.1
      omega
/-- What is new, apart from what is elder. -/
theorem SlB.fresh {F : Option Nat} {w : World} {base : Nat} {B : Option Nat} {v : Value} {l : List (Int × Int)} (h : OwnI w base v l) (hB : ∀ g, B = some g → g < base) (hF : ∀ g, F = some g → g < base) : SlB F w B v l := by
  rcases Nat.eq_zero_or_pos l.length with h0 | h0
  · have e := List.eq_nil_of_length_eq_zero h0
    subst e
    obtain ⟨p, c, e, hc, _⟩ := h.sl
    exact ⟨p, c, by simpa using e, Nat.zero_le _, Or.inl rfl⟩
  · obtain ⟨g, cp, rfl, hg, hc, hw⟩ := OwnI.wr rfl h0 h
    exact ⟨_, cp, rfl, hc, Or.inr ⟨g, 0, rfl, fun e => (by have := hB g e.symm; omega), fun e => (by have := hF g e.symm; omega), hw.rd⟩⟩

/-- Trees that were put out: ranks, and the items of each, apart from B and from F. -/
def OutAt (F : Option Nat) (w : World) (B : Option Nat) (os : List (Int × SlV)) (h : List TrL) : Prop :=
  os.length = h.length ∧ ∀ (i r : Nat) (l : List (Int × Int)), h[i]? = some (r, l) → ∃ s : SlV, os[i]? = some ((r : Int), s) ∧ SlB F w B (.slice s.1 s.2.1 s.2.2) l
theorem OutAt.nil (F : Option Nat) (w : World) (B : Option Nat) : OutAt F w B [] [] := ⟨rfl, fun i r l h => by simp at h⟩
theorem OutAt.below {F : Option Nat} {w w' : World} {B : Option Nat} {os : List (Int × SlV)} {h : List TrL} (H : OutAt F w B os h) (hb : Below w.heap.size w w') : OutAt F w' B os h :=
  ⟨H.1, fun i r l e => by obtain ⟨s, a, b⟩ := H.2 i r l e; exact ⟨s, a, b.below hb⟩⟩
theorem OutAt.kept {F : Option Nat} {w w' : World} {B B' : Option Nat} {os : List (Int × SlV)} {h : List TrL} (H : OutAt F w B os h) (hg : w.grownBy w' B) (hB : B' = B ∨ B' = some w.heap.size) : OutAt F w' B' os h :=
  ⟨H.1, fun i r l e => by obtain ⟨s, a, b⟩ := H.2 i r l e; exact ⟨s, a, b.kept hg hB⟩⟩
theorem OutAt.snoc {F : Option Nat} {w : World} {B : Option Nat} {os : List (Int × SlV)} {h : List TrL} {r : Nat} {l : List (Int × Int)} {s : SlV} (H : OutAt F w B os h) (hs : SlB F w B (.slice s.1 s.2.1 s.2.2) l) : OutAt F w B (os ++ [((r : Int), s)]) (h ++ [(r, l)]) := by
  refine ⟨by simp [H.1], fun i q m e => ?_⟩
  rcases Nat.lt_or_ge i h.length with k | k
  · rw [List.getElem?_append_left k] at e
    obtain ⟨s', a, b⟩ := H.2 i q m e
    exact ⟨s', by rw [List.getElem?_append_left (by rw [H.1]; exact k)]; exact a, b⟩
  · rw [List.getElem?_append_right k] at e
    have hi : i = h.length := by
      rcases Nat.eq_or_lt_of_le k with q | q
      · exact q.symm
      · rw [List.getElem?_eq_none (by simp; omega)] at e; cases e
    subst hi
    simp only [Nat.sub_self, List.getElem?_cons_zero, Option.some.injEq, Prod.mk.injEq] at e
    obtain ⟨rfl, rfl⟩ := e
    exact ⟨s, by rw [List.getElem?_append_right (by rw [H.1]; exact Nat.le_refl _), H.1]; simp, hs⟩
theorem zH_some {h : List TrL} {i : Nat} {r : Int} {l : List (Int × Int)} (e : (zH h)[i]? = some (r, l)) : ∃ q : Nat, h[i]? = some (q, l) ∧ (q : Int) = r := by
  simp only [zH, List.getElem?_map, Option.map_eq_some_iff] at e
  obtain ⟨⟨q, m⟩, e1, e2⟩ := e
  simp only [Prod.mk.injEq] at e2
  obtain ⟨rfl, rfl⟩ := e2
  exact ⟨q, e1, rfl⟩
theorem OutAt.heap {F : Option Nat} {w : World} {B : Option Nat} {base : Nat} {v : Value} {os : List (Int × SlV)} {h : List TrL} (H : OutAt F w B os h) (ho : OwnE ET w base v os) : HpAt w v (zH h) := by
  refine ⟨os, ho.sl, by rw [zH_len, H.1], fun i r l e => ?_⟩
  obtain ⟨q, e1, rfl⟩ := zH_some e
  obtain ⟨s, a, b⟩ := H.2 i q l e1
  exact ⟨s, a, b.sl⟩
/-- A heap that lies apart from a block stays where that block is written. -/
theorem OutAt.apart {f : Nat} {w w' : World} {B : Option Nat} {base : Nat} {v : Value} {os : List (Int × SlV)} {h : List TrL} (H : OutAt (some f) w B os h) (ho : OwnE ET w base v os) (hf : f < base) (hg : w.grownBy w' (some f)) : HpAt w' v (zH h) := by
  have ho' : OwnE ET w' base v os := by
    refine World.ownsRow.kept ho hg ?_
    cases hv : v.ownBlock with
    | none => exact Or.inl rfl
    | some g => exact Or.inr fun e => by have h1 := (World.ownsRow.lt ho g hv).1; have h2 := Option.some.inj e; omega
  refine ⟨os, ho'.sl, by rw [zH_len, H.1], fun i r l e => ?_⟩
  obtain ⟨q, e1, rfl⟩ := zH_some e
  obtain ⟨s, a, p, c, e2, hc, e3 | ⟨blk, off, e3, hn, hf2, hr⟩⟩ := H.2 i q l e1
  · exact ⟨s, a, by rw [e2]; exact ⟨p, c, by simp, by simpa using hc, Or.inl (by simp [e3])⟩⟩
  · refine ⟨s, a, ?_⟩
    rw [e2, e3]
    exact ⟨_, c, by simp, by simpa using hc, Or.inr ⟨blk, off, rfl, hr.keptB hg hf2⟩⟩

/-- The heap h in the world w: its row lies there, its items did so in w0 already. -/
def HpF (w0 w : World) (v : Value) (h : List TrL) : Prop :=
  ∃ ts : List (Int × SlV), SlE ET w v ts ∧ ts.length = h.length ∧ ∀ (i r : Nat) (l : List (Int × Int)), h[i]? = some (r, l) → ∃ s : SlV, ts[i]? = some ((r : Int), s) ∧ Sl w0 (.slice s.1 s.2.1 s.2.2) l.toArray
theorem HpAt.toF {w0 w : World} {v : Value} {h : List TrL} (H : HpAt w0 v (zH h)) (hb : Below w0.heap.size w0 w) : HpF w0 w v h := by
  obtain ⟨ts, h1, h2, h3⟩ := H
  exact ⟨ts, h1.below hb, by rw [h2, zH_len], fun i r l e => h3 i (r : Int) l (zH_get e)⟩
theorem HpF.tree {w0 w : World} {p : Option Addr} {n cap : Nat} {h : List TrL} (H : HpF w0 w (.slice p n cap) h) {i r : Nat} {l : List (Int × Int)} (hi : h[i]? = some (r, l)) :
    ∃ blk off q c, p = some ⟨blk, off, none⟩ ∧ blk < w.heap.size ∧ w.cell? ⟨blk, off + i * 2, none⟩ = some (.int .i64 (r : Int)) ∧ w.cell? ⟨blk, off + i * 2 + 1, none⟩ = some (.slice q l.length c) ∧ Sl w0 (.slice q l.length c) l.toArray := by
  obtain ⟨ts, h1, h2, h3⟩ := H
  obtain ⟨s, e, hs⟩ := h3 i r l hi
  obtain ⟨p', cap', e', hc, h0 | ⟨blk, off, rfl, hr⟩⟩ := h1
  · rw [h0] at e; simp at e
  · simp only [Value.slice.injEq] at e'
    obtain ⟨rfl, _, _⟩ := e'
    obtain ⟨c0, c1⟩ := hr.tree e
    obtain ⟨q, c, es, _⟩ := id hs
    rw [List.size_toArray] at es
    rw [es] at c1 hs
    exact ⟨blk, off, q, c, rfl, hr.1, c0, c1, hs⟩
end Go.Proofs.YtmkjalpgeljnkaaDoor
