/-
  Package bino: six lists of items as the value of an array, by rank.
-/
import Derived.Test.YtmkjalpgeljnkaaDoorRefB5
namespace Go.Proofs.YtmkjalpgeljnkaaDoor
open Go.RowKit Go.Sort Go.Proofs

/-- Slices as the value of an array. -/
def agV (d : List SlV) : Value := .agg (d.map fun s => Value.slice s.1 s.2.1 s.2.2).toArray
/-- Six slices that hold the lists f, rank by rank. -/
def DgAt (w : World) (d : List SlV) (f : Nat → List (Int × Int)) : Prop := d.length = 6 ∧ ∀ j, j < 6 → ∃ s, d[j]? = some s ∧ Sl w (.slice s.1 s.2.1 s.2.2) (f j).toArray
theorem six {d : List SlV} (h : d.length = 6) : ∃ s0 s1 s2 s3 s4 s5, d = [s0, s1, s2, s3, s4, s5] := by
  match d, h with
  | [s0, s1, s2, s3, s4, s5], _ => exact ⟨s0, s1, s2, s3, s4, s5, rfl⟩
theorem DgAt.below {w w' : World} {d : List SlV} {f : Nat → List (Int × Int)} (h : DgAt w d f) (hb : Below w.heap.size w w') : DgAt w' d f :=
  ⟨h.1, fun j hj => by obtain ⟨s, a, b⟩ := h.2 j hj; exact ⟨s, a, b.below hb⟩⟩
theorem DgAt.start (w : World) : DgAt w (List.replicate 6 (none, 0, 0)) (fun _ => []) :=
  ⟨by simp, fun j hj => ⟨(none, 0, 0), by rw [List.getElem?_replicate, if_pos hj], Sl.nil w⟩⟩
theorem DgAt.congr {w : World} {d : List SlV} {f g : Nat → List (Int × Int)} (h : DgAt w d f) (e : ∀ j, j < 6 → f j = g j) : DgAt w d g :=
  ⟨h.1, fun j hj => by rw [← e j hj]; exact h.2 j hj⟩
theorem DgAt.set {w : World} {d : List SlV} {f : Nat → List (Int × Int)} (h : DgAt w d f) {r : Nat} {s : SlV} {l : List (Int × Int)} (hs : Sl w (.slice s.1 s.2.1 s.2.2) l.toArray) : DgAt w (d.set r s) (fun j => if j = r then l else f j) := by
  refine ⟨by rw [List.length_set]; exact h.1, fun j hj => ?_⟩
  show ∃ u : SlV, _ ∧ Sl w _ (if j = r then l else f j).toArray
  by_cases q : j = r
  · subst q
    rw [if_pos rfl]
    exact ⟨s, by rw [List.getElem?_set_self (by rw [h.1]; exact hj)], hs⟩
  · rw [if_neg q]
    obtain ⟨s', e', hs'⟩ := h.2 j hj
    exact ⟨s', by rw [List.getElem?_set_ne (fun c => q c.symm)]; exact e', hs'⟩
theorem digitH_take {h : List TrL} {i r : Nat} {l : List (Int × Int)} (hp : h.Pairwise (fun a b => a.1 < b.1)) (hi : h[i]? = some (r, l)) (j : Nat) : (if j = r then l else digitH (h.take i) j) = digitH (h.take (i + 1)) j := by
  obtain ⟨hlt, e⟩ := List.getElem?_eq_some_iff.1 hi
  have et : h.take (i + 1) = h.take i ++ [(r, l)] := by rw [List.take_succ_eq_append_getElem hlt, e]
  have hlow : ∀ t ∈ h.take i, t.1 < r := fun t ht => by
    obtain ⟨j, hj, rfl⟩ := List.getElem_of_mem ht
    rw [List.length_take] at hj
    rw [List.getElem_take]
    have := List.pairwise_iff_getElem.1 hp j i (by omega) hlt (by omega)
    rw [e] at this
    exact this
  rw [et, digitH_snoc hlow]
/-- Six slices in memory. -/
theorem WrE.six {w : World} {blk : Nat} {s0 s1 s2 s3 s4 s5 : SlV} (h : WrE ES w blk 0 [s0, s1, s2, s3, s4, s5]) :
    (w.cell? ⟨blk, 0, none⟩ = some (.slice s0.1 s0.2.1 s0.2.2) ∧ w.cell? ⟨blk, 1, none⟩ = some (.slice s1.1 s1.2.1 s1.2.2) ∧ w.cell? ⟨blk, 2, none⟩ = some (.slice s2.1 s2.2.1 s2.2.2) ∧ w.cell? ⟨blk, 3, none⟩ = some (.slice s3.1 s3.2.1 s3.2.2) ∧ w.cell? ⟨blk, 4, none⟩ = some (.slice s4.1 s4.2.1 s4.2.2) ∧ w.cell? ⟨blk, 5, none⟩ = some (.slice s5.1 s5.2.1 s5.2.2)) ∧
    (w.frozen? ⟨blk, 0, none⟩ = false ∧ w.frozen? ⟨blk, 1, none⟩ = false ∧ w.frozen? ⟨blk, 2, none⟩ = false ∧ w.frozen? ⟨blk, 3, none⟩ = false ∧ w.frozen? ⟨blk, 4, none⟩ = false ∧ w.frozen? ⟨blk, 5, none⟩ = false) :=
  ⟨⟨(h.row (i := 0) rfl).1, (h.row (i := 1) rfl).1, (h.row (i := 2) rfl).1, (h.row (i := 3) rfl).1, (h.row (i := 4) rfl).1, (h.row (i := 5) rfl).1⟩,
   ⟨(h.row (i := 0) rfl).2, (h.row (i := 1) rfl).2, (h.row (i := 2) rfl).2, (h.row (i := 3) rfl).2, (h.row (i := 4) rfl).2, (h.row (i := 5) rfl).2⟩⟩
/-- A new array of six. -/
theorem new_six (w : World) (s0 s1 s2 s3 s4 s5 : SlV) (T : TypeId) : WrE ES (w.alloc (.cells #[.slice s0.1 s0.2.1 s0.2.2, .slice s1.1 s1.2.1 s1.2.2, .slice s2.1 s2.2.1 s2.2.2, .slice s3.1 s3.2.1 s3.2.2, .slice s4.1 s4.2.1 s4.2.2, .slice s5.1 s5.2.1 s5.2.2] T)) w.heap.size 0 [s0, s1, s2, s3, s4, s5] := by
  refine ⟨⟨by simp, fun j v hv => ?_⟩, fun j hj => by simp⟩
  rw [Nat.zero_add]
  match j, hv with
  | 0, hv => cases hv; simp
  | 1, hv => cases hv; simp
  | 2, hv => cases hv; simp
  | 3, hv => cases hv; simp
  | 4, hv => cases hv; simp
  | 5, hv => cases hv; simp
  | j + 6, hv => simp [El.flat, ES, encS] at hv
theorem new_nils (w : World) (T : TypeId) : WrE ES (w.alloc (.cells #[.slice none 0 0, .slice none 0 0, .slice none 0 0, .slice none 0 0, .slice none 0 0, .slice none 0 0] T)) w.heap.size 0 (List.replicate 6 (none, 0, 0)) :=
  new_six w (none, 0, 0) (none, 0, 0) (none, 0, 0) (none, 0, 0) (none, 0, 0) (none, 0, 0) T
theorem WrE.alloc' {P : Program} {α : Type} {E : El P α} {w : World} {blk off : Nat} {d : List α} (h : WrE E w blk off d) (o : Obj) : WrE E (w.alloc o) blk off d := h.kept (World.grownBy_alloc w o none) (by simp)
theorem below_six {B blk : Nat} {a w : World} (h : Below B a w) (hB : B ≤ blk) (u0 u1 u2 u3 u4 u5 : Value) : Below B a ((((((w.setCell ⟨blk, 0, none⟩ u0).setCell ⟨blk, 1, none⟩ u1).setCell ⟨blk, 2, none⟩ u2).setCell ⟨blk, 3, none⟩ u3).setCell ⟨blk, 4, none⟩ u4).setCell ⟨blk, 5, none⟩ u5) :=
  (((((h.setCell (p := ⟨blk, 0, none⟩) hB _).setCell (p := ⟨blk, 1, none⟩) hB _).setCell (p := ⟨blk, 2, none⟩) hB _).setCell (p := ⟨blk, 3, none⟩) hB _).setCell (p := ⟨blk, 4, none⟩) hB _).setCell (p := ⟨blk, 5, none⟩) hB _
theorem SlB.nil (F B : Option Nat) (w : World) : SlB F w B (.slice none 0 0) [] := ⟨none, 0, rfl, Nat.le_refl _, Or.inl rfl⟩
/-- .. where the block F is written. -/
theorem SlB.apart {f : Nat} {w w' : World} {B : Option Nat} {v : Value} {l : List (Int × Int)} (h : SlB (some f) w B v l) (hg : w.grownBy w' (some f)) : SlB (some f) w' B v l := by
  obtain ⟨p, c, rfl, hc, h | ⟨blk, off, rfl, hn, hf, hr⟩⟩ := h
  · exact ⟨p, c, rfl, hc, Or.inl h⟩
  · exact ⟨_, c, rfl, hc, Or.inr ⟨blk, off, rfl, hn, hf, hr.keptB hg hf⟩⟩
/-- .. where the block B is written. -/
theorem SlB.apartB {b : Nat} {F : Option Nat} {w w' : World} {v : Value} {l : List (Int × Int)} (h : SlB F w (some b) v l) (hg : w.grownBy w' (some b)) : SlB F w' (some b) v l := h.kept hg (Or.inl rfl)
/-- Six slices that hold the lists f, rank by rank, apart from two blocks. -/
def DgB (F : Option Nat) (w : World) (B : Option Nat) (d : List SlV) (f : Nat → List (Int × Int)) : Prop := d.length = 6 ∧ ∀ j, j < 6 → ∃ s, d[j]? = some s ∧ SlB F w B (.slice s.1 s.2.1 s.2.2) (f j)
theorem DgB.at {F B : Option Nat} {w : World} {d : List SlV} {f : Nat → List (Int × Int)} (h : DgB F w B d f) : DgAt w d f :=
  ⟨h.1, fun j hj => by obtain ⟨s, a, b⟩ := h.2 j hj; exact ⟨s, a, b.sl⟩⟩
theorem DgB.below {F B : Option Nat} {w w' : World} {d : List SlV} {f : Nat → List (Int × Int)} (h : DgB F w B d f) (hb : Below w.heap.size w w') : DgB F w' B d f :=
  ⟨h.1, fun j hj => by obtain ⟨s, a, b⟩ := h.2 j hj; exact ⟨s, a, b.below hb⟩⟩
theorem DgB.apart {f : Nat} {B : Option Nat} {w w' : World} {d : List SlV} {x : Nat → List (Int × Int)} (h : DgB (some f) w B d x) (hg : w.grownBy w' (some f)) : DgB (some f) w' B d x :=
  ⟨h.1, fun j hj => by obtain ⟨s, a, b⟩ := h.2 j hj; exact ⟨s, a, b.apart hg⟩⟩
theorem DgB.apartB {b : Nat} {F : Option Nat} {w w' : World} {d : List SlV} {x : Nat → List (Int × Int)} (h : DgB F w (some b) d x) (hg : w.grownBy w' (some b)) : DgB F w' (some b) d x :=
  ⟨h.1, fun j hj => by obtain ⟨s, a, b⟩ := h.2 j hj; exact ⟨s, a, b.apartB hg⟩⟩
theorem DgB.start (F B : Option Nat) (w : World) : DgB F w B (List.replicate 6 (none, 0, 0)) (fun _ => []) :=
  ⟨by simp, fun j hj => ⟨(none, 0, 0), by rw [List.getElem?_replicate, if_pos hj], SlB.nil F B w⟩⟩
theorem DgB.congr {F B : Option Nat} {w : World} {d : List SlV} {f g : Nat → List (Int × Int)} (h : DgB F w B d f) (e : ∀ j, j < 6 → f j = g j) : DgB F w B d g :=
  ⟨h.1, fun j hj => by rw [← e j hj]; exact h.2 j hj⟩
theorem DgB.set {F B : Option Nat} {w : World} {d : List SlV} {f : Nat → List (Int × Int)} (h : DgB F w B d f) {r : Nat} {s : SlV} {l : List (Int × Int)} (hs : SlB F w B (.slice s.1 s.2.1 s.2.2) l) : DgB F w B (d.set r s) (fun j => if j = r then l else f j) := by
  refine ⟨by rw [List.length_set]; exact h.1, fun j hj => ?_⟩
  show ∃ u : SlV, _ ∧ SlB F w B _ (if j = r then l else f j)
  by_cases q : j = r
  · subst q
    rw [if_pos rfl]
    exact ⟨s, by rw [List.getElem?_set_self (by rw [h.1]; exact hj)], hs⟩
  · rw [if_neg q]
    obtain ⟨s', e', hs'⟩ := h.2 j hj
    exact ⟨s', by rw [List.getElem?_set_ne (fun c => q c.symm)]; exact e', hs'⟩
theorem gb_six {w w' : World} {blk : Nat} (h : w.grownBy w' (some blk)) (u0 u1 u2 u3 u4 u5 : Value) : w.grownBy ((((((w'.setCell ⟨blk, 0, none⟩ u0).setCell ⟨blk, 1, none⟩ u1).setCell ⟨blk, 2, none⟩ u2).setCell ⟨blk, 3, none⟩ u3).setCell ⟨blk, 4, none⟩ u4).setCell ⟨blk, 5, none⟩ u5) (some blk) :=
  gb_set (gb_set (gb_set h 0 1 u0 u1) 2 3 u2 u3) 4 5 u4 u5
/-- Two new arrays of six noughts. -/
theorem new_two (w : World) (T : TypeId) : WrE ES ((w.alloc (.cells #[.slice none 0 0, .slice none 0 0, .slice none 0 0, .slice none 0 0, .slice none 0 0, .slice none 0 0] T)).alloc (.cells #[.slice none 0 0, .slice none 0 0, .slice none 0 0, .slice none 0 0, .slice none 0 0, .slice none 0 0] T)) (w.heap.size + 1) 0 (List.replicate 6 (none, 0, 0)) ∧
    WrE ES ((w.alloc (.cells #[.slice none 0 0, .slice none 0 0, .slice none 0 0, .slice none 0 0, .slice none 0 0, .slice none 0 0] T)).alloc (.cells #[.slice none 0 0, .slice none 0 0, .slice none 0 0, .slice none 0 0, .slice none 0 0, .slice none 0 0] T)) w.heap.size 0 (List.replicate 6 (none, 0, 0)) ∧
    Below w.heap.size w ((w.alloc (.cells #[.slice none 0 0, .slice none 0 0, .slice none 0 0, .slice none 0 0, .slice none 0 0, .slice none 0 0] T)).alloc (.cells #[.slice none 0 0, .slice none 0 0, .slice none 0 0, .slice none 0 0, .slice none 0 0, .slice none 0 0] T)) := by
  refine ⟨?_, (new_nils w T).alloc' _, ((Below.refl _ _).alloc (Nat.le_refl _) _).alloc (by simp) _⟩
  have h := new_nils (w.alloc (.cells #[.slice none 0 0, .slice none 0 0, .slice none 0 0, .slice none 0 0, .slice none 0 0, .slice none 0 0] T)) T
  have e : (w.alloc (.cells #[.slice none 0 0, .slice none 0 0, .slice none 0 0, .slice none 0 0, .slice none 0 0, .slice none 0 0] T)).heap.size = w.heap.size + 1 := by simp
  rw [e] at h
  exact h
end Go.Proofs.YtmkjalpgeljnkaaDoor
