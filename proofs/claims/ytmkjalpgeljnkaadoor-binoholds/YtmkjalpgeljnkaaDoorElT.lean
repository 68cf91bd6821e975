/-
  Trees of package api, and lists of items, as elements of slices; heaps of trees in memory.
-/
import Derived.Test.YtmkjalpgeljnkaaDoorChecked
import Derived.Test.YtmkjalpgeljnkaaDoorGen
import Derived.Test.YtmkjalpgeljnkaaDoorOwnA
namespace Go.Proofs.YtmkjalpgeljnkaaDoor
open Go.RowKit Go.Sort Go.Proofs

/-- A slice's three words. -/
abbrev SlV := Option Addr × Nat × Nat
def encT (x : Int × SlV) : List Value := [.int .i64 x.1, .slice x.2.1 x.2.2.1 x.2.2.2]
def ET : El Tryd.prog (Int × SlV) where
  enc := encT
  K := 2
  T := 37
  S := 22
  zero := .agg #[.int .i64 0, .slice none 0 0]
  bytes := 32
  pos := by decide
  small := by decide
  len := fun _ => rfl
  one := fun x v hv => by
    simp only [encT, List.mem_cons, List.not_mem_nil, or_false] at hv
    rcases hv with rfl | rfl <;> rfl
  zlen := rfl
  info := by kernel_rfl
  under := Tryd.underlying22
theorem RdE.tree {w : World} {blk off i : Nat} {xs : List (Int × SlV)} (h : RdE ET w blk off xs) {r : Int} {s : SlV} (hx : xs[i]? = some (r, s)) :
    w.cell? ⟨blk, off + i * 2, none⟩ = some (.int .i64 r) ∧ w.cell? ⟨blk, off + i * 2 + 1, none⟩ = some (.slice s.1 s.2.1 s.2.2) :=
  ⟨h.cell hx (c := 0) rfl, h.cell hx (c := 1) rfl⟩
/-- A tree in a block of its own. -/
theorem new_tree (W : World) (g : Nat) (hg : g = W.heap.size) (r : Int) (p : Option Addr) (n c : Nat) : ∀ j u, (ET.enc (r, p, n, c))[j]? = some u → (W.alloc (.cells #[.int .i64 r, .slice p n c] 37)).cell? ((⟨g, 0, none⟩ : Addr).add j) = some u := by
  subst hg
  intro j u hu
  match j, hu with
  | 0, hu => cases hu; simp [Addr.add]
  | 1, hu => cases hu; simp [Addr.add]
  | j + 2, hu => simp [ET, encT] at hu
def encS (x : SlV) : List Value := [.slice x.1 x.2.1 x.2.2]
def ES : El Tryd.prog SlV where
  enc := encS
  K := 1
  T := 35
  S := 60
  zero := .slice none 0 0
  bytes := 24
  pos := by decide
  small := by decide
  len := fun _ => rfl
  one := fun x v hv => by
    simp only [encS, List.mem_cons, List.not_mem_nil, or_false] at hv
    rw [hv]; rfl
  zlen := rfl
  info := by kernel_rfl
  under := Tryd.underlying60
theorem RdE.row {w : World} {blk off i : Nat} {xs : List SlV} (h : RdE ES w blk off xs) {s : SlV} (hx : xs[i]? = some s) : w.cell? ⟨blk, off + i, none⟩ = some (.slice s.1 s.2.1 s.2.2) := by
  have := h.cell hx (c := 0) rfl
  simpa [ES] using this

/-- The slice value v is the heap of trees h: ranks, and the items of each. -/
def HpAt (w : World) (v : Value) (h : List (Int × List (Int × Int))) : Prop :=
  ∃ ts : List (Int × SlV), SlE ET w v ts ∧ ts.length = h.length ∧ ∀ (i : Nat) (r : Int) (l : List (Int × Int)), h[i]? = some (r, l) → ∃ s : SlV, ts[i]? = some (r, s) ∧ Sl w (.slice s.1 s.2.1 s.2.2) l.toArray
theorem HpAt.below {w w' : World} {v : Value} {h : List (Int × List (Int × Int))} (H : HpAt w v h) (hb : Below w.heap.size w w') : HpAt w' v h := by
  obtain ⟨ts, h1, h2, h3⟩ := H
  refine ⟨ts, h1.below hb, h2, fun i r l hi => ?_⟩
  obtain ⟨s, e, hs⟩ := h3 i r l hi
  exact ⟨s, e, hs.below hb⟩
theorem HpAt.nil (w : World) (p : Option Addr) (cap : Nat) : HpAt w (.slice p 0 cap) [] := ⟨[], SlE.empty _ _ _, rfl, fun i r l h => by simp at h⟩
theorem HpAt.form {w : World} {v : Value} {h : List (Int × List (Int × Int))} (H : HpAt w v h) : ∃ p cap, v = .slice p h.length cap := by
  obtain ⟨ts, ⟨p, cap, e, _⟩, h2, _⟩ := H
  exact ⟨p, cap, by rw [e, h2]⟩
/-- The tree at a place: where its rank and its items stand. -/
theorem HpAt.tree {w : World} {p : Option Addr} {n cap : Nat} {h : List (Int × List (Int × Int))} (H : HpAt w (.slice p n cap) h) {i : Nat} {r : Int} {l : List (Int × Int)} (hi : h[i]? = some (r, l)) :
    ∃ blk off q c, p = some ⟨blk, off, none⟩ ∧ blk < w.heap.size ∧ w.cell? ⟨blk, off + i * 2, none⟩ = some (.int .i64 r) ∧ w.cell? ⟨blk, off + i * 2 + 1, none⟩ = some (.slice q l.length c) ∧ Sl w (.slice q l.length c) l.toArray := by
  obtain ⟨ts, h1, h2, h3⟩ := H
  obtain ⟨s, e, hs⟩ := h3 i r l hi
  obtain ⟨p', cap', e', hc, h0 | ⟨blk, off, rfl, hr⟩⟩ := h1
  · rw [h0] at e; simp at e
  · simp only [Value.slice.injEq] at e'
    obtain ⟨rfl, _, _⟩ := e'
    obtain ⟨c0, c1⟩ := hr.tree e
    obtain ⟨q, c, es, _⟩ := id hs
    rw [List.size_toArray] at es
    rw [es] at c1 hs
    exact ⟨blk, off, q, c, rfl, hr.1, c0, c1, hs⟩
end Go.Proofs.YtmkjalpgeljnkaaDoor
