/-
  The document's soft heap: its cells, and numbers, as elements of slices.
-/
import Derived.Test.YtdpfijhkbhmkgaaDoorSoE
import Derived.Test.YtdpfijhkbhmkgaaDoorChecked
namespace Go.Proofs.YtdpfijhkbhmkgaaDoor
open Go.RowKit Go.Sort Go.Proofs

def EC : El Tryd.prog (SC × SlW) where
  enc := encC
  K := 6
  T := 70
  S := 37
  zero := .agg #[.int .i64 0, .int .i64 0, .int .i64 0, .int .i64 0, .int .i64 0, .slice none 0 0]
  bytes := 64
  pos := by decide
  small := by decide
  len := fun _ => rfl
  one := fun x v hv => by
    simp only [encC, List.mem_cons, List.not_mem_nil, or_false] at hv
    rcases hv with rfl | rfl | rfl | rfl | rfl | rfl <;> rfl
  zlen := rfl
  info := by kernel_rfl
  under := Tryd.underlying37
def ET : El Tryd.prog Nat where
  enc := fun n => [.int .i64 (n : Int)]
  K := 1
  T := 3
  S := 38
  zero := .int .i64 0
  bytes := 8
  pos := by decide
  small := by decide
  len := fun _ => rfl
  one := fun x v hv => by
    simp only [List.mem_cons, List.not_mem_nil, or_false] at hv
    subst hv; rfl
  zlen := rfl
  info := by kernel_rfl
  under := Tryd.underlying38
section
variable {w : World} {base g n cap : Nat} {F : Nat → Prop} {Q : List (SC × SlW)} {i : Nat} {c : SC} {p : Option Addr} {sl sc : Nat}
/-- The words of a cell. -/
theorem CellsAt.words (h : CellsAt EC w base (.slice (some ⟨g, 0, none⟩) n cap) F Q) (hx : Q[i]? = some (c, p, sl, sc)) :
    w.cell? ⟨g, i * 6, none⟩ = some (.int .i64 c.key) ∧ w.cell? ⟨g, i * 6 + 1, none⟩ = some (.int .i64 (c.rank : Int)) ∧ w.cell? ⟨g, i * 6 + 2, none⟩ = some (.int .i64 (c.want : Int)) ∧ w.cell? ⟨g, i * 6 + 3, none⟩ = some (.int .i64 c.left) ∧ w.cell? ⟨g, i * 6 + 4, none⟩ = some (.int .i64 c.right) ∧ w.cell? ⟨g, i * 6 + 5, none⟩ = some (.slice p sl sc) :=
  ⟨(h.word hx (c := 0) rfl).1, (h.word hx (c := 1) rfl).1, (h.word hx (c := 2) rfl).1, (h.word hx (c := 3) rfl).1, (h.word hx (c := 4) rfl).1, (h.word hx (c := 5) rfl).1⟩
theorem CellsAt.free (h : CellsAt EC w base (.slice (some ⟨g, 0, none⟩) n cap) F Q) (hx : Q[i]? = some (c, p, sl, sc)) :
    w.frozen? ⟨g, i * 6, none⟩ = false ∧ w.frozen? ⟨g, i * 6 + 3, none⟩ = false ∧ w.frozen? ⟨g, i * 6 + 4, none⟩ = false ∧ w.frozen? ⟨g, i * 6 + 5, none⟩ = false :=
  ⟨(h.word hx (c := 0) rfl).2, (h.word hx (c := 3) rfl).2, (h.word hx (c := 4) rfl).2, (h.word hx (c := 5) rfl).2⟩
theorem CellsAt.len (h : CellsAt EC w base (.slice (some ⟨g, 0, none⟩) n cap) F Q) : Q.length = n := by
  obtain ⟨p, c', e⟩ := h.own.form
  simp only [Value.slice.injEq] at e
  exact e.2.1.symm
theorem CellsAt.lt (h : CellsAt EC w base (.slice (some ⟨g, 0, none⟩) n cap) F Q) : g < w.heap.size := (World.ownsRow.lt h.own g rfl).2
/-- The items of a cell. -/
theorem CellsAt.its (h : CellsAt EC w base (.slice (some ⟨g, 0, none⟩) n cap) F Q) (hx : Q[i]? = some (c, p, sl, sc)) : SlX w (fun j => j = g ∨ F j) (p, sl, sc) c.items := by
  have := h.items _ (List.mem_of_getElem? hx)
  obtain ⟨h1, h2, h3 | ⟨blk, off, e, hn, hr⟩⟩ := this
  · exact ⟨h1, h2, Or.inl h3⟩
  · exact ⟨h1, h2, Or.inr ⟨blk, off, e, fun q => hn (q.imp_left fun z => by subst z; rfl), hr⟩⟩
/-- A number is put into a cell. -/
theorem CellsAt.putL (h : CellsAt EC w base (.slice (some ⟨g, 0, none⟩) n cap) F Q) (hx : Q[i]? = some (c, p, sl, sc)) (v : Int) :
    CellsAt EC (w.setCell ⟨g, i * 6 + 3, none⟩ (.int .i64 v)) base (.slice (some ⟨g, 0, none⟩) n cap) F (Q.set i (⟨c.key, c.rank, c.want, v, c.right, c.items⟩, p, sl, sc)) := have q := h.its hx; h.put hx (c := 3) (by decide) rfl q
theorem CellsAt.putR (h : CellsAt EC w base (.slice (some ⟨g, 0, none⟩) n cap) F Q) (hx : Q[i]? = some (c, p, sl, sc)) (v : Int) :
    CellsAt EC (w.setCell ⟨g, i * 6 + 4, none⟩ (.int .i64 v)) base (.slice (some ⟨g, 0, none⟩) n cap) F (Q.set i (⟨c.key, c.rank, c.want, c.left, v, c.items⟩, p, sl, sc)) := have q := h.its hx; h.put hx (c := 4) (by decide) rfl q
theorem CellsAt.putK (h : CellsAt EC w base (.slice (some ⟨g, 0, none⟩) n cap) F Q) (hx : Q[i]? = some (c, p, sl, sc)) (v : Int) :
    CellsAt EC (w.setCell ⟨g, i * 6, none⟩ (.int .i64 v)) base (.slice (some ⟨g, 0, none⟩) n cap) F (Q.set i (⟨v, c.rank, c.want, c.left, c.right, c.items⟩, p, sl, sc)) := have q := h.its hx; h.put hx (c := 0) (by decide) rfl q
/-- Items are put into a cell. -/
theorem CellsAt.putI (h : CellsAt EC w base (.slice (some ⟨g, 0, none⟩) n cap) F Q) (hx : Q[i]? = some (c, p, sl, sc)) {p' : Option Addr} {sl' sc' : Nat} {l : List (Int × Int)} (hs : SlX w (fun j => j = g ∨ F j) (p', sl', sc') l) :
    CellsAt EC (w.setCell ⟨g, i * 6 + 5, none⟩ (.slice p' sl' sc')) base (.slice (some ⟨g, 0, none⟩) n cap) F (Q.set i (⟨c.key, c.rank, c.want, c.left, c.right, l⟩, p', sl', sc')) := h.put hx (c := 5) (by decide) rfl hs
end
end Go.Proofs.YtdpfijhkbhmkgaaDoor
