/-
  Nodes and whole numbers as elements of slices.
-/
import Derived.Test.YtoaabpoicacogaaDoorChecked
import Derived.Test.YtoaabpoicacogaaDoorGen
import Derived.Test.YtoaabpoicacogaaDoorLMath
namespace Go.Proofs.YtoaabpoicacogaaDoor
open Go.RowKit Go.Proofs

def encN (x : Nd) : List Value := [.int .i64 x.1, .int .i64 x.2.1, .int .i64 x.2.2.1, .int .i64 x.2.2.2]
def EN : El Tryd.prog Nd where
  enc := encN
  K := 4
  T := 38
  S := 22
  zero := .agg #[.int .i64 0, .int .i64 0, .int .i64 0, .int .i64 0]
  bytes := 32
  pos := by decide
  small := by decide
  len := fun _ => rfl
  one := fun x v hv => by
    simp only [encN, List.mem_cons, List.not_mem_nil, or_false] at hv
    rcases hv with rfl | rfl | rfl | rfl <;> rfl
  zlen := rfl
  info := by kernel_rfl
  under := Tryd.underlying22
theorem RdE.node {w : World} {blk off i : Nat} {xs : List Nd} (h : RdE EN w blk off xs) {k d l r : Int} (hx : xs[i]? = some (k, d, l, r)) :
    w.cell? ⟨blk, off + i * 4, none⟩ = some (.int .i64 k) ∧ w.cell? ⟨blk, off + i * 4 + 1, none⟩ = some (.int .i64 d) ∧ w.cell? ⟨blk, off + i * 4 + 2, none⟩ = some (.int .i64 l) ∧ w.cell? ⟨blk, off + i * 4 + 3, none⟩ = some (.int .i64 r) :=
  ⟨h.cell hx (c := 0) rfl, h.cell hx (c := 1) rfl, h.cell hx (c := 2) rfl, h.cell hx (c := 3) rfl⟩
/-- A node in a block of its own. -/
theorem new_node (W : World) (g : Nat) (hg : g = W.heap.size) (k d l r : Int) : ∀ j u, (EN.enc (k, d, l, r))[j]? = some u → (W.alloc (.cells #[.int .i64 k, .int .i64 d, .int .i64 l, .int .i64 r] 38)).cell? ((⟨g, 0, none⟩ : Addr).add j) = some u := by
  subst hg
  intro j u hu
  match j, hu with
  | 0, hu => cases hu; simp [Addr.add]
  | 1, hu => cases hu; simp [Addr.add]
  | 2, hu => cases hu; simp [Addr.add]
  | 3, hu => cases hu; simp [Addr.add]
  | j + 4, hu => simp [EN, encN] at hu
def encZ (x : Int) : List Value := [.int .i64 x]
def EZ : El Tryd.prog Int where
  enc := encZ
  K := 1
  T := 3
  S := 55
  zero := .int .i64 0
  bytes := 8
  pos := by decide
  small := by decide
  len := fun _ => rfl
  one := fun x v hv => by
    simp only [encZ, List.mem_cons, List.not_mem_nil, or_false] at hv
    rw [hv]; rfl
  zlen := rfl
  info := by kernel_rfl
  under := Tryd.underlying55
theorem RdE.int {w : World} {blk off i : Nat} {xs : List Int} (h : RdE EZ w blk off xs) {k : Int} (hx : xs[i]? = some k) : w.cell? ⟨blk, off + i, none⟩ = some (.int .i64 k) := by
  have := h.cell hx (c := 0) rfl
  simpa [EZ] using this
theorem WrE.int {w : World} {blk i : Nat} {d : List Int} (h : WrE EZ w blk 0 d) {k : Int} (hx : d[i]? = some k) : w.cell? ⟨blk, i, none⟩ = some (.int .i64 k) ∧ w.frozen? ⟨blk, i, none⟩ = false := by
  have h1 := h.rd.int hx
  have hi := (List.getElem?_eq_some_iff.1 hx).1
  have h2 := h.fr i (by simpa [EZ] using hi)
  rw [Nat.zero_add] at h1 h2
  exact ⟨h1, h2⟩
theorem WrE.setInt {w : World} {blk i : Nat} {d : List Int} (h : WrE EZ w blk 0 d) (hi : i < d.length) (y : Int) : WrE EZ (w.setCell ⟨blk, i, none⟩ (.int .i64 y)) blk 0 (d.set i y) := by
  have := h.set hi y
  have e : w.setCells blk (0 + i * EZ.K) (EZ.enc y) = w.setCell ⟨blk, i, none⟩ (.int .i64 y) := by
    show w.setCells blk (0 + i * 1) [.int .i64 y] = _
    rw [Nat.zero_add, Nat.mul_one]; rfl
  rw [e] at this
  exact this
/-- make([]int, n): noughts. -/
theorem made_ints {w : World} {base n g : Nat} (h : w.ownsRow base 3 1 (.slice (some ⟨g, 0, none⟩) n n) n (madeCells (Value.int .i64 0).cells (n * 1)).toList) (hn : 0 < n) : base ≤ g ∧ WrE EZ w g 0 (List.replicate n 0) := by
  have e : (madeCells (Value.int .i64 0).cells (n * 1)).toList = EZ.flat (List.replicate n 0) := by
    have h1 : (Value.int .i64 0).cells = #[.int .i64 0] := rfl
    rw [h1, toList_madeCells_one, Nat.mul_one]
    have : ∀ m, EZ.flat (List.replicate m 0) = List.replicate m (.int .i64 0) := fun m => by
      induction m with
      | zero => rfl
      | succ m ih => rw [List.replicate_succ, El.flat_cons, ih, List.replicate_succ]; rfl
    rw [this]
  rw [e] at h
  have ho : OwnE EZ w base (.slice (some ⟨g, 0, none⟩) n n) (List.replicate n 0) := by unfold OwnE; rw [List.length_replicate]; exact h
  obtain ⟨g', cp, e1, hb, _, hr, hf⟩ := ho.some List.length_replicate hn
  simp only [Value.slice.injEq, Option.some.injEq, Addr.mk.injEq] at e1
  obtain ⟨⟨rfl, _⟩, _⟩ := e1
  exact ⟨hb, hr, fun j _ => by rw [Nat.zero_add]; exact hf j⟩
end Go.Proofs.YtoaabpoicacogaaDoor
