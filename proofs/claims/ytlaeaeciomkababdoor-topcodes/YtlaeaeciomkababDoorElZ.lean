/-
  Whole numbers as elements of slices.
-/
import Derived.Test.YtlaeaeciomkababDoorChecked
import Derived.Test.YtlaeaeciomkababDoorGen
namespace Go.Proofs.YtlaeaeciomkababDoor
open Go.RowKit Go.Proofs

def encZ (x : Int) : List Value := [.int .i64 x]
def EZ : El Tryd.prog Int where
  enc := encZ
  K := 1
  T := 3
  S := 22
  zero := .int .i64 0
  bytes := 8
  pos := by decide
  small := by decide
  len := fun _ => rfl
  one := fun x v hv => by
    simp only [encZ, List.mem_cons, List.not_mem_nil, or_false] at hv
    rw [hv]; rfl
  zlen := rfl
  info := by kernel_rfl
  under := Tryd.underlying22
theorem RdE.int {w : World} {blk off i : Nat} {xs : List Int} (h : RdE EZ w blk off xs) {k : Int} (hx : xs[i]? = some k) : w.cell? ⟨blk, off + i, none⟩ = some (.int .i64 k) := by
  have := h.cell hx (c := 0) rfl
  simpa [EZ] using this
theorem WrE.int {w : World} {blk i : Nat} {d : List Int} (h : WrE EZ w blk 0 d) {k : Int} (hx : d[i]? = some k) : w.cell? ⟨blk, i, none⟩ = some (.int .i64 k) ∧ w.frozen? ⟨blk, i, none⟩ = false := by
  have h1 := h.rd.int hx
  have hi := (List.getElem?_eq_some_iff.1 hx).1
  have h2 := h.fr i (by simpa [EZ] using hi)
  rw [Nat.zero_add] at h1 h2
  exact ⟨h1, h2⟩
theorem WrE.setInt {w : World} {blk i : Nat} {d : List Int} (h : WrE EZ w blk 0 d) (hi : i < d.length) (y : Int) : WrE EZ (w.setCell ⟨blk, i, none⟩ (.int .i64 y)) blk 0 (d.set i y) := by
  have := h.set hi y
  have e : w.setCells blk (0 + i * EZ.K) (EZ.enc y) = w.setCell ⟨blk, i, none⟩ (.int .i64 y) := by
    show w.setCells blk (0 + i * 1) [.int .i64 y] = _
    rw [Nat.zero_add, Nat.mul_one]; rfl
  rw [e] at this
  exact this
/-- make([]int, n): noughts. -/
theorem made_ints {w : World} {base n g : Nat} (h : w.ownsRow base 3 1 (.slice (some ⟨g, 0, none⟩) n n) n (madeCells (Value.int .i64 0).cells (n * 1)).toList) (hn : 0 < n) : base ≤ g ∧ WrE EZ w g 0 (List.replicate n 0) := by
  have e : (madeCells (Value.int .i64 0).cells (n * 1)).toList = EZ.flat (List.replicate n 0) := by
    have h1 : (Value.int .i64 0).cells = #[.int .i64 0] := rfl
    rw [h1, toList_madeCells_one, Nat.mul_one]
    have : ∀ m, EZ.flat (List.replicate m 0) = List.replicate m (.int .i64 0) := fun m => by
      induction m with
      | zero => rfl
      | succ m ih => rw [List.replicate_succ, El.flat_cons, ih, List.replicate_succ]; rfl
    rw [this]
  rw [e] at h
  have ho : OwnE EZ w base (.slice (some ⟨g, 0, none⟩) n n) (List.replicate n 0) := by unfold OwnE; rw [List.length_replicate]; exact h
  obtain ⟨g', cp, e1, hb, _, hr, hf⟩ := ho.some List.length_replicate hn
  simp only [Value.slice.injEq, Option.some.injEq, Addr.mk.injEq] at e1
  obtain ⟨⟨rfl, _⟩, _⟩ := e1
  exact ⟨hb, hr, fun j _ => by rw [Nat.zero_add]; exact hf j⟩
end Go.Proofs.YtlaeaeciomkababDoor
