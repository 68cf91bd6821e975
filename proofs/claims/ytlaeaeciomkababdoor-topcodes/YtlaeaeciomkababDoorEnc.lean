/-
  Items of package api in memory: two cells each; the world in which a row of them lies.
-/
import Derived.Test.YtlaeaeciomkababDoorChecked
import Derived.Test.YtlaeaeciomkababDoorMath
import Derived.WalkKit
import Derived.ProofKit
import Derived.LoopTactic
import Derived.Deep.LoopGhost
import Derived.BigQuiet
import Derived.BigRegion
import Derived.Shelf.SlSortCmp.KitK
namespace Go.Proofs.YtlaeaeciomkababDoor
open Go.RowKit Go.Sort Go.Proofs

/-- An item's two cells. -/
def encI (x : Int × Int) : List Value := [.int .i64 x.1, .int .i64 x.2]
theorem encI_len (x : Int × Int) : (encI x).length = 2 := rfl
theorem encI_one (x : Int × Int) : ∀ v ∈ encI x, v.oneCell' = true := by
  intro v hv; simp [encI] at hv; rcases hv with rfl | rfl <;> rfl

/-- W is the world w0, some draws on, with blocks laid behind it, and the row of N items at blk, off holds d. -/
structure At (w0 : World) (blk off N : Nat) (d : Array (Int × Int)) (W : World) : Prop where
  hH : ∃ d0 : Array (Int × Int), HoldsK encI 2 w0 blk off d0 ∧ d0.size = N
  hblk : blk < w0.heap.size
  size : d.size = N
  sw : SWK encI 2 w0 blk off d W

section
variable {w0 W : World} {blk off N : Nat} {d : Array (Int × Int)}
theorem At.start (h : HoldsK encI 2 w0 blk off d) (hb : blk < w0.heap.size) : At w0 blk off d.size d w0 := ⟨⟨d, h, rfl⟩, hb, rfl, SWK.start h⟩
theorem At.holds (h : At w0 blk off N d W) : HoldsK encI 2 W blk off d := by
  obtain ⟨d0, h0, e⟩ := h.hH
  exact h.sw.holds h.hblk h0 (h.size.trans e.symm)
theorem At.cell (h : At w0 blk off N d W) {i : Nat} (hi : i < N) :
    W.cell? ⟨blk, off + i * 2, none⟩ = some (.int .i64 d[i]!.1) ∧ W.cell? ⟨blk, off + i * 2 + 1, none⟩ = some (.int .i64 d[i]!.2) ∧ W.frozen? ⟨blk, off + i * 2, none⟩ = false ∧ W.frozen? ⟨blk, off + i * 2 + 1, none⟩ = false := by
  obtain ⟨c0, f0⟩ := h.holds.cell (i := i) (c := 0) (by rw [h.size]; exact hi) (by omega)
  obtain ⟨c1, f1⟩ := h.holds.cell (i := i) (c := 1) (by rw [h.size]; exact hi) (by omega)
  exact ⟨by simpa [encI] using c0, by simpa [encI] using c1, by simpa using f0, by simpa using f1⟩
theorem At.lt (h : At w0 blk off N d W) : blk < W.heap.size := h.sw.lt h.hblk
theorem At.grown (h : At w0 blk off N d W) (n : Nat) (os : Array Obj) : At w0 blk off N d (grow (W.drewN n) os) := ⟨h.hH, h.hblk, h.size, h.sw.grown n os⟩
theorem At.drewN (h : At w0 blk off N d W) (n : Nat) : At w0 blk off N d (W.drewN n) := ⟨h.hH, h.hblk, h.size, h.sw.drewN n⟩
theorem At.drew (h : At w0 blk off N d W) : At w0 blk off N d W.drew := ⟨h.hH, h.hblk, h.size, h.sw.drew⟩
theorem At.alloc (h : At w0 blk off N d W) (o : Obj) : At w0 blk off N d (W.alloc o) := ⟨h.hH, h.hblk, h.size, h.sw.alloc o⟩
theorem At.cellG (h : At w0 blk off N d W) {i : Nat} (hi : i < N) {x : Int × Int} (hx : d[i]! = x) (n : Nat) (os : Array Obj) :
    (grow (W.drewN n) os).cell? ⟨blk, off + i * 2, none⟩ = some (.int .i64 x.1) := by rw [← hx]; exact ((h.grown n os).cell hi).1
theorem At.cellG1 (h : At w0 blk off N d W) {i : Nat} (hi : i < N) {x : Int × Int} (hx : d[i]! = x) (n : Nat) (os : Array Obj) :
    (grow (W.drewN n) os).cell? ⟨blk, off + i * 2 + 1, none⟩ = some (.int .i64 x.2) := by rw [← hx]; exact ((h.grown n os).cell hi).2.1
/-- An exchange of two items, behind the region's draw. -/
theorem At.swap (h : At w0 blk off N d W) {i j : Nat} (hi : i < N) (hj : j < N) {x y : Int × Int} (hx : d[i]! = x) (hy : d[j]! = y) :
    At w0 blk off N (swp d i j) (((((W.setCell ⟨blk, off + i * 2, none⟩ (.int .i64 y.1)).setCell ⟨blk, off + i * 2 + 1, none⟩ (.int .i64 y.2)).setCell
      ⟨blk, off + j * 2, none⟩ (.int .i64 x.1)).setCell ⟨blk, off + j * 2 + 1, none⟩ (.int .i64 x.2)).drew) := by
  have h2 := (h.sw.swap encI_len h.hblk i j (by rw [h.size]; exact hi) (by rw [h.size]; exact hj)).drew
  rw [hx, hy] at h2
  exact ⟨h.hH, h.hblk, by rw [swp_size, h.size], h2⟩
end
end Go.Proofs.YtlaeaeciomkababDoor
