/-
  heap.above; rows of items in worlds that grew.
-/
import Derived.Test.YtlaeaeciomkababDoorWr
import Derived.Test.YtlaeaeciomkababDoorHMath
namespace Go.Proofs.YtlaeaeciomkababDoor
open Go.RowKit Go.Sort Go.Proofs

theorem above_any (i : Nat) (h1 : 1 ≤ i) (h60 : i ≤ 1000) (w : World) : Calls Tryd.prog 84 #[.int .i64 i] w fun e w' => e = .returned (.int .i64 ((i - 1) / 2 : Nat)) ∧ w' = w := by
  obtain ⟨k, rfl⟩ : ∃ k, i = k + 1 := ⟨i - 1, by omega⟩
  have e : ((k + 1 - 1) / 2 : Nat) = k / 2 := by omega
  rw [e]
  have w1 : IntKind.i64.wrap (((k + 1 : Nat) : Int) - 1) = (k : Int) := by rw [IntKind.wrap_i64]; omega
  have t1 : Int.tdiv (k : Int) 2 = ((k / 2 : Nat) : Int) := by rw [Int.tdiv_eq_ediv_of_nonneg (by omega)]; omega
  have w2 : IntKind.i64.wrap ((k / 2 : Nat) : Int) = ((k / 2 : Nat) : Int) := by rw [IntKind.wrap_i64]; omega
  go_enter Tryd.func84, Tryd.ntmps84
  go_wp2
  go_ret
  exact ⟨rfl, rfl⟩

theorem RdAt.cellG {w : World} {blk off : Nat} {xs : Array (Int × Int)} (h : RdAt w blk off xs) {i : Nat} (hi : i < xs.size) {x0 x1 : Int} (hx : xs[i]! = (x0, x1)) (n : Nat) (os : Array Obj) :
    (grow (w.drewN n) os).cell? ⟨blk, off + i * 2, none⟩ = some (.int .i64 x0) := cell_grown h.1 (by have := (h.2 i hi).1; rw [hx] at this; exact this) n os
theorem RdAt.cellG1 {w : World} {blk off : Nat} {xs : Array (Int × Int)} (h : RdAt w blk off xs) {i : Nat} (hi : i < xs.size) {x0 x1 : Int} (hx : xs[i]! = (x0, x1)) (n : Nat) (os : Array Obj) :
    (grow (w.drewN n) os).cell? ⟨blk, off + i * 2 + 1, none⟩ = some (.int .i64 x1) := cell_grown h.1 (by have := (h.2 i hi).2; rw [hx] at this; exact this) n os
theorem WrAt.grown {w : World} {blk off : Nat} {d : Array (Int × Int)} (h : WrAt w blk off d) (n : Nat) (os : Array Obj) : WrAt (grow (w.drewN n) os) blk off d :=
  h.block (by rw [size_grow]; exact Nat.le_add_right _ _) (heap_grow_old (w.drewN n) os h.lt)
theorem gb_grown {w w' : World} {row : Option Nat} (h : w.grownBy w' row) (n : Nat) (os : Array Obj) : w.grownBy (grow (w'.drewN n) os) row :=
  ⟨h.os, h.tape, h.output, by rw [size_grow]; exact Nat.le_trans h.size (Nat.le_add_right _ _), fun k hk hr => (heap_grow_old (w'.drewN n) os (Nat.lt_of_lt_of_le hk h.size)).trans (h.block k hk hr)⟩
theorem below_grow {B : Nat} {a w : World} (h : Below B a w) (hB : B ≤ w.heap.size) (n : Nat) (os : Array Obj) : Below B a (grow (w.drewN n) os) :=
  ⟨h.os, h.tape, h.output, by rw [size_grow]; exact Nat.le_trans h.size (Nat.le_add_right _ _), fun k hk => (heap_grow_old (w.drewN n) os (Nat.lt_of_lt_of_le hk hB)).trans (h.block k hk)⟩

theorem above_anyG (i : Nat) (h1 : 1 ≤ i) (h60 : i ≤ 1000) (w : World) : Calls Tryd.prog 84 #[.int .i64 i] w fun e w' => e = .returned (.int .i64 ((i - 1) / 2 : Nat)) ∧ ∃ q os', w' = grow (w.drewN q) os' :=
  (above_any i h1 h60 w).mono fun _ _ ⟨a, b⟩ => ⟨a, 0, #[], by rw [b, grow_empty]; rfl⟩
end Go.Proofs.YtlaeaeciomkababDoor
