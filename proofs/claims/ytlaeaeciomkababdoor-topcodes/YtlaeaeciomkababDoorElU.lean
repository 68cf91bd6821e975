/-
  Groups of symbols (package huff) as elements of slices.
-/
import Derived.Test.YtlaeaeciomkababDoorElV
namespace Go.Proofs.YtlaeaeciomkababDoor
open Go.RowKit Go.Proofs

theorem zeros_cells (c : Array Value) (m : Nat) : (Builtin.zeroCells c m).toList = (List.replicate m c.toList).flatten := by
  have key : ∀ m, (List.range (m * c.size)).map (fun i => c[i % c.size]!) = (List.replicate m c.toList).flatten := by
    intro m
    induction m with
    | zero => simp
    | succ m ih =>
      rw [Nat.add_mul, Nat.one_mul, List.range_add, List.map_append, ih, List.replicate_succ', List.flatten_append]
      congr 1
      rw [List.map_map]
      apply List.ext_getElem
      · simp
      · intro i h1 h2
        have hi : i < c.size := by simpa using h1
        have e : (m * c.size + i) % c.size = i := by rw [Nat.mul_comm, Nat.mul_add_mod, Nat.mod_eq_of_lt hi]
        simp [e, hi]
  have := key m
  simpa [Builtin.zeroCells] using this
/-- A group: what it weighs, its turn, where its symbols stand. -/
abbrev Gp := Int × Int × Sv
def encU (x : Gp) : List Value := [.int .i64 x.1, .int .i64 x.2.1, .slice x.2.2.1 x.2.2.2.1 x.2.2.2.2]
def EU : El Tryd.prog Gp where
  enc := encU
  K := 3
  T := 74
  S := 111
  zero := .agg #[.int .i64 0, .int .i64 0, .slice none 0 0]
  bytes := 40
  pos := by decide
  small := by decide
  len := fun _ => rfl
  one := fun x v hv => by
    simp only [encU, List.mem_cons, List.not_mem_nil, or_false] at hv
    rcases hv with rfl | rfl | rfl <;> rfl
  zlen := rfl
  info := by kernel_rfl
  under := Tryd.underlying111
theorem zeros_EU (m : Nat) : (Builtin.zeroCells EU.zero.cells m).toList = EU.flat (List.replicate m (0, 0, none, 0, 0)) := by
  rw [zeros_cells]
  unfold El.flat
  rw [List.flatMap_replicate]
  rfl
#print axioms zeros_EU
end Go.Proofs.YtlaeaeciomkababDoor
