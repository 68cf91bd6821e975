/-
  What the statements ask with: are two lists of items the same, or the same but for their order?
-/
import Derived.Test.YtcjfbenbdjlodabRd
import Derived.Laws.StructEq
import Derived.Shelf.SlicesE.Kit
namespace Go.Proofs.Ytcjfbenbdjlodab
open Go.RowKit Go.Sort Go.Proofs

theorem ret_bb {a b : Bool} (h : a = b) : Ending.returned (.bool b) = .returned (.bool a) := by rw [h]

theorem equalIn_item (x0 x1 y0 y1 : Int) (w : World) :
    Sem.run Try.prog (Op.equalIn 10000 38 (.agg #[.int .i64 x0, .int .i64 x1]) (.agg #[.int .i64 y0, .int .i64 y1])) w = .ok (x0 == y0 && x1 == y1) w := by
  have u3 := Try.underlying3
  have a3 := Try.isAgg3
  have z3 := Try.sizeOf3
  have hS : Try.prog.underlying 38 = some (.struct (Try.prog.fieldsOf 38)) := by kernel_rfl
  have hp : Try.prog.stoodInHeld 38 = false := by kernel_rfl
  rw [show (10000 : Nat) = 9999 + 1 from rfl, run_equalIn_struct w 9999 38 _ _ hS hp]
  simp only [Program.fieldsOf, Try.underlying38]
  go_simp
  by_cases h1 : x0 = y0 <;> by_cases h2 : x1 = y1 <;> simp [h1, h2]
theorem eql_item (x0 x1 y0 y1 : Int) (w : World) :
    Sem.run Try.prog (binOp .eql 38 (.agg #[.int .i64 x0, .int .i64 x1]) (.agg #[.int .i64 y0, .int .i64 y1])) w = .ok (.bool (x0 == y0 && x1 == y1)) w := by
  rw [run_eql_struct, equalIn_item]; rfl
theorem neq_item (x0 x1 y0 y1 : Int) (w : World) :
    Sem.run Try.prog (binOp .neq 38 (.agg #[.int .i64 x0, .int .i64 x1]) (.agg #[.int .i64 y0, .int .i64 y1])) w = .ok (.bool (!(x0 == y0 && x1 == y1))) w := by
  rw [run_neq_struct, equalIn_item]; rfl
theorem guard_item (op : BinOp) (a b : Operand) (xs ys : Array Value) (w : World) : Sem.run Try.prog (eqGuard op 38 a b (.agg xs) (.agg ys)) w = .ok () w :=
  run_eqGuard_agg w op 38 a b xs ys (by kernel_rfl)

theorem items_ext {xs ys : Array (Int × Int)} (hs : xs.size = ys.size) (h : ∀ j, j < xs.size → xs[j]! = ys[j]!) : xs = ys :=
  Array.ext hs fun t h1 h2 => by have := h t h1; rwa [getElem!_pos xs t h1, getElem!_pos ys t h2] at this

end Go.Proofs.Ytcjfbenbdjlodab
