/-
  Are two lists of nodes the same?
-/
import Derived.Test.YtoaabpoicacogaaDoorElN
import Derived.Laws.StructEq
import Derived.Shelf.SlicesE.Kit
namespace Go.Proofs.YtoaabpoicacogaaDoor
open Go.RowKit Go.Proofs

theorem equalIn_node (a b c d a' b' c' d' : Int) (w : World) :
    Sem.run Tryd.prog (Op.equalIn 10000 38 (.agg #[.int .i64 a, .int .i64 b, .int .i64 c, .int .i64 d]) (.agg #[.int .i64 a', .int .i64 b', .int .i64 c', .int .i64 d'])) w = .ok (a == a' && b == b' && c == c' && d == d') w := by
  have u3 := Tryd.underlying3
  have a3 := Tryd.isAgg3
  have z3 := Tryd.sizeOf3
  have hS : Tryd.prog.underlying 38 = some (.struct (Tryd.prog.fieldsOf 38)) := by kernel_rfl
  have hp : Tryd.prog.stoodInHeld 38 = false := by kernel_rfl
  rw [show (10000 : Nat) = 9999 + 1 from rfl, run_equalIn_struct w 9999 38 _ _ hS hp]
  simp only [Program.fieldsOf, Tryd.underlying38]
  go_simp
  by_cases h1 : a = a' <;> by_cases h2 : b = b' <;> by_cases h3 : c = c' <;> by_cases h4 : d = d' <;> simp [h1, h2, h3, h4]
theorem neq_node (a b c d a' b' c' d' : Int) (w : World) :
    Sem.run Tryd.prog (binOp .neq 38 (.agg #[.int .i64 a, .int .i64 b, .int .i64 c, .int .i64 d]) (.agg #[.int .i64 a', .int .i64 b', .int .i64 c', .int .i64 d'])) w = .ok (.bool (!(a == a' && b == b' && c == c' && d == d'))) w := by
  rw [run_neq_struct, equalIn_node]; rfl
theorem guard_node (op : BinOp) (a b : Operand) (xs ys : Array Value) (w : World) : Sem.run Tryd.prog (eqGuard op 38 a b (.agg xs) (.agg ys)) w = .ok () w :=
  run_eqGuard_agg w op 38 a b xs ys (by kernel_rfl)

theorem nodes_none (p1 p2 : Option Addr) (c1 c2 : Nat) (w : World) :
    Calls Tryd.prog 14 #[.slice p1 0 c1, .slice p2 0 c2] w fun e w' => e = .returned (.bool true) ∧ ∃ q, w' = w.drewN q := by
  go_enter Tryd.func14, Tryd.ntmps14
  go_wp2
  go_loop [5] (fun i => i = .int .i64 0) (fun _ => 0)
  case atStart => rfl
  case round =>
    subst hrel
    go_wp2
    go_ret
    exact ⟨rfl, 0, rfl⟩
set_option maxHeartbeats 2000000 in
/-- .. where they are. -/
theorem nodes_some (b1 o1 c1 b2 o2 c2 n : Nat) (xs : List Nd) (w : World) (HX : Hid (RdE EN w b1 o1 xs)) (HY : Hid (RdE EN w b2 o2 xs)) (hn : Hid (xs.length = n)) (hsz : n ≤ 1000) :
    Calls Tryd.prog 14 #[.slice (some ⟨b1, o1, none⟩) n c1, .slice (some ⟨b2, o2, none⟩) n c2] w fun e w' => e = .returned (.bool true) ∧ ∃ q, w' = w.drewN q := by
  have k4 := guard_node
  go_enter Tryd.func14, Tryd.ntmps14
  go_wp2
  go_loopg [5] n (fun g vi wr => ∃ i q : Nat, vi = .int .i64 i ∧ i + g = n ∧ wr = w.drewN q)
  case atStart => exact ⟨0, 0, rfl, by omega, rfl⟩
  case round =>
    obtain ⟨i, q, rfl, hg, rfl⟩ := hrel
    by_cases hlt : i < n
    · have hlz : (i : Int) < (n : Int) := by omega
      obtain ⟨⟨a, b, c, d⟩, hx⟩ : ∃ x, xs[i]? = some x := ⟨xs[i]'(by rw [hn.out]; exact hlt), by simp⟩
      obtain ⟨x0, x1, x2, x3⟩ := HX.out.node hx
      obtain ⟨y0, y1, y2, y3⟩ := HY.out.node hx
      have k2 : ∀ w, Sem.run Tryd.prog (binOp .neq 38 (.agg #[.int .i64 a, .int .i64 b, .int .i64 c, .int .i64 d]) (.agg #[.int .i64 a, .int .i64 b, .int .i64 c, .int .i64 d])) w = .ok (.bool false) w := fun w => by have := neq_node a b c d a b c d w; simpa using this
      have k3 : ∀ w, Sem.run Tryd.prog (Op.equalIn 10000 38 (.agg #[.int .i64 a, .int .i64 b, .int .i64 c, .int .i64 d]) (.agg #[.int .i64 a, .int .i64 b, .int .i64 c, .int .i64 d])) w = .ok true w := fun w => by have := equalIn_node a b c d a b c d w; simpa using this
      clear hx
      go_wp2_with fail
      go_quiet (fail)
      go_wp2
      go_roundg (n - (i + 1))
      case measure => omega
      case rel => exact ⟨i + 1, q + nq, by go_num, by omega, by first | rfl | rw [World.drewN_drewN]⟩
    · have hlz : ¬ (i : Int) < (n : Int) := by omega
      go_wp2
      go_ret
      exact ⟨rfl, q, rfl⟩
theorem nodes_same (u v : Value) (xs : List Nd) (w : World) (hu : SlE EN w u xs) (hv : SlE EN w v xs) (hn : xs.length ≤ 1000) :
    Calls Tryd.prog 14 #[u, v] w fun e w' => e = .returned (.bool true) ∧ Below w.heap.size w w' := by
  have fin : ∀ {e : Ending} {w' : World}, (e = .returned (.bool true) ∧ ∃ q, w' = w.drewN q) → (e = .returned (.bool true) ∧ Below w.heap.size w w') := fun {e w'} ⟨a, q, b⟩ => ⟨a, by rw [b]; exact ⟨rfl, rfl, rfl, Nat.le_refl _, fun _ _ => rfl⟩⟩
  obtain ⟨p1, c1, rfl, _, _⟩ := id hu
  obtain ⟨p2, c2, rfl, _, _⟩ := id hv
  rcases Nat.eq_zero_or_pos xs.length with h0 | h0
  · rw [h0]; exact (nodes_none p1 p2 c1 c2 w).mono fun _ _ => fin
  · obtain ⟨b1, o1, rfl, _, _, r1⟩ := hu.some h0
    obtain ⟨b2, o2, rfl, _, _, r2⟩ := hv.some h0
    exact (nodes_some b1 o1 c1 b2 o2 c2 _ xs w r1 r2 rfl hn).mono fun _ _ => fin
#print axioms nodes_same
end Go.Proofs.YtoaabpoicacogaaDoor
