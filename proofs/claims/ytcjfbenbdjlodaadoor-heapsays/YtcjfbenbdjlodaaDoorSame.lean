/-
  What the statements ask with: are two lists of items the same, or the same but for their order?
-/
import Derived.Test.YtcjfbenbdjlodaaDoorRd
import Derived.Laws.StructEq
import Derived.Shelf.SlicesE.Kit
namespace Go.Proofs.YtcjfbenbdjlodaaDoor
open Go.RowKit Go.Sort Go.Proofs

theorem ret_bb {a b : Bool} (h : a = b) : Ending.returned (.bool b) = .returned (.bool a) := by rw [h]

theorem equalIn_item (x0 x1 y0 y1 : Int) (w : World) :
    Sem.run Tryd.prog (Op.equalIn 10000 24 (.agg #[.int .i64 x0, .int .i64 x1]) (.agg #[.int .i64 y0, .int .i64 y1])) w = .ok (x0 == y0 && x1 == y1) w := by
  have u3 := Tryd.underlying3
  have a3 := Tryd.isAgg3
  have z3 := Tryd.sizeOf3
  have hS : Tryd.prog.underlying 24 = some (.struct (Tryd.prog.fieldsOf 24)) := by kernel_rfl
  have hp : Tryd.prog.stoodInHeld 24 = false := by kernel_rfl
  rw [show (10000 : Nat) = 9999 + 1 from rfl, run_equalIn_struct w 9999 24 _ _ hS hp]
  simp only [Program.fieldsOf, Tryd.underlying24]
  go_simp
  by_cases h1 : x0 = y0 <;> by_cases h2 : x1 = y1 <;> simp [h1, h2]
theorem eql_item (x0 x1 y0 y1 : Int) (w : World) :
    Sem.run Tryd.prog (binOp .eql 24 (.agg #[.int .i64 x0, .int .i64 x1]) (.agg #[.int .i64 y0, .int .i64 y1])) w = .ok (.bool (x0 == y0 && x1 == y1)) w := by
  rw [run_eql_struct, equalIn_item]; rfl
theorem neq_item (x0 x1 y0 y1 : Int) (w : World) :
    Sem.run Tryd.prog (binOp .neq 24 (.agg #[.int .i64 x0, .int .i64 x1]) (.agg #[.int .i64 y0, .int .i64 y1])) w = .ok (.bool (!(x0 == y0 && x1 == y1))) w := by
  rw [run_neq_struct, equalIn_item]; rfl
theorem guard_item (op : BinOp) (a b : Operand) (xs ys : Array Value) (w : World) : Sem.run Tryd.prog (eqGuard op 24 a b (.agg xs) (.agg ys)) w = .ok () w :=
  run_eqGuard_agg w op 24 a b xs ys (by kernel_rfl)

theorem items_ext {xs ys : Array (Int × Int)} (hs : xs.size = ys.size) (h : ∀ j, j < xs.size → xs[j]! = ys[j]!) : xs = ys :=
  Array.ext hs fun t h1 h2 => by have := h t h1; rwa [getElem!_pos xs t h1, getElem!_pos ys t h2] at this

theorem items_unlike (p1 p2 : Option Addr) (n m c1 c2 : Nat) (w : World) (h : n ≠ m) :
    Calls Tryd.prog 9 #[.slice p1 n c1, .slice p2 m c2] w fun e w' => e = .returned (.bool false) ∧ ∃ q, w' = w.drewN q := by
  have hz : ((n : Int) == (m : Int)) = false := beq_eq_false_iff_ne.2 (by omega)
  go_enter Tryd.func9, Tryd.ntmps9
  go_wp2
  go_ret
  exact ⟨rfl, 0, rfl⟩
theorem items_none (p1 p2 : Option Addr) (c1 c2 : Nat) (w : World) :
    Calls Tryd.prog 9 #[.slice p1 0 c1, .slice p2 0 c2] w fun e w' => e = .returned (.bool true) ∧ ∃ q, w' = w.drewN q := by
  go_enter Tryd.func9, Tryd.ntmps9
  go_wp2
  go_loop [5] (fun i => i = .int .i64 0) (fun _ => 0)
  case atStart => rfl
  case round =>
    subst hrel
    go_wp2
    go_ret
    exact ⟨rfl, 0, rfl⟩

set_option maxHeartbeats 2000000 in
theorem items_some (b1 o1 c1 b2 o2 c2 n : Nat) (xs ys : Array (Int × Int)) (w : World) (hx : RdAt w b1 o1 xs) (hy : RdAt w b2 o2 ys) (hn : Hid (xs.size = n)) (hm : Hid (ys.size = n)) (hsz : n ≤ 4611686018427387904) :
    Calls Tryd.prog 9 #[.slice (some ⟨b1, o1, none⟩) n c1, .slice (some ⟨b2, o2, none⟩) n c2] w fun e w' => e = .returned (.bool (decide (xs = ys))) ∧ ∃ q, w' = w.drewN q := by
  have HX : Aside _ := hx
  have HY : Aside _ := hy
  clear hx hy
  have k1 := eql_item
  have k2 := neq_item
  have k3 := equalIn_item
  have k4 := guard_item
  go_enter Tryd.func9, Tryd.ntmps9
  go_wp2
  go_loopg [5] n (fun g vi wr => ∃ i q : Nat, vi = .int .i64 i ∧ i + g = n ∧ wr = w.drewN q ∧ Aside (∀ j, j < i → xs[j]! = ys[j]!))
  case atStart => exact ⟨0, 0, rfl, by omega, rfl, (show Aside _ from fun j hj => by omega)⟩
  case round =>
    obtain ⟨i, q, rfl, hg, rfl, HO⟩ := hrel
    by_cases hlt : i < n
    · have hlz : (i : Int) < (n : Int) := by omega
      obtain ⟨x0, x1, hx⟩ : ∃ x y, xs[i]! = (x, y) := ⟨_, _, rfl⟩
      obtain ⟨y0, y1, hy⟩ : ∃ x y, ys[i]! = (x, y) := ⟨_, _, rfl⟩
      have cx := HX.out.2 i (by rw [hn.out]; exact hlt)
      have cy := HY.out.2 i (by rw [hm.out]; exact hlt)
      rw [hx] at cx
      rw [hy] at cy
      obtain ⟨cx0, cx1⟩ := cx
      obtain ⟨cy0, cy1⟩ := cy
      have HXX : Hid _ := hx
      have HYY : Hid _ := hy
      clear hx hy
      obtain ⟨r, hr⟩ : ∃ r, (x0 == y0 && x1 == y1) = r := ⟨_, rfl⟩
      have HR : Hid ((x0 == y0 && x1 == y1) = r) := hr
      have k2' := fun w => neq_item x0 x1 y0 y1 w
      have k3' := fun w => equalIn_item x0 x1 y0 y1 w
      rw [hr] at k2' k3'
      clear hr k1 k2 k3
      cases r
      · have ef : decide (xs = ys) = false := decide_eq_false fun e => by
          have h1 := HXX.out
          have h2 := HYY.out
          rw [e, h2] at h1
          cases h1
          have := HR.out
          simp at this
        have EF : Hid _ := ef
        clear ef
        go_wp2_with fail
        go_quiet (fail)
        go_wp2
        go_ret
        exact ⟨ret_bb EF.out, q + nq, by first | rfl | rw [World.drewN_drewN]⟩
      · go_wp2_with fail
        go_quiet (fail)
        go_wp2
        go_roundg (n - (i + 1))
        case measure => omega
        case rel =>
          refine ⟨i + 1, q + nq, by go_num, by omega, by first | rfl | rw [World.drewN_drewN], (show Aside _ from fun j hj => ?_)⟩
          rcases Nat.lt_or_ge j i with c | c
          · exact HO.out j c
          · obtain rfl : j = i := by omega
            rw [HXX.out, HYY.out]
            have := HR.out
            simp at this
            rw [this.1, this.2]
    · have hlz : ¬ (i : Int) < (n : Int) := by omega
      have ef : decide (xs = ys) = true := decide_eq_true (items_ext (hn.out.trans hm.out.symm) fun j hj => HO.out j (by rw [hn.out] at hj; omega))
      have EF : Hid _ := ef
      clear ef
      go_wp2
      go_ret
      exact ⟨ret_bb EF.out, q, rfl⟩

theorem items_any (u v : Value) (xs ys : Array (Int × Int)) (w : World) (hx : Sl w u xs) (hy : Sl w v ys) (hn : xs.size ≤ 4611686018427387904) :
    Calls Tryd.prog 9 #[u, v] w fun e w' => e = .returned (.bool (decide (xs = ys))) ∧ ∃ q, w' = w.drewN q := by
  obtain ⟨p1, c1, rfl, _, hx⟩ := hx
  obtain ⟨p2, c2, rfl, _, hy⟩ := hy
  by_cases hs : xs.size = ys.size
  · by_cases h0 : xs.size = 0
    · rw [← hs, h0, decide_eq_true (items_ext hs fun j hj => by omega)]
      exact items_none p1 p2 c1 c2 w
    · rcases hx with hx | ⟨b1, o1, rfl, hx⟩
      · exact absurd hx h0
      rcases hy with hy | ⟨b2, o2, rfl, hy⟩
      · exact absurd (hs.trans hy) h0
      rw [← hs]
      exact items_some b1 o1 c1 b2 o2 c2 xs.size xs ys w hx hy rfl hs.symm hn
  · rw [decide_eq_false fun e => hs (by rw [e])]
    exact items_unlike p1 p2 _ _ c1 c2 w hs
end Go.Proofs.YtcjfbenbdjlodaaDoor
