/-
  A list of items that came in, read: what the walks are told of it.
-/
import Derived.Test.YtlaeaeciomkababDoorRows
import Derived.Test.YtlaeaeciomkababDoorRd
import Derived.Deep.SlicePairs
import Derived.OpenShut
import Derived.ChangeOld
namespace Go.Proofs.YtlaeaeciomkababDoor
open Go.RowKit Go.Sort Go.Proofs Go.Deep Go.ChangeShapes Go.WideShapes

theorem knob : ownKnob Tryd.prog.godebug = none := by kernel_rfl
theorem laidOut : laidOutB Tryd.prog = true := by kernel_rfl
theorem cells_int : Tryd.prog.cellsOf 3 = 1 := by kernel_rfl
theorem cells_item : Tryd.prog.cellsOf 99 = 2 := by kernel_rfl
theorem open_items {H : Type} {enc : TypeId × Value → H} {W : World} {fuel : Nat} {p : Option Addr} {len cap : Nat} {x : DataW H × List MemPlace}
    (h : DataW.trod enc Tryd.prog W 0 (fun _ => true) true fuel 97 [.slice p len cap] = some x) : ∃ xs : Array (Int × Int), Sl W (.slice p len cap) xs ∧ xs.size = len ∧ xs.size ≤ maxLen := by
  rcases open_slice_pairs Tryd.underlying97 Tryd.underlying99 cells_item rfl rfl cells_int cells_int h with ⟨hcs, _⟩ | ⟨a, l, c, m, n, V0, V1, D0, D1, P0, P1, hcs, _, hl, hm, hmeq, _, hall⟩
  · simp only [List.cons.injEq, and_true, Value.slice.injEq] at hcs
    obtain ⟨rfl, rfl, rfl⟩ := hcs
    exact ⟨#[], Sl.nil W, rfl, Nat.zero_le _⟩
  · simp only [List.cons.injEq, and_true, Value.slice.injEq] at hcs
    obtain ⟨rfl, rfl, rfl⟩ := hcs
    simp only [if_true] at hmeq
    subst hmeq
    have key : ∀ i, ∃ q : Int × Int, i < m → V0 i = .int .i64 q.1 ∧ V1 i = .int .i64 q.2 := fun i => by
      by_cases hi : i < m
      · obtain ⟨_, _, t0, t1⟩ := hall i hi
        obtain ⟨k0, e0, _⟩ := DataW.trod_int Tryd.underlying3 t0
        obtain ⟨k1, e1, _⟩ := DataW.trod_int Tryd.underlying3 t1
        simp only [List.cons.injEq, and_true] at e0 e1
        exact ⟨(k0, k1), fun _ => ⟨e0, e1⟩⟩
      · exact ⟨(0, 0), fun h => absurd h hi⟩
    obtain ⟨q, hq⟩ := Classical.axiomOfChoice key
    have hsz : ((Array.range len).map q).size = len := by simp
    have hget : ∀ i, i < len → ((Array.range len).map q)[i]! = q i := fun i hi => by rw [getElem!_pos _ i (by simpa using hi)]; simp
    refine ⟨(Array.range len).map q, ?_, hsz, by rw [hsz]; omega⟩
    by_cases h0 : len = 0
    · exact ⟨some a, m, by rw [hsz], by rw [hsz]; exact hl, Or.inl (by rw [hsz]; exact h0)⟩
    · obtain ⟨b, off, spot⟩ := a
      have hc := (hall 0 (by omega)).1
      have hspot : spot = none := by simpa [Addr.add] using World.cell?_spot hc
      subst hspot
      have hadd : ∀ j, (⟨b, off, none⟩ : Addr).add j = ⟨b, off + j, none⟩ := fun j => by unfold Addr.add; split <;> simp_all
      have hlt : b < W.heap.size := by
        rw [hadd] at hc
        by_cases hb : b < W.heap.size
        · exact hb
        · exfalso
          have : W.heap[b]? = none := Array.getElem?_eq_none (by omega)
          simp [World.cell?, this] at hc
      refine ⟨_, m, by rw [hsz], by rw [hsz]; exact hl, Or.inr ⟨b, off, rfl, hlt, fun i hi => ?_⟩⟩
      rw [hsz] at hi
      obtain ⟨t0, t1, _, _⟩ := hall i (by omega)
      rw [hadd] at t0 t1
      rw [← Nat.add_assoc] at t1
      rw [hget i hi, t0, t1, (hq i (by omega)).1, (hq i (by omega)).2]
      exact ⟨rfl, rfl⟩
end Go.Proofs.YtlaeaeciomkababDoor
