/-
  A list of whole numbers that came in, read.
-/
import Derived.Test.YtlaeaeciomkabaaDoorOpen
import Derived.Test.YtlaeaeciomkabaaDoorElZ
import Derived.ChangeSlices
namespace Go.Proofs.YtlaeaeciomkabaaDoor
open Go.RowKit Go.Sort Go.Proofs Go.Deep Go.ChangeShapes Go.WideShapes

theorem flat_nums (xs : List Int) (j : Nat) : (EZ.flat xs)[j]? = (xs[j]?).map fun n => .int .i64 n := by
  induction xs generalizing j with
  | nil => simp [El.flat]
  | cons a t ih =>
    have e : EZ.flat (a :: t) = .int .i64 a :: EZ.flat t := rfl
    rw [e]
    cases j with
    | zero => simp
    | succ j => simp [ih]
theorem open_nums {H : Type} {enc : TypeId × Value → H} {W : World} {fuel : Nat} {p : Option Addr} {len cap : Nat} {x : DataW H × List MemPlace}
    (h : DataW.trod enc Tryd.prog W 0 (fun _ => true) true fuel 22 [.slice p len cap] = some x) : ∃ xs : List Int, SlE EZ W (.slice p len cap) xs ∧ xs.length = len ∧ xs.length ≤ maxLen := by
  rcases open_ints Tryd.underlying22 Tryd.underlying3 cells_int h with ⟨hcs, _⟩ | ⟨a, l, c, zs, hcs, _, hl, hm, hz, _, hall, _⟩
  · simp only [List.cons.injEq, and_true, Value.slice.injEq] at hcs
    obtain ⟨rfl, rfl, rfl⟩ := hcs
    exact ⟨[], SlE.empty W none 0, rfl, Nat.zero_le _⟩
  · simp only [List.cons.injEq, and_true, Value.slice.injEq] at hcs
    obtain ⟨rfl, rfl, rfl⟩ := hcs
    simp only [if_true] at hz
    have hlen : (zs.take len).length = len := by rw [List.length_take]; omega
    by_cases h0 : len = 0
    · subst h0
      exact ⟨[], SlE.empty W _ cap, rfl, Nat.zero_le _⟩
    · obtain ⟨b, off, spot⟩ := a
      have hc := hall 0 (by omega)
      have hspot : spot = none := by simpa [Addr.add] using World.cell?_spot hc
      subst hspot
      have hadd : ∀ j, (⟨b, off, none⟩ : Addr).add j = ⟨b, off + j, none⟩ := fun j => by unfold Addr.add; split <;> simp_all
      have hlt : b < W.heap.size := by
        rw [hadd] at hc
        by_cases hb : b < W.heap.size
        · exact hb
        · exfalso
          have : W.heap[b]? = none := Array.getElem?_eq_none (by omega)
          simp [World.cell?, this] at hc
      refine ⟨zs.take len, SlE.of_rd ⟨hlt, fun j v hv => ?_⟩ hlen hl, hlen, by omega⟩
      rw [flat_nums] at hv
      have hj : j < len := by
        have := List.getElem?_eq_none_iff (l := zs.take len) (i := j)
        by_cases q : j < len
        · exact q
        · rw [this.2 (by omega)] at hv; simp at hv
      have := hall j (by omega)
      rw [hadd] at this
      rw [this]
      rw [List.getElem?_take_of_lt hj, List.getElem?_eq_getElem (by omega)] at hv
      rw [List.getD_eq_getElem?_getD, List.getElem?_eq_getElem (by omega)]
      simpa using hv
end Go.Proofs.YtlaeaeciomkabaaDoor
