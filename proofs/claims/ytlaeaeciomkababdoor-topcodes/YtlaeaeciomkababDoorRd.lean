/-
  Lists of items that are read: order.outside, slices.IndexFunc, slices.ContainsFunc and order.Check.
-/
import Derived.Test.YtlaeaeciomkababDoorEnc
namespace Go.Proofs.YtlaeaeciomkababDoor
open Go.RowKit Go.Sort Go.Proofs

/-- The items xs lie at blk, off. -/
def RdAt (w : World) (blk off : Nat) (xs : Array (Int × Int)) : Prop :=
  blk < w.heap.size ∧ ∀ i, i < xs.size → w.cell? ⟨blk, off + i * 2, none⟩ = some (.int .i64 xs[i]!.1) ∧ w.cell? ⟨blk, off + i * 2 + 1, none⟩ = some (.int .i64 xs[i]!.2)
theorem RdAt.below {w w' : World} {blk off B : Nat} {xs : Array (Int × Int)} (h : RdAt w blk off xs) (hb : Below B w w') (hB : blk < B) : RdAt w' blk off xs :=
  ⟨Nat.lt_of_lt_of_le h.1 hb.size, fun i hi => ⟨(hb.cell (p := ⟨blk, off + i * 2, none⟩) hB).trans (h.2 i hi).1, (hb.cell (p := ⟨blk, off + i * 2 + 1, none⟩) hB).trans (h.2 i hi).2⟩⟩
theorem below_size {w w' : World} (h : Below w.heap.size w w') : w.heap.size ≤ w'.heap.size := h.size
theorem At.rd {w0 W : World} {blk off N : Nat} {d : Array (Int × Int)} (h : At w0 blk off N d W) : RdAt W blk off d :=
  ⟨h.lt, fun i hi => by have := h.cell (i := i) (by rw [← h.size]; exact hi); exact ⟨this.1, this.2.1⟩⟩

/-- A slice value that holds the items xs. -/
def Sl (w : World) (v : Value) (xs : Array (Int × Int)) : Prop :=
  ∃ p cap, v = .slice p xs.size cap ∧ xs.size ≤ cap ∧ (xs.size = 0 ∨ ∃ blk off, p = some ⟨blk, off, none⟩ ∧ RdAt w blk off xs)
theorem Sl.below {w w' : World} {v : Value} {xs : Array (Int × Int)} (h : Sl w v xs) (hb : Below w.heap.size w w') : Sl w' v xs := by
  obtain ⟨p, cap, rfl, hc, h | ⟨blk, off, rfl, hr⟩⟩ := h
  · exact ⟨p, cap, rfl, hc, Or.inl h⟩
  · exact ⟨_, cap, rfl, hc, Or.inr ⟨blk, off, rfl, hr.below hb hr.1⟩⟩
theorem Sl.of_rd {w : World} {blk off : Nat} {xs : Array (Int × Int)} (h : RdAt w blk off xs) {cap : Nat} (hc : xs.size ≤ cap) : Sl w (.slice (some ⟨blk, off, none⟩) xs.size cap) xs := ⟨_, cap, rfl, hc, Or.inr ⟨blk, off, rfl, h⟩⟩
theorem Sl.nil (w : World) : Sl w (.slice none 0 0) #[] := ⟨none, 0, rfl, Nat.le_refl _, Or.inl rfl⟩
theorem Sl.nil' (w : World) {xs : Array (Int × Int)} (h : xs.size = 0) : Sl w (.slice none 0 0) xs := ⟨none, 0, by rw [h], by omega, Or.inl h⟩

/-- Is a number of an item none that may be? -/
def outB (x : Int × Int) : Bool := decide (x.1 < -1000000 ∨ 1000000 < x.1 ∨ x.2 < 0 ∨ 1000000 < x.2)
def anyOut (xs : Array (Int × Int)) : Bool := xs.toList.any outB


/-- What is wrong with items: 4 there are too many, 1 a number is none that may be, 0 nothing. -/
def wrong (xs : Array (Int × Int)) : Nat := if 60 < xs.size then 4 else if anyOut xs then 1 else 0
/-- .. as an error. -/
def errV (k : Nat) : Value := if k = 0 then .nilIface else .iface 48 (.int .i64 k)

end Go.Proofs.YtlaeaeciomkababDoor
