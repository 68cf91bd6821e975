/-
  Bytes as elements; a row of bytes as a string.
-/
import Derived.Test.YtlaeaeciomkababDoorChecked
import Derived.Test.YtlaeaeciomkababDoorGen
import Derived.Laws.IdiomStrings
namespace Go.Proofs.YtlaeaeciomkababDoor
open Go.RowKit Go.Proofs

theorem bytes_ext {a b : ByteArray} (h : a.data.toList = b.data.toList) : a = b := by
  apply ByteArray.ext
  apply Array.toList_inj.1
  exact h
def encB8 (x : UInt8) : List Value := [.int .u8 x.toNat]
def EB : El Tryd.prog UInt8 where
  enc := encB8
  K := 1
  T := 5
  S := 51
  zero := .int .u8 0
  bytes := 1
  pos := by decide
  small := by decide
  len := fun _ => rfl
  one := fun x v hv => by
    simp only [encB8, List.mem_cons, List.not_mem_nil, or_false] at hv
    rw [hv]; rfl
  zlen := rfl
  info := by kernel_rfl
  under := Tryd.underlying51
theorem flatB (l : List UInt8) : EB.flat l = l.map fun b => Value.int .u8 (b.toNat : Int) := by
  induction l with
  | nil => rfl
  | cons a t ih => rw [El.flat_cons, ih]; rfl
theorem RdE.byte {w : World} {blk off i : Nat} {xs : List UInt8} (h : RdE EB w blk off xs) {k : UInt8} (hx : xs[i]? = some k) : w.cell? ⟨blk, off + i, none⟩ = some (.int .u8 k.toNat) := by
  have := h.cell hx (c := 0) rfl
  simpa [EB] using this
theorem WrE.byte {w : World} {blk i : Nat} {d : List UInt8} (h : WrE EB w blk 0 d) {k : UInt8} (hx : d[i]? = some k) : w.cell? ⟨blk, i, none⟩ = some (.int .u8 k.toNat) ∧ w.frozen? ⟨blk, i, none⟩ = false := by
  have h1 := h.rd.byte hx
  have hi := (List.getElem?_eq_some_iff.1 hx).1
  have h2 := h.fr i (by simpa [EB] using hi)
  rw [Nat.zero_add] at h1 h2
  exact ⟨h1, h2⟩
theorem WrE.setByte {w : World} {blk i : Nat} {d : List UInt8} (h : WrE EB w blk 0 d) (hi : i < d.length) (y : UInt8) {k : Int} (hk : k = y.toNat) : WrE EB (w.setCell ⟨blk, i, none⟩ (.int .u8 k)) blk 0 (d.set i y) := by
  subst hk
  have := h.set hi y
  have e : w.setCells blk (0 + i * EB.K) (EB.enc y) = w.setCell ⟨blk, i, none⟩ (.int .u8 (y.toNat : Int)) := by
    show w.setCells blk (0 + i * 1) [.int .u8 (y.toNat : Int)] = _
    rw [Nat.zero_add, Nat.mul_one]; rfl
  rw [e] at this
  exact this
theorem new_bytes (W : World) (l : List UInt8) (T : TypeId) : WrE EB (W.alloc (.cells ((l.map fun b => Value.int .u8 (b.toNat : Int)).toArray) T)) W.heap.size 0 l := by
  have h1 : (W.alloc (.cells ((l.map fun b => Value.int .u8 (b.toNat : Int)).toArray) T)).heap[W.heap.size]? = some (.cells ((l.map fun b => Value.int .u8 (b.toNat : Int)).toArray) T) := by show (W.heap.push _)[W.heap.size]? = _; rw [Array.getElem?_push_size]
  refine ⟨⟨by simp, fun j u hu => ?_⟩, fun j _ => by simp⟩
  rw [flatB] at hu
  simp only [World.cell?, h1]
  rw [Nat.zero_add]
  simpa using hu
/-- The bytes of a row, from a place on, as a string. -/
theorem conv_row {w : World} {blk off cap : Nat} {l : List UInt8} (h : RdE EB w blk off l) : (convert 51 9 (.slice (some ⟨blk, off, none⟩) l.length cap)).run Tryd.prog w = .ok (.string ⟨l.toArray⟩) w := by
  refine run_convert_bytes_back w 51 9 5 ⟨blk, off, none⟩ cap l Tryd.underlying51 Tryd.underlying5 Tryd.underlying9 fun j hj => ?_
  have := h.byte (i := j) (List.getElem?_eq_getElem hj)
  have e : (⟨blk, off, none⟩ : Addr).add j = ⟨blk, off + j, none⟩ := by unfold Addr.add; split <;> simp_all
  rw [e]
  exact this
theorem WrE.tail {w : World} {blk : Nat} {d : List UInt8} (h : WrE EB w blk 0 d) (i : Nat) : RdE EB w blk i (d.drop i) := by
  have := h.rd.part (E := EB) i (ys := d.drop i) (zs := []) (by simp)
  simpa [EB] using this
end Go.Proofs.YtlaeaeciomkababDoor
