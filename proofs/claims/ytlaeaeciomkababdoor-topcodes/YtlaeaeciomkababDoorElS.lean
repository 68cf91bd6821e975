/-
  Strings as elements; a list of strings in memory.
-/
import Derived.Test.YtlaeaeciomkababDoorChecked
import Derived.Test.YtlaeaeciomkababDoorGen
import Derived.Test.YtlaeaeciomkababDoorSoD
namespace Go.Proofs.YtlaeaeciomkababDoor
open Go.RowKit Go.Proofs

/-- Bytes as a string's value. -/
abbrev sV (l : List UInt8) : Value := .string ⟨l.toArray⟩
def encS (x : List UInt8) : List Value := [sV x]
def ES : El Tryd.prog (List UInt8) where
  enc := encS
  K := 1
  T := 9
  S := 56
  zero := .string ⟨#[]⟩
  bytes := 16
  pos := by decide
  small := by decide
  len := fun _ => rfl
  one := fun x v hv => by
    simp only [encS, List.mem_cons, List.not_mem_nil, or_false] at hv
    rw [hv]; rfl
  zlen := rfl
  info := by kernel_rfl
  under := Tryd.underlying56
theorem RdE.str {w : World} {blk off i : Nat} {xs : List (List UInt8)} (h : RdE ES w blk off xs) {s : List UInt8} (hx : xs[i]? = some s) : w.cell? ⟨blk, off + i, none⟩ = some (sV s) := by
  have := h.cell hx (c := 0) rfl
  simpa [ES] using this
theorem WrE.str {w : World} {blk i : Nat} {d : List (List UInt8)} (h : WrE ES w blk 0 d) {k : List UInt8} (hx : d[i]? = some k) : w.cell? ⟨blk, i, none⟩ = some (sV k) ∧ w.frozen? ⟨blk, i, none⟩ = false := by
  have h1 := h.rd.str hx
  have hi := (List.getElem?_eq_some_iff.1 hx).1
  have h2 := h.fr i (by simpa [ES] using hi)
  rw [Nat.zero_add] at h1 h2
  exact ⟨h1, h2⟩
theorem WrE.setStr {w : World} {blk i : Nat} {d : List (List UInt8)} (h : WrE ES w blk 0 d) (hi : i < d.length) (y : List UInt8) : WrE ES (w.setCell ⟨blk, i, none⟩ (sV y)) blk 0 (d.set i y) := by
  have := h.set hi y
  have e : w.setCells blk (0 + i * ES.K) (ES.enc y) = w.setCell ⟨blk, i, none⟩ (sV y) := by
    show w.setCells blk (0 + i * 1) [sV y] = _
    rw [Nat.zero_add, Nat.mul_one]; rfl
  rw [e] at this
  exact this
/-- make([]string, n): empty ones. -/
theorem made_strs {w : World} {base n g : Nat} (h : w.ownsRow base 9 1 (.slice (some ⟨g, 0, none⟩) n n) n (madeCells (Value.string ⟨#[]⟩).cells (n * 1)).toList) (hn : 0 < n) : base ≤ g ∧ WrE ES w g 0 (List.replicate n []) := by
  have e : (madeCells (Value.string ⟨#[]⟩).cells (n * 1)).toList = ES.flat (List.replicate n []) := by
    have h1 : (Value.string ⟨#[]⟩).cells = #[.string ⟨#[]⟩] := rfl
    rw [h1, toList_madeCells_one, Nat.mul_one]
    have : ∀ m, ES.flat (List.replicate m []) = List.replicate m (.string ⟨#[]⟩) := fun m => by
      induction m with
      | zero => rfl
      | succ m ih => rw [List.replicate_succ, El.flat_cons, ih, List.replicate_succ]; rfl
    rw [this]
  rw [e] at h
  have ho : OwnE ES w base (.slice (some ⟨g, 0, none⟩) n n) (List.replicate n []) := by unfold OwnE; rw [List.length_replicate]; exact h
  obtain ⟨g', cp, e1, hb, _, hr, hf⟩ := ho.some List.length_replicate hn
  simp only [Value.slice.injEq, Option.some.injEq, Addr.mk.injEq] at e1
  obtain ⟨⟨rfl, _⟩, _⟩ := e1
  exact ⟨hb, hr, fun j _ => by rw [Nat.zero_add]; exact hf j⟩
theorem sV_size (l : List UInt8) : (⟨l.toArray⟩ : ByteArray).size = l.length := by show l.toArray.size = _; simp
theorem sV_inj {a b : List UInt8} (h : sV a = sV b) : a = b := by
  injection h with h
  injection h with h
  have := congrArg Array.toList h
  simpa using this
end Go.Proofs.YtlaeaeciomkababDoor
