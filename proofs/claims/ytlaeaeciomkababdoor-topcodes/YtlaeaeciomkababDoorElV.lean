/-
  Lists of whole numbers as elements of slices; lists of lists in memory.
-/
import Derived.Test.YtlaeaeciomkababDoorSameZ
import Derived.Test.YtlaeaeciomkababDoorSoD
import Derived.Test.YtlaeaeciomkababDoorChg
namespace Go.Proofs.YtlaeaeciomkababDoor
open Go.RowKit Go.Proofs

/-- A slice's three words. -/
abbrev Sv := Option Addr × Nat × Nat
def encV (x : Sv) : List Value := [.slice x.1 x.2.1 x.2.2]
def EV : El Tryd.prog Sv where
  enc := encV
  K := 1
  T := 22
  S := 37
  zero := .slice none 0 0
  bytes := 24
  pos := by decide
  small := by decide
  len := fun _ => rfl
  one := fun x v hv => by
    simp only [encV, List.mem_cons, List.not_mem_nil, or_false] at hv
    rw [hv]; rfl
  zlen := rfl
  info := by kernel_rfl
  under := Tryd.underlying37
theorem zeros_EV (m : Nat) : (Builtin.zeroCells EV.zero.cells m).toList = EV.flat (List.replicate m (none, 0, 0)) := by
  rw [zeros_of (.slice none 0 0) 1 EV.zero.cells rfl (by omega) m]
  induction m with
  | zero => rfl
  | succ m ih =>
    have e : EV.flat (List.replicate (m + 1) (none, 0, 0)) = .slice none 0 0 :: EV.flat (List.replicate m (none, 0, 0)) := rfl
    rw [e, ← ih, show (m + 1) * 1 = m * 1 + 1 by omega, List.replicate_succ]
theorem RdE.sv {w : World} {blk off i : Nat} {xs : List Sv} (h : RdE EV w blk off xs) {s : Sv} (hx : xs[i]? = some s) : w.cell? ⟨blk, off + i, none⟩ = some (.slice s.1 s.2.1 s.2.2) := by
  have := h.cell hx (c := 0) rfl
  simpa [EV] using this
/-- The lists ls lie where the slice value v says. -/
def LLAt (w : World) (v : Value) (ls : List (List Int)) : Prop :=
  ∃ ss : List Sv, SlE EV w v ss ∧ ss.length = ls.length ∧ ∀ (i : Nat) (s : Sv) (l : List Int), ss[i]? = some s → ls[i]? = some l → SlE EZ w (.slice s.1 s.2.1 s.2.2) l
theorem LLAt.below {w w' : World} {v : Value} {ls : List (List Int)} (H : LLAt w v ls) (hb : Below w.heap.size w w') : LLAt w' v ls := by
  obtain ⟨ss, h1, h2, h3⟩ := H
  exact ⟨ss, h1.below hb, h2, fun i s l a b => (h3 i s l a b).below hb⟩
theorem LLAt.form {w : World} {v : Value} {ls : List (List Int)} (H : LLAt w v ls) : ∃ p cap, v = .slice p ls.length cap := by
  obtain ⟨ss, ⟨p, cap, e, _⟩, h2, _⟩ := H
  exact ⟨p, cap, by rw [e, h2]⟩
theorem LLAt.nil (w : World) (p : Option Addr) (cap : Nat) : LLAt w (.slice p 0 cap) [] := ⟨[], SlE.empty _ _ _, rfl, fun i s l h => by simp at h⟩
/-- The list at a place: where its words stand. -/
theorem LLAt.row {w : World} {p : Option Addr} {n cap : Nat} {ls : List (List Int)} (H : LLAt w (.slice p n cap) ls) {i : Nat} {l : List Int} (hi : ls[i]? = some l) :
    ∃ blk off q c, p = some ⟨blk, off, none⟩ ∧ blk < w.heap.size ∧ w.cell? ⟨blk, off + i, none⟩ = some (.slice q l.length c) ∧ SlE EZ w (.slice q l.length c) l := by
  obtain ⟨ss, h1, h2, h3⟩ := H
  have hlt : i < ss.length := by rw [h2]; exact (List.getElem?_eq_some_iff.1 hi).1
  obtain ⟨⟨q, n', c⟩, hs⟩ : ∃ s, ss[i]? = some s := ⟨_, List.getElem?_eq_getElem hlt⟩
  have hz := h3 i _ l hs hi
  obtain ⟨p', cap', e', hc, h0 | ⟨blk, off, rfl, hr⟩⟩ := h1
  · rw [h0] at hs; simp at hs
  · simp only [Value.slice.injEq] at e'
    obtain ⟨rfl, _, _⟩ := e'
    have c0 := hr.sv hs
    obtain ⟨e, _⟩ := hz.len
    simp only at e c0 hz
    subst e
    exact ⟨blk, off, q, c, rfl, hr.1, c0, hz⟩
theorem LLAt.len {w : World} {p : Option Addr} {n cap : Nat} {ls : List (List Int)} (H : LLAt w (.slice p n cap) ls) : n = ls.length := by
  obtain ⟨p', c', e⟩ := H.form
  simp only [Value.slice.injEq] at e
  exact e.2.1
/-- One list in a block of its own. -/
theorem LLAt.one {w : World} {v : Value} {l : List Int} (h : SlE EZ w v l) (T : TypeId) (k : Nat) (hk : 1 ≤ k) : LLAt (w.alloc (.cells #[v] T)) (.slice (some ⟨w.heap.size, 0, none⟩) 1 k) [l] := by
  obtain ⟨p, c, rfl, hc, hr⟩ := id h
  refine ⟨[(p, l.length, c)], SlE.of_rd ⟨by simp, fun j u hu => ?_⟩ rfl hk, rfl, fun i s l' hs hl => ?_⟩
  · match j, hu with
    | 0, hu => cases hu; simp
    | j + 1, hu => simp [El.flat, EV, encV] at hu
  · match i, hs, hl with
    | 0, hs, hl =>
      cases hs; cases hl
      exact h.below ((Below.refl _ w).alloc (Nat.le_refl _) _)
    | i + 1, hs, _ => simp at hs
/-- Numbers that wait for a run. -/
def encW (x : Int × Int) : List Value := [.int .i64 x.1, .int .i64 x.2]
def EW : El Tryd.prog (Int × Int) where
  enc := encW
  K := 2
  T := 88
  S := 120
  zero := .agg #[.int .i64 0, .int .i64 0]
  bytes := 16
  pos := by decide
  small := by decide
  len := fun _ => rfl
  one := fun x v hv => by
    simp only [encW, List.mem_cons, List.not_mem_nil, or_false] at hv
    rcases hv with rfl | rfl <;> rfl
  zlen := rfl
  info := by kernel_rfl
  under := Tryd.underlying120
theorem zeros_EW (m : Nat) : (Builtin.zeroCells EW.zero.cells m).toList = EW.flat (List.replicate m (0, 0)) := by
  rw [zeros_of (.int .i64 0) 2 EW.zero.cells rfl (by omega) m]
  induction m with
  | zero => rfl
  | succ m ih =>
    have e : EW.flat (List.replicate (m + 1) (0, 0)) = .int .i64 0 :: .int .i64 0 :: EW.flat (List.replicate m (0, 0)) := rfl
    rw [e, ← ih, show (m + 1) * 2 = m * 2 + 1 + 1 by omega, List.replicate_succ, List.replicate_succ]
#print axioms LLAt.row
end Go.Proofs.YtlaeaeciomkababDoor
