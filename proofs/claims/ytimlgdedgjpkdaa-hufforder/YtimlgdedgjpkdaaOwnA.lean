/-
  append(dst, src...) at items, whatever the source is; what lies behind a slice's first item.
-/
import Derived.Test.YtimlgdedgjpkdaaOwn
namespace Go.Proofs.Ytimlgdedgjpkdaa
open Go.RowKit Go.Sort Go.Proofs

theorem flatL_one (l : List (Int × Int)) : ∀ u ∈ flatL l, u.oneCell' = true := by
  intro u hu
  simp only [flatL, List.mem_flatMap] at hu
  obtain ⟨x, _, h⟩ := hu
  exact encI_one x u h
theorem flatL_append (a b : List (Int × Int)) : flatL (a ++ b) = flatL a ++ flatL b := by simp [flatL]
theorem RdAt.cellsL {w : World} {blk off : Nat} {xs : Array (Int × Int)} (h : RdAt w blk off xs) : ∀ j u, (flatL xs.toList)[j]? = some u → w.cell? ((⟨blk, off, none⟩ : Addr).add j) = some u := by
  intro j u hu
  rw [show ((⟨blk, off, none⟩ : Addr).add j) = ⟨blk, off + j, none⟩ by unfold Addr.add; split <;> simp_all]
  have hj : j < xs.size * 2 := by
    have := (List.getElem?_eq_some_iff.1 hu).1
    rw [flatL_len] at this
    simpa using this
  have hl : j / 2 < xs.toList.length := by simp; omega
  obtain ⟨g0, g1⟩ := flatL_get xs.toList (j / 2) hl
  obtain ⟨c0, c1⟩ := h.2 (j / 2) (by omega)
  rw [getD_toList xs (j / 2) hl] at g0 g1
  by_cases hp : j % 2 = 0
  · rw [show j / 2 * 2 = j by omega] at g0
    rw [hu] at g0
    rw [show off + j = off + j / 2 * 2 by omega, g0]; exact c0
  · rw [show j / 2 * 2 + 1 = j by omega] at g1
    rw [hu] at g1
    rw [show off + j = off + j / 2 * 2 + 1 by omega, g1]; exact c1

/-- What lies behind a slice's first item. -/
theorem RdAt.tail {w : World} {blk off : Nat} {x : Int × Int} {xs : List (Int × Int)} (h : RdAt w blk off (x :: xs).toArray) : RdAt w blk (off + 2) xs.toArray := by
  refine ⟨h.1, fun i hi => ?_⟩
  have hi' : i < xs.length := by simpa using hi
  have e : (x :: xs).toArray[i + 1]! = xs.toArray[i]! := by
    rw [getElem!_pos _ (i + 1) (by simp; omega), getElem!_pos _ i hi]; simp
  have := h.2 (i + 1) (by simp; omega)
  rw [e] at this
  exact ⟨by rw [show off + 2 + i * 2 = off + (i + 1) * 2 by omega]; exact this.1, by rw [show off + 2 + i * 2 + 1 = off + (i + 1) * 2 + 1 by omega]; exact this.2⟩
theorem Sl.tail {w : World} {blk off cap n : Nat} {x : Int × Int} {xs : List (Int × Int)} (h : RdAt w blk off (x :: xs).toArray) (hn : xs.length + 1 = n) (hc : n ≤ cap) : Sl w (.slice (some ⟨blk, off + 2, none⟩) (n - 1) (cap - 1)) xs.toArray :=
  ⟨some ⟨blk, off + 2, none⟩, cap - 1, by rw [show xs.toArray.size = n - 1 by simp; omega], by simp; omega, Or.inr ⟨blk, off + 2, rfl, h.tail⟩⟩
theorem Sl.empty (w : World) (p : Option Addr) (n cap : Nat) (xs : List (Int × Int)) (hx : xs.length = n) (h : n = 0) : Sl w (.slice p n cap) xs.toArray :=
  ⟨p, cap, by simp [hx], by simp; omega, Or.inl (by rw [List.size_toArray, hx]; exact h)⟩
end Go.Proofs.Ytimlgdedgjpkdaa
