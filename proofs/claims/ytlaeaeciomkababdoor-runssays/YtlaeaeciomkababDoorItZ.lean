/-
  Items whose keys are numbers; numbers by rising.
-/
import Derived.Test.YtlaeaeciomkababDoorOwn
import Derived.Test.YtlaeaeciomkababDoorSrts
import Derived.Test.YtlaeaeciomkababDoorSMath
import Derived.Test.YtlaeaeciomkababDoorSameZ
import Derived.Test.YtlaeaeciomkababDoorKeysS
namespace Go.Proofs.YtlaeaeciomkababDoor
open Go.RowKit Go.Sort Go.Proofs

def itm0 (ys : List Int) : List (Int × Int) := ys.map fun k => (k, 0)
theorem itm0_len (ys : List Int) : (itm0 ys).length = ys.length := by simp [itm0]
theorem itm0_fst (ys : List Int) : (itm0 ys).map (·.1) = ys := by simp [itm0, Function.comp_def]
theorem itm0_succ {ys : List Int} {i : Nat} {c : Int} (h : ys[i]? = some c) : itm0 (ys.take (i + 1)) = itm0 (ys.take i) ++ [(c, 0)] := by
  obtain ⟨hk, hv⟩ := List.getElem?_eq_some_iff.1 h
  rw [List.take_succ_eq_append_getElem hk, hv]
  simp [itm0]
def fsts (os : List (Int × Int)) : List Int := os.map fun x => x.1
theorem fsts_len (os : List (Int × Int)) : (fsts os).length = os.length := by simp [fsts]
theorem fst_succ {os : List (Int × Int)} {i : Nat} {x0 x1 : Int} (h : os[i]? = some (x0, x1)) : fsts (os.take (i + 1)) = fsts (os.take i) ++ [x0] := by
  obtain ⟨hk, hv⟩ := List.getElem?_eq_some_iff.1 h
  rw [List.take_succ_eq_append_getElem hk, hv]
  simp [fsts]
theorem box_two (W : World) (c d : Int) : (W.alloc (.cells #[.int .i64 c, .int .i64 d] 99)).cell? ⟨W.heap.size, 0, none⟩ = some (.int .i64 c) ∧ (W.alloc (.cells #[.int .i64 c, .int .i64 d] 99)).cell? ((⟨W.heap.size, 0, none⟩ : Addr).add 1) = some (.int .i64 d) := by
  constructor <;> simp [Addr.add]
/-- A list that holds the numbers by rising. -/
structure SortedZ (ys zs : List Int) : Prop where
  perm : zs.Perm ys
  up : zs.Pairwise (· ≤ ·)
theorem sortedZ {ys : List Int} {os : List (Int × Int)} (h : Sorts (itm0 ys).toArray os.toArray) : SortedZ ys (fsts os) := by
  unfold fsts
  have p := h.st.perm
  refine ⟨?_, ?_⟩
  · have := p.symm.map (·.1)
    simpa [itm0_fst] using this
  · have := srt_pairwise h.srt
    simp only at this
    rw [List.pairwise_map]
    simpa using this
#print axioms sortedZ
end Go.Proofs.YtlaeaeciomkababDoor
