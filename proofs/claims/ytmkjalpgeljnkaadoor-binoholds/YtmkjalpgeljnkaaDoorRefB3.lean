/-
  The document's heaps of trees: the size; two trees linked.
-/
import Derived.Test.YtmkjalpgeljnkaaDoorRefB2
namespace Go.Proofs.YtmkjalpgeljnkaaDoor
open Go.RowKit Go.Sort Go.Proofs

/-- How many items there are in all. -/
def sizeZ (h : List (Int × List (Int × Int))) : Nat := (h.map fun t => t.2.length).sum
theorem sizeZ_take_succ {h : List (Int × List (Int × Int))} {i : Nat} {r : Int} {l : List (Int × Int)} (hi : h[i]? = some (r, l)) : sizeZ (h.take (i + 1)) = sizeZ (h.take i) + l.length := by
  obtain ⟨hlt, e⟩ := List.getElem?_eq_some_iff.1 hi
  unfold sizeZ
  rw [List.take_succ_eq_append_getElem hlt, List.map_append, List.sum_append, e]
  simp
theorem sizeZ_take_le (h : List (Int × List (Int × Int))) (i : Nat) : sizeZ (h.take i) ≤ sizeZ h := by
  have e : sizeZ h = sizeZ (h.take i) + sizeZ (h.drop i) := by
    unfold sizeZ
    rw [← List.sum_append, ← List.map_append, List.take_append_drop]
  omega
set_option maxHeartbeats 2000000 in
theorem size_any (p : Option Addr) (n cap : Nat) (h : List (Int × List (Int × Int))) (w : World) (hs : sizeZ h ≤ 1000) (hn : n ≤ 1000) (HN : Hid (h.length = n)) (HH : Hid (HpAt w (.slice p n cap) h)) :
    Calls Tryd.prog 10 #[.slice p n cap] w fun e w' => e = .returned (.int .i64 (sizeZ h : Nat)) ∧ w' = w := by
  go_enter Tryd.func10, Tryd.ntmps10
  go_wp2
  go_loopg [3, 4] n (fun g vn vi wr => ∃ i m : Nat, vi = .int .i64 i ∧ vn = .int .i64 m ∧ i ≤ n ∧ n - i ≤ g ∧ m ≤ 1000 ∧ Hid (m = sizeZ (h.take i)) ∧ Hid (w = wr))
  case atStart => exact ⟨0, 0, rfl, rfl, Nat.zero_le _, by omega, by omega, (show _ = _ by simp [sizeZ]), rfl⟩
  case round =>
    obtain ⟨i, m, rfl, rfl, hin, hg, hm, HM, HW⟩ := hrel
    by_cases hlt : i < n
    · have hlz : (i : Int) < (n : Int) := by omega
      obtain ⟨⟨r, l⟩, hx⟩ : ∃ x, h[i]? = some x := ⟨h[i]'(by rw [HN.out]; omega), by simp⟩
      obtain ⟨blk, off, q, c, rfl, hb, c0, c1, _⟩ := HH.out.tree hx
      rw [HW.out] at c0 c1
      have HM' : Hid (m + l.length = sizeZ (h.take (i + 1))) := by show _ = _; rw [sizeZ_take_succ hx, HM.out]
      have hml : m + l.length ≤ 1000 := by rw [HM'.out]; exact Nat.le_trans (sizeZ_take_le h _) hs
      generalize l.length = len at *
      have hw1 : IntKind.i64.wrap ((m : Int) + (len : Int)) = (m : Int) + (len : Int) := by rw [IntKind.wrap_i64]; omega
      clear hx HM
      go_wp2
      go_roundg (n - (i + 1))
      case measure => omega
      case rel => exact ⟨i + 1, m + len, by go_num, by go_num, by omega, Nat.le_refl _, hml, HM', HW⟩
    · have hlz : ¬ (i : Int) < (n : Int) := by omega
      have HE : Hid (m = sizeZ h) := by show _ = _; rw [HM.out, List.take_of_length_le (by rw [HN.out]; omega)]
      go_wp2
      go_ret
      exact ⟨by rw [← HE.out]; rfl, HW.out.symm⟩
#print axioms size_any
end Go.Proofs.YtmkjalpgeljnkaaDoor
