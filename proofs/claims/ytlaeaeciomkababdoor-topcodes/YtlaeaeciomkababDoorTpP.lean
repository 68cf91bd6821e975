/-
  Where a number stands in a list (place).
-/
import Derived.Test.YtlaeaeciomkababDoorCoEn
namespace Go.Proofs.YtlaeaeciomkababDoor
open Go.RowKit Go.Sort Go.Proofs

theorem idx_is {ns : List Int} {x : Int} {i : Nat} (h : ns[i]? = some x) (hb : ∀ (j : Nat) (y : Int), j < i → ns[j]? = some y → y ≠ x) : ns.idxOf x = i := by
  have hm := List.mem_of_getElem? h
  have h1 := List.idxOf_lt_length_of_mem hm
  have h2 : ns[ns.idxOf x]? = some x := by
    rw [List.getElem?_eq_getElem h1, List.getElem_idxOf h1]
  obtain ⟨hi, _⟩ := List.getElem?_eq_some_iff.1 h
  rcases Nat.lt_trichotomy (ns.idxOf x) i with z | z | z
  · exact absurd rfl (hb _ _ z h2)
  · exact z
  · exfalso
    have := List.not_of_lt_findIdx (xs := ns) (p := (· == x)) z
    rw [List.getElem?_eq_getElem hi] at h
    simp [Option.some.inj h] at this
theorem idx_none {ns : List Int} {x : Int} (hb : ∀ (j : Nat) (y : Int), ns[j]? = some y → y ≠ x) : ns.idxOf x = ns.length :=
  List.idxOf_eq_length fun hm => by
    obtain ⟨j, hj⟩ := List.getElem?_of_mem hm
    exact hb j x hj rfl
set_option maxHeartbeats 4000000 in
theorem place_any {w : World} {v : Value} {ns : List Int} {x : Int} (h : SlE EZ w v ns) (hbig : ns.length ≤ 9223372036854775807) :
    Calls Tryd.prog 9 #[v, .int .i64 x] w fun e w' => e = .returned (.int .i64 (ns.idxOf x : Nat)) ∧ w = w' := by
  obtain ⟨p, cap, rfl, _⟩ := id h
  obtain ⟨n, hn⟩ : ∃ n, ns.length = n := ⟨_, rfl⟩
  rw [hn] at h hbig ⊢
  have HL := hidp h
  have HN := hidp hn
  clear h hn
  go_enter Tryd.func9, Tryd.ntmps9
  go_wp2
  go_loopg [5] n (fun g vi wr => ∃ i : Nat, vi = .int .i64 i ∧ i + g = n ∧ w = wr ∧ Hid (∀ (j : Nat) (y : Int), j < i → ns[j]? = some y → y ≠ x))
  case atStart => exact ⟨0, rfl, by omega, rfl, (show Hid _ from fun j c hj => by omega)⟩
  case round =>
    obtain ⟨i, rfl, hg, hw, HO⟩ := hrel
    subst hw
    by_cases hlt : i < n
    · have hlz : (i : Int) < (n : Int) := by omega
      obtain ⟨y, hy⟩ : ∃ y, ns[i]? = some y := ⟨_, List.getElem?_eq_getElem (by have := HN.out; omega)⟩
      obtain ⟨b1, o1, rfl, _, _, hr1⟩ := HL.out.some (by omega)
      have c0 := hr1.int hy
      have HY := hidp hy
      clear hy hr1
      by_cases he : y = x
      · subst he
        have HF : Hid (ns.idxOf y = i) := idx_is HY.out HO.out
        have hyy : (y == y) = true := by simp
        go_wp2
        go_ret
        exact ⟨by rw [HF.out]; rfl, rfl⟩
      · have hyx : (y == x) = false := beq_eq_false_iff_ne.2 he
        go_wp2
        go_roundg (n - (i + 1))
        case measure => omega
        case rel =>
          refine ⟨i + 1, by go_num, by omega, rfl, (show Hid _ from fun j z hj hz => ?_)⟩
          rcases Nat.lt_or_ge j i with q | q
          · exact HO.out j z q hz
          · obtain rfl : j = i := by omega
            rw [HY.out] at hz; cases hz; exact he
    · have hlz : ¬ (i : Int) < (n : Int) := by omega
      have HF : Hid (ns.idxOf x = n) := by
        show _ = _
        rw [idx_none fun j y hj => HO.out j y (by have := HN.out; have := (List.getElem?_eq_some_iff.1 hj).1; omega) hj, HN.out]
      go_wp2
      go_ret
      exact ⟨by rw [HF.out]; rfl, rfl⟩
#print axioms place_any
end Go.Proofs.YtlaeaeciomkababDoor
