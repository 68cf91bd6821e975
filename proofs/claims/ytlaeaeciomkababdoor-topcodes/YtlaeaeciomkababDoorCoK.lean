/-
  Package code: check; Make.
-/
import Derived.Test.YtlaeaeciomkababDoorHuC
import Derived.Test.YtlaeaeciomkababDoorCoFmt
import Derived.Test.YtlaeaeciomkababDoorElS
namespace Go.Proofs.YtlaeaeciomkababDoor
open Go.RowKit Go.Sort Go.Proofs

theorem topC_append (a b : List Nat) : ∀ m, topC (a ++ b) m = topC a m + topC b m
  | 0 => rfl
  | m + 1 => by rw [topC_succ, topC_succ, topC_succ, topC_append a b m, List.count_append]; omega
theorem topC_one (a m : Nat) : topC [a] m = (if 0 < a ∧ a ≤ m then 2 ^ (m - a) else 0) := by
  rw [topC_cons, topC_nil, Nat.zero_add]
/-- What codes of lengths take, of all that there is. -/
def takK (l : List Int) : Nat := topC (natL l) 20
theorem takK_take {l : List Int} {i : Nat} {x : Int} (h : l[i]? = some x) (h0 : 0 < x) (h1 : x ≤ 20) : takK (l.take (i + 1)) = takK (l.take i) + 2 ^ (20 - x.toNat) := by
  obtain ⟨hi, e⟩ := List.getElem?_eq_some_iff.1 h
  have e2 : natL (l.take (i + 1)) = natL (l.take i) ++ [x.toNat] := by
    unfold natL
    rw [List.take_succ_eq_append_getElem hi, e, List.map_append]; rfl
  have hc : 0 < x.toNat ∧ x.toNat ≤ 20 := by omega
  unfold takK
  rw [e2, topC_append, topC_one, if_pos hc]
theorem takK_skip {l : List Int} {i : Nat} {x : Int} (h : l[i]? = some x) (h0 : x = 0) : takK (l.take (i + 1)) = takK (l.take i) := by
  obtain ⟨hi, e⟩ := List.getElem?_eq_some_iff.1 h
  subst h0
  have e2 : natL (l.take (i + 1)) = natL (l.take i) ++ [0] := by
    unfold natL
    rw [List.take_succ_eq_append_getElem hi, e, List.map_append]; rfl
  have hc : ¬ (0 < 0 ∧ 0 ≤ 20) := by omega
  unfold takK
  rw [e2, topC_append, topC_one, if_neg hc, Nat.add_zero]
theorem takK_zero (l : List Int) : takK (l.take 0) = 0 := by unfold takK natL; simp [topC_nil]
/-- What is wrong with lengths of codes. -/
def wrongK (l : List Int) : Nat := if 40 < l.length then 4 else if l.any (outC 20) then 1 else if 1048576 < takK l then 3 else 0
theorem wrongK_full {l : List Int} (h : 40 < l.length) : wrongK l = 4 := by unfold wrongK; rw [if_pos h]
theorem wrongK_range {l : List Int} (h : l.length ≤ 40) {i : Nat} {x : Int} (hi : l[i]? = some x) (hx : outC 20 x = true) : wrongK l = 1 := by
  unfold wrongK
  rw [if_neg (by omega), if_pos (List.any_eq_true.2 ⟨x, List.mem_of_getElem? hi, hx⟩)]
theorem any_none {l : List Int} {t : Int} (hl : ∀ (i : Nat) (x : Int), l[i]? = some x → outC t x = false) : ¬ l.any (outC t) = true := fun q => by
  obtain ⟨x, hx, e⟩ := List.any_eq_true.1 q
  obtain ⟨i, hi⟩ := List.getElem?_of_mem hx
  rw [hl i x hi] at e; cases e
theorem wrongK_shape {l : List Int} (h : l.length ≤ 40) (hl : ∀ (i : Nat) (x : Int), l[i]? = some x → outC 20 x = false) (ht : 1048576 < takK l) : wrongK l = 3 := by
  unfold wrongK
  rw [if_neg (by omega), if_neg (any_none hl), if_pos ht]
theorem wrongK_ok {l : List Int} (h : l.length ≤ 40) (hl : ∀ (i : Nat) (x : Int), l[i]? = some x → outC 20 x = false) (ht : takK l ≤ 1048576) : wrongK l = 0 := by
  unfold wrongK
  rw [if_neg (by omega), if_neg (any_none hl), if_neg (by omega)]
theorem wrongK_zero {l : List Int} (h : wrongK l = 0) : l.length ≤ 40 ∧ (∀ x ∈ l, 0 ≤ x ∧ x ≤ 20) ∧ takK l ≤ 1048576 := by
  unfold wrongK at h
  by_cases a : 40 < l.length
  · rw [if_pos a] at h; cases h
  · rw [if_neg a] at h
    by_cases b : l.any (outC 20) = true
    · rw [if_pos b] at h; cases h
    · rw [if_neg b] at h
      by_cases c : 1048576 < takK l
      · rw [if_pos c] at h; cases h
      · refine ⟨by omega, fun x hx => outC_no ?_, by omega⟩
        cases e : outC 20 x
        · rfl
        · exact absurd (List.any_eq_true.2 ⟨x, hx, e⟩) b
theorem whole_shr20 {x : Int} (h0 : 0 ≤ x) (h1 : x ≤ 20) : (1048576 : Int) / 2 ^ x.toNat = ((2 ^ (20 - x.toNat) : Nat) : Int) := by
  obtain ⟨k, rfl⟩ : ∃ k : Nat, x = k := ⟨x.toNat, by omega⟩
  have hk : k ≤ 20 := by omega
  rw [Int.toNat_natCast]
  have e : (1048576 : Int) = ((2 ^ (20 - k) * 2 ^ k : Nat) : Int) := by
    rw [← Nat.pow_add, show 20 - k + k = 20 by omega]; rfl
  rw [e, Int.natCast_mul]
  have h2 : ((2 ^ k : Nat) : Int) = (2 : Int) ^ k := by simp
  rw [h2]
  exact Int.mul_ediv_cancel _ (by have : (0 : Int) < 2 ^ k := Int.pow_pos (by decide); omega)

theorem add_row {s i q k : Nat} (h : s ≤ i * k) (hq : q ≤ k) : s + q ≤ (i + 1) * k := by rw [Nat.add_mul, Nat.one_mul]; exact Nat.add_le_add h hq
set_option maxHeartbeats 4000000 in
theorem kcheck_any (v : Value) (l : List Int) (w : World) (h : SlE EZ w v l) (hbig : l.length ≤ 9223372036854775807) :
    Calls Tryd.prog 45 #[v] w fun e w' => e = .returned (errV (wrongK l)) ∧ w' = w := by
  obtain ⟨p, cap, rfl, _⟩ := id h
  obtain ⟨n, hn⟩ : ∃ n, l.length = n := ⟨_, rfl⟩
  rw [hn] at h hbig ⊢
  have HL := hidp h
  have HN := hidp hn
  clear h hn
  by_cases hfull : 40 < n
  · have hz2 : (40 : Int) < (n : Int) := by omega
    have HF : Hid (wrongK l = 4) := wrongK_full (by rw [HN.out]; exact hfull)
    go_enter Tryd.func45, Tryd.ntmps45
    go_wp2
    go_ret
    exact ⟨by rw [HF.out]; rfl, rfl⟩
  have hz2 : ¬ (40 : Int) < (n : Int) := by omega
  go_enter Tryd.func45, Tryd.ntmps45
  go_wp2
  go_loopg [3, 12] n (fun g vs vi wr => ∃ (i s : Nat), vs = .int .i64 s ∧ vi = .int .i64 i ∧ i + g = n ∧ w = wr ∧ s ≤ i * 1048576 ∧ Hid (s = takK (l.take i) ∧ ∀ (j : Nat) (x : Int), j < i → l[j]? = some x → outC 20 x = false))
  case atStart => exact ⟨0, 0, rfl, rfl, by omega, rfl, by omega, (show Hid _ from ⟨(takK_zero l).symm, fun j x hj => by omega⟩)⟩
  case round =>
    obtain ⟨i, s, rfl, rfl, hg, hw, hs, HO⟩ := hrel
    subst hw
    by_cases hlt : i < n
    · have hlz : (i : Int) < (n : Int) := by omega
      obtain ⟨x, hx⟩ : ∃ x, l[i]? = some x := ⟨_, List.getElem?_eq_getElem (by have := HN.out; omega)⟩
      obtain ⟨b1, o1, rfl, _, _, hr1⟩ := HL.out.some (by omega)
      have c0 := hr1.int hx
      have HX := hidp hx
      clear hx hr1
      have more : outC 20 x = false → ∀ (j : Nat) (y : Int), j < i + 1 → l[j]? = some y → outC 20 y = false := fun e j y hj hy => by
        rcases Nat.lt_or_ge j i with z | z
        · exact HO.out.2 j y z hy
        · obtain rfl : j = i := by omega
          rw [HX.out] at hy; cases hy; exact e
      have MORE := hidp more
      clear more
      by_cases hneg : x < 0
      · have hnz : decide (x < 0) = true := decide_eq_true hneg
        have HF : Hid (wrongK l = 1) := wrongK_range (by have := HN.out; omega) HX.out (by unfold outC; rw [decide_eq_true hneg]; rfl)
        go_wp2
        go_ret
        exact ⟨by rw [HF.out]; rfl, rfl⟩
      · have hnz : decide (x < 0) = false := decide_eq_false hneg
        by_cases htop : 20 < x
        · have htz : decide (20 < x) = true := decide_eq_true htop
          have HF : Hid (wrongK l = 1) := wrongK_range (by have := HN.out; omega) HX.out (by unfold outC; rw [htz, Bool.or_true])
          go_wp2
          go_ret
          exact ⟨by rw [HF.out]; rfl, rfl⟩
        · have htz : decide (20 < x) = false := decide_eq_false htop
          have HF : Hid (outC 20 x = false) := outC_of (by omega) (by omega)
          by_cases hz0 : x = 0
          · subst hz0
            have HT := hidp (takK_skip HX.out rfl)
            go_wp2
            go_roundg (n - (i + 1))
            case measure => omega
            case rel => exact ⟨i + 1, s, by go_num, by go_num, by omega, rfl, add_row (q := 0) hs (Nat.zero_le _), (show Hid _ from ⟨by rw [HT.out]; exact HO.out.1, MORE.out HF.out⟩)⟩
          · have hpz : 0 < x := by omega
            have hsh := whole_shr20 (x := x) (by omega) (by omega)
            have HT := hidp (takK_take HX.out hpz (by omega))
            obtain ⟨q, hq⟩ : ∃ q, 2 ^ (20 - x.toNat) = q := ⟨_, rfl⟩
            have hq1 : q ≤ 1048576 := by rw [← hq]; exact Nat.pow_le_pow_right (n := 2) (by decide) (show 20 - x.toNat ≤ 20 by omega)
            rw [hq] at hsh HT
            have hwr : IntKind.i64.wrap ((s : Int) + (q : Int)) = (s : Int) + (q : Int) := by rw [IntKind.wrap_i64]; omega
            have hx20 : x ≤ 20 := by omega
            clear hq
            go_wp2
            go_roundg (n - (i + 1))
            case measure => omega
            case rel => exact ⟨i + 1, s + q, by go_num, by go_num, by omega, rfl, add_row hs hq1, (show Hid _ from ⟨by rw [HT.out, ← HO.out.1], MORE.out HF.out⟩)⟩
    · have hlz : ¬ (i : Int) < (n : Int) := by omega
      have HT : Hid (s = takK l) := by
        have := HO.out.1
        rw [List.take_of_length_le (by have := HN.out; omega)] at this
        exact this
      have HA : Hid (∀ (j : Nat) (x : Int), l[j]? = some x → outC 20 x = false) := fun j x hj => HO.out.2 j x (by have := HN.out; have := (List.getElem?_eq_some_iff.1 hj).1; omega) hj
      by_cases hb : 1048576 < s
      · have hbz : (1048576 : Int) < (s : Int) := by omega
        have HF : Hid (wrongK l = 3) := wrongK_shape (by have := HN.out; omega) HA.out (by rw [← HT.out]; exact hb)
        go_wp2
        go_ret
        exact ⟨by rw [HF.out]; rfl, rfl⟩
      · have hbz : ¬ (1048576 : Int) < (s : Int) := by omega
        have HF : Hid (wrongK l = 0) := wrongK_ok (by have := HN.out; omega) HA.out (by rw [← HT.out]; omega)
        go_wp2
        go_ret
        exact ⟨by rw [HF.out]; rfl, rfl⟩
#print axioms kcheck_any
end Go.Proofs.YtlaeaeciomkababDoor
