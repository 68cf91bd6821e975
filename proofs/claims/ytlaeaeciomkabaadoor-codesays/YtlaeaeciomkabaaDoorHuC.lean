/-
  Package huff: check, Fits, Cost.
-/
import Derived.Test.YtlaeaeciomkabaaDoorElZ
import Derived.Test.YtlaeaeciomkabaaDoorRd
import Derived.Test.YtlaeaeciomkabaaDoorHide
import Derived.Test.YtlaeaeciomkabaaDoorHuMath
namespace Go.Proofs.YtlaeaeciomkabaaDoor
open Go.RowKit Go.Sort Go.Proofs

/-- A number that may not be. -/
def outC (top n : Int) : Bool := decide (n < 0) || decide (top < n)
/-- What is wrong with numbers from 0 to a top. -/
def wrongC (l : List Int) (top : Int) : Nat := if l.length = 0 then 5 else if 40 < l.length then 4 else if l.any (outC top) then 1 else 0
theorem wrongC_none {l : List Int} {top : Int} (h : l.length = 0) : wrongC l top = 5 := by unfold wrongC; rw [if_pos h]
theorem wrongC_full {l : List Int} {top : Int} (h : 40 < l.length) : wrongC l top = 4 := by unfold wrongC; rw [if_neg (by omega), if_pos h]
theorem wrongC_range {l : List Int} {top : Int} (h0 : l.length ≠ 0) (h : l.length ≤ 40) {i : Nat} {x : Int} (hi : l[i]? = some x) (hx : outC top x = true) : wrongC l top = 1 := by
  unfold wrongC
  rw [if_neg h0, if_neg (by omega), if_pos (List.any_eq_true.2 ⟨x, List.mem_of_getElem? hi, hx⟩)]
theorem wrongC_ok {l : List Int} {top : Int} (h0 : l.length ≠ 0) (h : l.length ≤ 40) (hl : ∀ (i : Nat) (x : Int), l[i]? = some x → outC top x = false) : wrongC l top = 0 := by
  unfold wrongC
  rw [if_neg h0, if_neg (by omega), if_neg]
  intro q
  obtain ⟨x, hx, e⟩ := List.any_eq_true.1 q
  obtain ⟨i, hi⟩ := List.getElem?_of_mem hx
  rw [hl i x hi] at e; cases e
theorem outC_no {top x : Int} (h : outC top x = false) : 0 ≤ x ∧ x ≤ top := by
  unfold outC at h
  simp at h
  omega
theorem outC_of {top x : Int} (h0 : 0 ≤ x) (h1 : x ≤ top) : outC top x = false := by
  unfold outC
  simp
  omega
theorem wrongC_zero {l : List Int} {top : Int} (h : wrongC l top = 0) : 0 < l.length ∧ l.length ≤ 40 ∧ ∀ x ∈ l, 0 ≤ x ∧ x ≤ top := by
  unfold wrongC at h
  by_cases a : l.length = 0
  · rw [if_pos a] at h; cases h
  · rw [if_neg a] at h
    by_cases b : 40 < l.length
    · rw [if_pos b] at h; cases h
    · rw [if_neg b] at h
      by_cases c : l.any (outC top) = true
      · rw [if_pos c] at h; cases h
      · refine ⟨by omega, by omega, fun x hx => outC_no ?_⟩
        cases e : outC top x
        · rfl
        · exact absurd (List.any_eq_true.2 ⟨x, hx, e⟩) c
theorem wrongC_of {l : List Int} {top : Int} (h0 : 0 < l.length) (h : l.length ≤ 40) (hl : ∀ x ∈ l, 0 ≤ x ∧ x ≤ top) : wrongC l top = 0 :=
  wrongC_ok (by omega) h fun i x hi => by have := hl x (List.mem_of_getElem? hi); exact outC_of this.1 this.2
theorem errC_ne {k : Nat} (h : k ≠ 0) : errV k = .iface 58 (.int .i64 k) := by unfold errV; rw [if_neg h]
theorem errC_nil {k : Nat} (h : k = 0) : errV k = .nilIface := by unfold errV; rw [if_pos h]

set_option maxHeartbeats 4000000 in
theorem hcheck_any (v : Value) (l : List Int) (top : Int) (w : World) (h : SlE EZ w v l) (hbig : l.length ≤ 9223372036854775807) :
    Calls Tryd.prog 32 #[v, .int .i64 top] w fun e w' => e = .returned (errV (wrongC l top)) ∧ w' = w := by
  obtain ⟨p, cap, rfl, _⟩ := id h
  obtain ⟨n, hn⟩ : ∃ n, l.length = n := ⟨_, rfl⟩
  rw [hn] at h hbig ⊢
  have HL := hidp h
  have HN := hidp hn
  clear h hn
  by_cases h0 : n = 0
  · have hz : ((n : Int) == 0) = true := by rw [h0]; rfl
    have HF : Hid (wrongC l top = 5) := wrongC_none (by rw [HN.out]; exact h0)
    go_enter Tryd.func32, Tryd.ntmps32
    go_wp2
    go_ret
    exact ⟨by rw [HF.out]; rfl, rfl⟩
  have hz : ((n : Int) == 0) = false := beq_eq_false_iff_ne.2 (by omega)
  by_cases hfull : 40 < n
  · have hz2 : (40 : Int) < (n : Int) := by omega
    have HF : Hid (wrongC l top = 4) := wrongC_full (by rw [HN.out]; exact hfull)
    go_enter Tryd.func32, Tryd.ntmps32
    go_wp2
    go_ret
    exact ⟨by rw [HF.out]; rfl, rfl⟩
  have hz2 : ¬ (40 : Int) < (n : Int) := by omega
  go_enter Tryd.func32, Tryd.ntmps32
  go_wp2
  go_loopg [17] n (fun g vi wr => ∃ (i : Nat), vi = .int .i64 i ∧ i + g = n ∧ w = wr ∧ Hid (∀ (j : Nat) (x : Int), j < i → l[j]? = some x → outC top x = false))
  case atStart => exact ⟨0, rfl, by omega, rfl, (show Hid _ from fun j x hj => by omega)⟩
  case round =>
    obtain ⟨i, rfl, hg, hw, HO⟩ := hrel
    subst hw
    by_cases hlt : i < n
    · have hlz : (i : Int) < (n : Int) := by omega
      obtain ⟨x, hx⟩ : ∃ x, l[i]? = some x := ⟨_, List.getElem?_eq_getElem (by have := HN.out; omega)⟩
      obtain ⟨b1, o1, rfl, _, _, hr1⟩ := HL.out.some (by omega)
      have c0 := hr1.int hx
      have HX := hidp hx
      clear hx hr1
      by_cases hneg : x < 0
      · have hnz : decide (x < 0) = true := decide_eq_true hneg
        have HF : Hid (wrongC l top = 1) := wrongC_range (by have := HN.out; omega) (by have := HN.out; omega) HX.out (by unfold outC; rw [decide_eq_true hneg]; rfl)
        go_wp2
        go_ret
        exact ⟨by rw [HF.out]; rfl, rfl⟩
      · have hnz : decide (x < 0) = false := decide_eq_false hneg
        by_cases htop : top < x
        · have htz : decide (top < x) = true := decide_eq_true htop
          have HF : Hid (wrongC l top = 1) := wrongC_range (by have := HN.out; omega) (by have := HN.out; omega) HX.out (by unfold outC; rw [htz, Bool.or_true])
          go_wp2
          go_ret
          exact ⟨by rw [HF.out]; rfl, rfl⟩
        · have htz : decide (top < x) = false := decide_eq_false htop
          have HF : Hid (outC top x = false) := outC_of (by omega) (by omega)
          go_wp2
          go_roundg (n - (i + 1))
          case measure => omega
          case rel =>
            refine ⟨i + 1, by go_num, by omega, rfl, (show Hid _ from fun j y hj hy => ?_)⟩
            rcases Nat.lt_or_ge j i with z | z
            · exact HO.out j y z hy
            · obtain rfl : j = i := by omega
              rw [HX.out] at hy; cases hy; exact HF.out
    · have hlz : ¬ (i : Int) < (n : Int) := by omega
      have HF : Hid (wrongC l top = 0) := wrongC_ok (by have := HN.out; omega) (by have := HN.out; omega) fun j x hj => HO.out j x (by have := HN.out; have := (List.getElem?_eq_some_iff.1 hj).1; omega) hj
      go_wp2
      go_ret
      exact ⟨by rw [HF.out]; rfl, rfl⟩
#print axioms hcheck_any

/-- Weights and lengths, as numbers. -/
def natL (l : List Int) : List Nat := l.map Int.toNat
/-- How much of the whole lengths take. -/
def roomI (l : List Int) : Nat := roomW 40 (l.map fun n => (0, n.toNat))
theorem roomI_nil : roomI [] = 0 := rfl
theorem roomI_append (a b : List Int) : roomI (a ++ b) = roomI a + roomI b := by
  unfold roomI; rw [List.map_append, roomW_append]
theorem roomI_one (n : Int) : roomI [n] = 2 ^ (40 - n.toNat) := by simp [roomI, roomW]
theorem roomI_take {l : List Int} {i : Nat} {x : Int} (h : l[i]? = some x) : roomI (l.take (i + 1)) = roomI (l.take i) + 2 ^ (40 - x.toNat) := by
  obtain ⟨hi, e⟩ := List.getElem?_eq_some_iff.1 h
  rw [List.take_succ_eq_append_getElem hi, roomI_append, e, roomI_one]
theorem roomI_le (l : List Int) : roomI l ≤ l.length * 1099511627776 := by
  induction l with
  | nil => exact Nat.zero_le _
  | cons a t ih =>
    have e : roomI (a :: t) = 2 ^ (40 - a.toNat) + roomI t := by simp [roomI, roomW]
    have : 2 ^ (40 - a.toNat) ≤ 2 ^ 40 := Nat.pow_le_pow_right (by decide) (by omega)
    rw [e, List.length_cons, Nat.add_mul]
    omega
theorem whole_shr {x : Int} (h0 : 0 ≤ x) (h1 : x ≤ 40) : (1099511627776 : Int) / 2 ^ x.toNat = ((2 ^ (40 - x.toNat) : Nat) : Int) := by
  obtain ⟨k, rfl⟩ : ∃ k : Nat, x = k := ⟨x.toNat, by omega⟩
  have hk : k ≤ 40 := by omega
  rw [Int.toNat_natCast]
  have e : (1099511627776 : Int) = ((2 ^ (40 - k) * 2 ^ k : Nat) : Int) := by
    rw [← Nat.pow_add, show 40 - k + k = 40 by omega]; rfl
  rw [e, Int.natCast_mul]
  have h2 : ((2 ^ k : Nat) : Int) = (2 : Int) ^ k := by simp
  rw [h2]
  exact Int.mul_ediv_cancel _ (by have : (0 : Int) < 2 ^ k := Int.pow_pos (by decide); omega)
set_option maxHeartbeats 4000000 in
theorem fits_bad {w : World} {v : Value} {l : List Int} (h : SlE EZ w v l) (hbig : l.length ≤ 9223372036854775807) (h0 : wrongC l 40 ≠ 0) :
    Calls Tryd.prog 20 #[v] w fun e w' => e = .returned (.tuple #[.bool false, .bool false, .iface 58 (.int .i64 (wrongC l 40 : Nat))]) ∧ w' = w := by
  obtain ⟨p, cap, rfl, _⟩ := id h
  have C := hcheck_any _ l 40 w h hbig
  rw [errC_ne h0] at C
  generalize wrongC l 40 = z at C ⊢
  generalize l.length = n at C
  have HC := hidp C
  clear C h h0 hbig
  go_enter Tryd.func20, Tryd.ntmps20
  go_wp2_with (go_at_call 32; refine HC.out.mono ?_; rintro e w' ⟨rfl, rfl⟩)
  go_ret3
  exact ⟨rfl, rfl⟩
set_option maxHeartbeats 4000000 in
theorem fits_ok {w : World} {v : Value} {l : List Int} (h : SlE EZ w v l) (h0 : wrongC l 40 = 0) :
    Calls Tryd.prog 20 #[v] w fun e w' => e = .returned (.tuple #[.bool (decide (roomI l ≤ 1099511627776)), .bool (decide (roomI l = 1099511627776)), .nilIface]) ∧ w' = w := by
  obtain ⟨p, cap, rfl, _⟩ := id h
  obtain ⟨hpos, h40, hrng⟩ := wrongC_zero h0
  have C := hcheck_any _ l 40 w h (by omega)
  rw [errC_nil h0] at C
  obtain ⟨n, hn⟩ : ∃ n, l.length = n := ⟨_, rfl⟩
  rw [hn] at h C h40 hpos ⊢
  have HC := hidp C
  have HL := hidp h
  have HN := hidp hn
  have HRNG := hidp hrng
  clear C h hn h0 hrng
  go_enter Tryd.func20, Tryd.ntmps20
  go_wp2_with (go_at_call 32; refine HC.out.mono ?_; rintro e w' ⟨rfl, rfl⟩)
  go_loopg [6, 16] n (fun g vs vi wr => ∃ (i s : Nat), vs = .int .i64 s ∧ vi = .int .i64 i ∧ i + g = n ∧ w' = wr ∧ s ≤ i * 1099511627776 ∧ Hid (s = roomI (l.take i)))
  case atStart => exact ⟨0, 0, rfl, rfl, by omega, rfl, by omega, (show Hid _ from rfl)⟩
  case round =>
    obtain ⟨i, s, rfl, rfl, hg, hw, hs, HS⟩ := hrel
    subst hw
    by_cases hlt : i < n
    · have hlz : (i : Int) < (n : Int) := by omega
      obtain ⟨x, hx⟩ : ∃ x, l[i]? = some x := ⟨_, List.getElem?_eq_getElem (by have := HN.out; omega)⟩
      obtain ⟨b1, o1, rfl, _, _, hr1⟩ := HL.out.some (by omega)
      have c0 := hr1.int hx
      obtain ⟨x0, x1⟩ := HRNG.out x (List.mem_of_getElem? hx)
      have HX := hidp hx
      have hsh := whole_shr x0 x1
      obtain ⟨q, hq⟩ : ∃ q, 2 ^ (40 - x.toNat) = q := ⟨_, rfl⟩
      have hq1 : q ≤ 1099511627776 := by rw [← hq]; exact Nat.pow_le_pow_right (n := 2) (by decide) (show 40 - x.toNat ≤ 40 by omega)
      rw [hq] at hsh
      have HQ := hidp hq
      have hwr : IntKind.i64.wrap ((s : Int) + (q : Int)) = (s : Int) + (q : Int) := by rw [IntKind.wrap_i64]; omega
      clear hx hr1 hq
      go_wp2
      go_roundg (n - (i + 1))
      case measure => omega
      case rel =>
        refine ⟨i + 1, s + q, by go_num, by go_num, by omega, rfl, by omega, (show Hid _ from ?_)⟩
        show _ = _
        rw [roomI_take HX.out, ← HS.out, HQ.out]
    · have hlz : ¬ (i : Int) < (n : Int) := by omega
      have HT : Hid (s = roomI l) := by
        have := HS.out
        rw [List.take_of_length_le (by have := HN.out; omega)] at this
        exact this
      go_wp2
      go_ret3
      rw [← HT.out]
      have e1 : decide ((s : Int) ≤ 1099511627776) = decide (s ≤ 1099511627776) := by rw [decide_eq_decide]; omega
      have e2 : ((s : Int) == 1099511627776) = decide (s = 1099511627776) := by
        rw [Bool.eq_iff_iff, beq_iff_eq, decide_eq_true_eq]; omega
      exact ⟨by show Ending.returned (.tuple #[.bool (decide ((s : Int) ≤ 1099511627776)), .bool ((s : Int) == 1099511627776), .nilIface]) = _; rw [e1, e2], rfl⟩
#print axioms fits_ok

end Go.Proofs.YtlaeaeciomkabaaDoor
