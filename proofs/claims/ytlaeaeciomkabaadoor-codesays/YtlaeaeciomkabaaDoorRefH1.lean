/-
  The document's codes: in, Weights, Room, Fits, Cost.
-/
import Derived.Test.YtlaeaeciomkabaaDoorHuC
import Derived.Test.YtlaeaeciomkabaaDoorSameZ
import Derived.BigQuiet
namespace Go.Proofs.YtlaeaeciomkabaaDoor
open Go.RowKit Go.Sort Go.Proofs

def inB (lo hi n : Int) : Bool := decide (lo ≤ n) && decide (n ≤ hi)
theorem in_any (n lo hi : Int) (w : World) : Calls Tryd.prog 25 #[.int .i64 n, .int .i64 lo, .int .i64 hi] w fun e w' => e = .returned (.bool (inB lo hi n)) ∧ w' = w := by
  unfold inB
  by_cases h1 : lo ≤ n
  · have h2 : decide (lo ≤ n) = true := decide_eq_true h1
    rw [h2, Bool.true_and]
    go_enter Tryd.func25, Tryd.ntmps25
    go_wp2
    go_ret
    exact ⟨rfl, rfl⟩
  · have h2 : decide (lo ≤ n) = false := decide_eq_false h1
    rw [h2, Bool.false_and]
    go_enter Tryd.func25, Tryd.ntmps25
    go_wp2
    go_ret
    exact ⟨rfl, rfl⟩
theorem inB_out (top n : Int) : inB 0 top n = !outC top n := by
  unfold inB outC
  by_cases h1 : n < 0
  · rw [decide_eq_true h1, decide_eq_false (show ¬ (0 : Int) ≤ n by omega)]; rfl
  · rw [decide_eq_false h1, decide_eq_true (show (0 : Int) ≤ n by omega)]
    by_cases h2 : top < n
    · rw [decide_eq_true h2, decide_eq_false (show ¬ n ≤ top by omega)]; rfl
    · rw [decide_eq_false h2, decide_eq_true (show n ≤ top by omega)]; rfl

/-- How much of two to most lengths take. -/
def roomM (most : Nat) (l : List Int) : Nat := roomW most (l.map fun n => (0, n.toNat))
theorem roomM_take {most : Nat} {l : List Int} {i : Nat} {x : Int} (h : l[i]? = some x) : roomM most (l.take (i + 1)) = roomM most (l.take i) + 2 ^ (most - x.toNat) := by
  obtain ⟨hi, e⟩ := List.getElem?_eq_some_iff.1 h
  unfold roomM
  rw [List.take_succ_eq_append_getElem hi, List.map_append, roomW_append, e]
  simp [roomW]
theorem roomM_le (most : Nat) (l : List Int) : roomM most l ≤ l.length * 2 ^ most := by
  induction l with
  | nil => exact Nat.zero_le _
  | cons a t ih =>
    have e : roomM most (a :: t) = 2 ^ (most - a.toNat) + roomM most t := by simp [roomM, roomW]
    have : 2 ^ (most - a.toNat) ≤ 2 ^ most := Nat.pow_le_pow_right (by decide) (by omega)
    rw [e, List.length_cons, Nat.add_mul]
    omega
def goodM (most : Nat) (l : List Int) : Bool := l.all fun x => !outC most x
def rmA (most : Nat) (l : List Int) : Nat := if goodM most l then roomM most l else 0
def rmE (most : Nat) (l : List Int) : Nat := if goodM most l then 0 else 1
theorem rm_bad {most : Nat} {l : List Int} (h : goodM most l = false) : rmA most l = 0 ∧ rmE most l = 1 := by unfold rmA rmE; rw [h]; exact ⟨rfl, rfl⟩
theorem rm_good {most : Nat} {l : List Int} (h : goodM most l = true) : rmA most l = roomM most l ∧ rmE most l = 0 := by unfold rmA rmE; rw [h]; exact ⟨rfl, rfl⟩
/-- Two to so many. -/
def twoM (n : Nat) : Nat := 2 ^ n
theorem twoM_succ (n : Nat) : twoM (n + 1) = twoM n * 2 := Nat.pow_succ _ _
theorem twoM_le {n m : Nat} (h : n ≤ m) : twoM n ≤ twoM m := Nat.pow_le_pow_right (by decide) h
set_option maxHeartbeats 8000000 in
theorem room_any {v : Value} {l : List Int} {w : World} (h : SlE EZ w v l) (h40 : l.length ≤ 40) {most : Nat} (hm : most ≤ 40) :
    Calls Tryd.prog 26 #[v, .int .i64 most] w fun e w' => e = .returned (.tuple #[.int .i64 (rmA most l : Nat), .int .i64 (rmE most l : Nat)]) ∧ w' = w := by
  obtain ⟨p, cap, rfl, _⟩ := id h
  obtain ⟨n, hn⟩ : ∃ n, l.length = n := ⟨_, rfl⟩
  rw [hn] at h h40 ⊢
  have HL := hidp h
  have HN := hidp hn
  clear h hn
  go_enter Tryd.func26, Tryd.ntmps26
  go_wp2
  go_loopg [6, 7] n (fun g vs vi wr => ∃ (i s : Nat), vs = .int .i64 s ∧ vi = .int .i64 i ∧ i + g = n ∧ w = wr ∧ s ≤ i * 1099511627776 ∧ Hid (s = roomM most (l.take i)) ∧ Hid (∀ (j : Nat) (x : Int), j < i → l[j]? = some x → outC most x = false))
  case atStart => exact ⟨0, 0, rfl, rfl, by omega, rfl, by omega, (show Hid _ from rfl), (show Hid _ from fun j x hj => by omega)⟩
  case round =>
    obtain ⟨i, s, rfl, rfl, hg, hw, hs, HS, HO⟩ := hrel
    subst hw
    by_cases hlt : i < n
    · have hlz : (i : Int) < (n : Int) := by omega
      obtain ⟨x, hx⟩ : ∃ x, l[i]? = some x := ⟨_, List.getElem?_eq_getElem (by have := HN.out; omega)⟩
      obtain ⟨b1, o1, rfl, _, _, hr1⟩ := HL.out.some (by omega)
      have c0 := hr1.int hx
      have HX := hidp hx
      have C := in_any x 0 most w
      rw [inB_out] at C
      by_cases ho : outC most x = true
      · rw [ho] at C
        have HC := hidp C
        have HF : Hid (goodM most l = false) := by
          show _ = _
          unfold goodM
          rw [List.all_eq_false]
          exact ⟨x, List.mem_of_getElem? hx, by rw [ho]; simp⟩
        clear hx hr1 C ho
        go_wp2_with (go_at_call 25; refine HC.out.mono ?_; rintro e w' ⟨rfl, rfl⟩)
        go_ret2
        obtain ⟨e1, e2⟩ := rm_bad HF.out
        exact ⟨by rw [e1, e2]; rfl, rfl⟩
      · have ho' : outC most x = false := by simpa using ho
        rw [ho'] at C
        have HC := hidp C
        have HR := hidp ho'
        obtain ⟨x0, x1⟩ := outC_no ho'
        obtain ⟨k0, rfl⟩ : ∃ k : Nat, x = k := ⟨x.toNat, by omega⟩
        have hkm : k0 ≤ most := by omega
        have HT := hidp (roomM_take (most := most) hx)
        clear hx hr1 C ho ho'
        obtain ⟨W0, hW0⟩ : ∃ W0, W0 = w := ⟨_, rfl⟩
        subst hW0
        go_wp2_with (go_at_call 25; refine HC.out.mono ?_; rintro e w' ⟨rfl, hw'⟩; subst hw')
        go_loopg [8, 9] (most - k0) (fun gk vp vk wr => ∃ (k q : Nat), vp = .int .i64 q ∧ vk = .int .i64 k ∧ k + gk = most ∧ k0 ≤ k ∧ w' = wr ∧ q ≤ 1099511627776 ∧ Hid (q = twoM (k - k0)))
        case atStart => exact ⟨k0, 1, rfl, rfl, by omega, Nat.le_refl _, rfl, by omega, (show Hid _ from by show _ = _; rw [Nat.sub_self]; rfl)⟩
        case round =>
          obtain ⟨k, q, rfl, rfl, hgk, hkk, hwk, hq, HQ⟩ := hrel
          subst hwk
          by_cases hk : k < most
          · have hkz : (k : Int) < (most : Int) := by omega
            have hq2 : q * 2 ≤ 1099511627776 := by
              have h1 := HQ.out
              have h2 : twoM (k - k0 + 1) ≤ twoM 40 := twoM_le (by omega)
              rw [twoM_succ, ← h1] at h2
              exact h2
            have hwq : IntKind.i64.wrap ((q : Int) * 2) = (q : Int) * 2 := by rw [IntKind.wrap_i64]; omega
            go_wp2
            go_roundg (most - (k + 1))
            case measure => omega
            case rel =>
              refine ⟨k + 1, q * 2, by go_num, by go_num, by omega, by omega, rfl, hq2, (show Hid _ from ?_)⟩
              show _ = _
              rw [show k + 1 - k0 = (k - k0) + 1 by omega, twoM_succ, ← HQ.out]
          · have hkz : ¬ (k : Int) < (most : Int) := by omega
            obtain rfl : k = most := by omega
            have hws : IntKind.i64.wrap ((s : Int) + (q : Int)) = (s : Int) + (q : Int) := by rw [IntKind.wrap_i64]; omega
            go_wp2
            go_roundg (n - (i + 1))
            case measure => omega
            case rel =>
              refine ⟨i + 1, s + q, by go_num, by go_num, by omega, rfl, by omega, (show Hid _ from ?_), (show Hid _ from fun j y hj hy => ?_)⟩
              · show _ = _
                rw [HT.out, ← HS.out, HQ.out, Int.toNat_natCast]
                rfl
              · rcases Nat.lt_or_ge j i with z | z
                · exact HO.out j y z hy
                · obtain rfl : j = i := by omega
                  rw [HX.out] at hy; cases hy; exact HR.out
    · have hlz : ¬ (i : Int) < (n : Int) := by omega
      have HF : Hid (goodM most l = true) := by
        show _ = _
        unfold goodM
        rw [List.all_eq_true]
        intro x hx
        obtain ⟨j, hj⟩ := List.getElem?_of_mem hx
        rw [HO.out j x (by have := HN.out; have := (List.getElem?_eq_some_iff.1 hj).1; omega) hj]
        rfl
      have HT : Hid (s = roomM most l) := by
        have := HS.out
        rw [List.take_of_length_le (by have := HN.out; omega)] at this
        exact this
      go_wp2
      go_ret2
      refine ⟨?_, rfl⟩
      obtain ⟨e1, e2⟩ := rm_good HF.out
      rw [e1, e2, ← HT.out]
      rfl
#print axioms room_any

end Go.Proofs.YtlaeaeciomkabaaDoor
