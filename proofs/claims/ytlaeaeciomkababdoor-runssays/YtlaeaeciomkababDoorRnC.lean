/-
  Package runs: outside, slices.ContainsFunc and slices.IsSorted at whole numbers, check.
-/
import Derived.Test.YtlaeaeciomkababDoorElV
import Derived.Test.YtlaeaeciomkababDoorRd
import Derived.Test.YtlaeaeciomkababDoorHide
namespace Go.Proofs.YtlaeaeciomkababDoor
open Go.RowKit Go.Sort Go.Proofs

/-- A number that may not be; a list that has one. -/
def outZ (n : Int) : Bool := decide (n < -1000000) || decide (1000000 < n)
def anyZ (l : List Int) : Bool := l.any outZ
theorem anyZ_true {l : List Int} {i : Nat} {x : Int} (h : l[i]? = some x) (hx : outZ x = true) : anyZ l = true := List.any_eq_true.2 ⟨x, List.mem_of_getElem? h, hx⟩
theorem anyZ_false {l : List Int} (h : ∀ (i : Nat) (x : Int), l[i]? = some x → outZ x = false) : anyZ l = false := by
  rw [anyZ, List.any_eq_false]
  intro x hx
  obtain ⟨i, hi⟩ := List.getElem?_of_mem hx
  rw [h i x hi]; simp
theorem anyZ_no {l : List Int} (h : anyZ l = false) : ∀ x ∈ l, -1000000 ≤ x ∧ x ≤ 1000000 := fun x hx => by
  have := List.any_eq_false.1 h x hx
  unfold outZ at this
  simp at this
  omega
/-- Sorted. -/
def upB : List Int → Bool
  | a :: b :: r => decide (a ≤ b) && upB (b :: r)
  | _ => true
theorem upB_iff : ∀ (l : List Int), upB l = true ↔ ∀ (i : Nat) (a b : Int), l[i]? = some a → l[i + 1]? = some b → a ≤ b
  | [] => by simp [upB]
  | [a] => by simp [upB]
  | a :: b :: r => by
    rw [upB, Bool.and_eq_true, decide_eq_true_eq, upB_iff (b :: r)]
    constructor
    · rintro ⟨h1, h2⟩ i x y hx hy
      match i with
      | 0 => simp at hx hy; omega
      | i + 1 => exact h2 i x y (by simpa using hx) (by simpa using hy)
    · intro h
      exact ⟨h 0 a b (by simp) (by simp), fun i x y hx hy => h (i + 1) x y (by simpa using hx) (by simpa using hy)⟩

theorem outside_z (n : Int) (w : World) : Calls Tryd.prog 49 #[.int .i64 n] w fun e w' => e = .returned (.bool (outZ n)) ∧ w' = w := by
  unfold outZ
  by_cases h1 : n < -1000000
  · have h2 : decide (n < -1000000) = true := decide_eq_true h1
    rw [h2, Bool.true_or]
    go_enter Tryd.func49, Tryd.ntmps49
    go_wp2
    go_ret
    exact ⟨rfl, rfl⟩
  · have h2 : decide (n < -1000000) = false := decide_eq_false h1
    rw [h2, Bool.false_or]
    go_enter Tryd.func49, Tryd.ntmps49
    go_wp2
    go_ret
    exact ⟨rfl, rfl⟩
set_option maxHeartbeats 2000000 in
theorem indexFunc_z (p : Option Addr) (n cap : Nat) (xs : List Int) (w : World) (h : SlE EZ w (.slice p n cap) xs) (hsz : n ≤ 4611686018427387904) :
    Calls Tryd.prog 72 #[.slice p n cap, .func (.func 49) #[] #[]] w fun e w' => ∃ r : Int, e = .returned (.int .i64 r) ∧ decide (0 ≤ r) = anyZ xs ∧ w' = w := by
  have HX : Hid (SlE EZ w (.slice p n cap) xs) := h
  have HN : Hid (n = xs.length) := h.len.1
  clear h
  go_enter Tryd.func72, Tryd.ntmps72
  go_wp2
  go_loopg [8] n (fun g vi wr => ∃ i : Nat, vi = .int .i64 i ∧ i + g = n ∧ w = wr ∧ Hid (∀ j x, j < i → xs[j]? = some x → outZ x = false))
  case atStart => exact ⟨0, rfl, by omega, rfl, (show Hid _ from fun j x hj => by omega)⟩
  case round =>
    obtain ⟨i, rfl, hg, hw, HO⟩ := hrel
    subst hw
    by_cases hlt : i < n
    · have hlz : (i : Int) < (n : Int) := by omega
      obtain ⟨blk, off, rfl, _, hl, hr⟩ := HX.out.some (by omega)
      obtain ⟨x, hx⟩ : ∃ x, xs[i]? = some x := ⟨_, List.getElem?_eq_getElem (by omega)⟩
      have c0 := hr.int hx
      have HXI : Hid (xs[i]? = some x) := hx
      clear hx hr hl
      have hcon := outside_z x w
      generalize hr' : outZ x = r at hcon
      have HR : Hid (outZ x = r) := hr'
      clear hr'
      cases r
      · go_wp2_with (go_at_call 49; refine hcon.mono ?_; rintro e w' ⟨rfl, rfl⟩)
        go_roundg (n - (i + 1))
        case measure => omega
        case rel =>
          refine ⟨i + 1, by go_num, by omega, rfl, (show Hid _ from fun j y hj hy => ?_)⟩
          rcases Nat.lt_or_ge j i with q | q
          · exact HO.out j y q hy
          · obtain rfl : j = i := by omega
            rw [HXI.out] at hy; cases hy; exact HR.out
      · go_wp2_with (go_at_call 49; refine hcon.mono ?_; rintro e w' ⟨rfl, rfl⟩)
        go_ret
        refine ⟨_, rfl, ?_, rfl⟩
        rw [anyZ_true HXI.out HR.out]
        exact decide_eq_true (by omega)
    · have hlz : ¬ (i : Int) < (n : Int) := by omega
      go_wp2
      go_ret
      refine ⟨_, rfl, ?_, rfl⟩
      rw [anyZ_false fun j x hj => HO.out j x (by have := HN.out; have := (List.getElem?_eq_some_iff.1 hj).1; omega) hj]
      decide
theorem contains_z (v : Value) (xs : List Int) (w : World) (h : SlE EZ w v xs) (hsz : xs.length ≤ 4611686018427387904) :
    Calls Tryd.prog 48 #[v, .func (.func 49) #[] #[]] w fun e w' => e = .returned (.bool (anyZ xs)) ∧ w' = w := by
  obtain ⟨p, cap, rfl, _⟩ := id h
  have hcon := indexFunc_z p xs.length cap xs w h hsz
  generalize anyZ xs = r at hcon ⊢
  generalize xs.length = n at hcon h hsz ⊢
  clear h
  go_enter Tryd.func48, Tryd.ntmps48
  go_wp2_with (go_at_call 72; refine hcon.mono ?_; rintro e w' ⟨q, rfl, hq, rfl⟩)
  go_ret
  exact ⟨by rw [← hq]; rfl, rfl⟩
theorem isNaN_z (n : Int) (w : World) : Calls Tryd.prog 81 #[.int .i64 n] w fun e w' => e = .returned (.bool false) ∧ w' = w := by
  have hd : (n != n) = false := by simp
  go_enter Tryd.func81, Tryd.ntmps81
  go_wp2
  go_ret
  exact ⟨by simp, rfl⟩
theorem less_z (a b : Int) (w : World) : Calls Tryd.prog 59 #[.int .i64 a, .int .i64 b] w fun e w' => e = .returned (.bool (decide (a < b))) ∧ w' = w := by
  have C := hidp (isNaN_z a)
  go_enter Tryd.func59, Tryd.ntmps59
  go_wp2_with (go_at_call 81; refine (C.out _).mono ?_; rintro e w' ⟨rfl, rfl⟩)
  go_ret
  exact ⟨rfl, rfl⟩
set_option maxHeartbeats 4000000 in
theorem isSorted_z (v : Value) (xs : List Int) (w : World) (h : SlE EZ w v xs) (hsz : xs.length ≤ 4611686018427387904) :
    Calls Tryd.prog 34 #[v] w fun e w' => e = .returned (.bool (upB xs)) ∧ ∃ q, w' = w.drewN q := by
  obtain ⟨p, cap, rfl, _⟩ := id h
  obtain ⟨n, hn⟩ : ∃ n, xs.length = n := ⟨_, rfl⟩
  rw [hn] at h hsz ⊢
  have HX : Hid (SlE EZ w (.slice p n cap) xs) := h
  have HN : Hid (xs.length = n) := hn
  have hw1 : IntKind.i64.wrap ((n : Int) - 1) = (n : Int) - 1 := by rw [IntKind.wrap_i64]; omega
  clear h hn
  go_enter Tryd.func34, Tryd.ntmps34
  go_wp2
  go_loopg [3] (n + 1) (fun g vi wr => ∃ i : Int, vi = .int .i64 i ∧ -1 ≤ i ∧ i + 2 ≤ (g : Int) ∧ i < (n : Int) ∧ Hid (∃ q, wr = w.drewN q) ∧ Hid (∀ (j : Nat) a b, i ≤ (j : Int) → xs[j]? = some a → xs[j + 1]? = some b → a ≤ b))
  case atStart => exact ⟨(n : Int) - 1, rfl, by omega, by omega, by omega, (show Hid _ from ⟨0, rfl⟩), (show Hid _ from fun j a b hj ha hb => by have := (List.getElem?_eq_some_iff.1 hb).1; have := HN.out; omega)⟩
  case round =>
    obtain ⟨i, rfl, h1, hg, hi, HW, HO⟩ := hrel
    by_cases hp : 0 < i
    · obtain ⟨k, rfl⟩ : ∃ k : Nat, i = (k : Int) + 1 := ⟨(i - 1).toNat, by omega⟩
      have hlz : (k : Int) + 1 < (n : Int) := by omega
      have hkz : (k : Int) < (n : Int) := by omega
      have hk0 : (0 : Int) < (k : Int) + 1 := by omega
      have hk1 : (0 : Int) ≤ (k : Int) + 1 := by omega
      have ht : ((k : Int) + 1).toNat = k + 1 := by omega
      have hwk : IntKind.i64.wrap ((k : Int) + 1 - 1) = (k : Int) := by rw [IntKind.wrap_i64]; omega
      have hwk' : IntKind.i64.wrap (k : Int) = (k : Int) := by rw [IntKind.wrap_i64]; omega
      obtain ⟨blk, off, rfl, _, hl, hr⟩ := HX.out.some (by omega)
      obtain ⟨a, ha⟩ : ∃ x, xs[k]? = some x := ⟨_, List.getElem?_eq_getElem (by omega)⟩
      obtain ⟨b, hb⟩ : ∃ x, xs[k + 1]? = some x := ⟨_, List.getElem?_eq_getElem (by omega)⟩
      have c0 : wr.cell? ⟨blk, off + k, none⟩ = some (.int .i64 a) := by obtain ⟨q, hq⟩ := HW.out; rw [hq]; exact hr.int ha
      have c1 : wr.cell? ⟨blk, off + (k + 1), none⟩ = some (.int .i64 b) := by obtain ⟨q, hq⟩ := HW.out; rw [hq]; exact hr.int hb
      have HA : Hid (xs[k]? = some a) := ha
      have HB : Hid (xs[k + 1]? = some b) := hb
      clear ha hb hr hl
      by_cases hba : b < a
      · have hcon := less_z b a
        rw [decide_eq_true hba] at hcon
        have HC : Aside _ := hcon
        clear hcon
        have HF : Hid (upB xs = false) := by
          show _ = _
          cases e : upB xs
          · rfl
          · have := (upB_iff xs).1 e k a b HA.out HB.out; omega
        go_wp2_with fail
        go_quiet (first | (go_at_call 59; refine Calls.quiet_of_same (HC.out _)))
        go_wp2
        go_ret
        obtain ⟨q, hq⟩ := HW.out; exact ⟨by rw [HF.out]; rfl, _, by rw [hq, World.drewN_drewN]⟩
      · have hcon := less_z b a
        rw [decide_eq_false hba] at hcon
        have HC : Aside _ := hcon
        clear hcon
        have HBA : Hid (a ≤ b) := by show _ ≤ _; omega
        go_wp2_with fail
        go_quiet (first | (go_at_call 59; refine Calls.quiet_of_same (HC.out _)))
        go_wp2
        go_roundg (k + 2)
        case measure => omega
        case rel =>
          refine ⟨(k : Int), by simp, by omega, by omega, by omega, (show Hid _ from (by obtain ⟨q, hq⟩ := HW.out; exact ⟨_, by rw [hq, World.drewN_drewN]⟩)), (show Hid _ from fun j x y hj hx hy => ?_)⟩
          rcases Nat.lt_or_ge k j with z | z
          · exact HO.out j x y (by omega) hx hy
          · obtain rfl : j = k := by omega
            rw [HA.out] at hx; rw [HB.out] at hy
            cases hx; cases hy
            exact HBA.out
    · have HT : Hid (upB xs = true) := by
        show _ = _
        exact (upB_iff xs).2 fun j a b ha hb => HO.out j a b (by omega) ha hb
      go_wp2
      go_ret
      obtain ⟨q, hq⟩ := HW.out; exact ⟨by rw [HT.out]; rfl, _, hq⟩
#print axioms isSorted_z
end Go.Proofs.YtlaeaeciomkababDoor
