/-
  The document's codes: in, Weights, Room, Fits, Cost.
-/
import Derived.Test.YtimlgdedgjpkdaaDoorHuC
import Derived.Test.YtimlgdedgjpkdaaDoorSameZ
import Derived.BigQuiet
namespace Go.Proofs.YtimlgdedgjpkdaaDoor
open Go.RowKit Go.Sort Go.Proofs

def inB (lo hi n : Int) : Bool := decide (lo ≤ n) && decide (n ≤ hi)
theorem in_any (n lo hi : Int) (w : World) : Calls Tryd.prog 20 #[.int .i64 n, .int .i64 lo, .int .i64 hi] w fun e w' => e = .returned (.bool (inB lo hi n)) ∧ w' = w := by
  unfold inB
  by_cases h1 : lo ≤ n
  · have h2 : decide (lo ≤ n) = true := decide_eq_true h1
    rw [h2, Bool.true_and]
    go_enter Tryd.func20, Tryd.ntmps20
    go_wp2
    go_ret
    exact ⟨rfl, rfl⟩
  · have h2 : decide (lo ≤ n) = false := decide_eq_false h1
    rw [h2, Bool.false_and]
    go_enter Tryd.func20, Tryd.ntmps20
    go_wp2
    go_ret
    exact ⟨rfl, rfl⟩
theorem inB_out (top n : Int) : inB 0 top n = !outC top n := by
  unfold inB outC
  by_cases h1 : n < 0
  · rw [decide_eq_true h1, decide_eq_false (show ¬ (0 : Int) ≤ n by omega)]; rfl
  · rw [decide_eq_false h1, decide_eq_true (show (0 : Int) ≤ n by omega)]
    by_cases h2 : top < n
    · rw [decide_eq_true h2, decide_eq_false (show ¬ n ≤ top by omega)]; rfl
    · rw [decide_eq_false h2, decide_eq_true (show n ≤ top by omega)]; rfl
set_option maxHeartbeats 4000000 in
theorem weights_any (v : Value) (l : List Int) (w : World) (h : SlE EZ w v l) (hsz : l.length ≤ 9223372036854775807) :
    Calls Tryd.prog 13 #[v] w fun e w' => e = .returned (.int .i64 (wrongC l 1000)) ∧ w' = w := by
  obtain ⟨p, cap, rfl, _⟩ := id h
  obtain ⟨n, hn⟩ : ∃ n, l.length = n := ⟨_, rfl⟩
  rw [hn] at h hsz ⊢
  have HL := hidp h
  have HN := hidp hn
  clear h hn
  by_cases h0 : n = 0
  · have hz : ((n : Int) == 0) = true := by rw [h0]; rfl
    have HF : Hid (wrongC l 1000 = 5) := wrongC_none (by rw [HN.out]; exact h0)
    clear h0
    go_enter Tryd.func13, Tryd.ntmps13
    go_wp2
    go_ret
    exact ⟨by rw [HF.out]; rfl, rfl⟩
  have hz : ((n : Int) == 0) = false := beq_eq_false_iff_ne.2 (by omega)
  by_cases hbig : 40 < n
  · have hz2 : (40 : Int) < (n : Int) := by omega
    have HF : Hid (wrongC l 1000 = 4) := wrongC_full (by rw [HN.out]; exact hbig)
    go_enter Tryd.func13, Tryd.ntmps13
    go_wp2
    go_ret
    exact ⟨by rw [HF.out]; rfl, rfl⟩
  · have hz2 : ¬ (40 : Int) < (n : Int) := by omega
    go_enter Tryd.func13, Tryd.ntmps13
    go_wp2
    go_loopg [3] n (fun g vi wr => ∃ (i : Nat), vi = .int .i64 i ∧ i + g = n ∧ w = wr ∧ Hid (∀ (j : Nat) (x : Int), j < i → l[j]? = some x → outC 1000 x = false))
    case atStart => exact ⟨0, rfl, by omega, rfl, (show Hid _ from fun j x hj => by omega)⟩
    case round =>
      obtain ⟨i, rfl, hg, hw, HO⟩ := hrel
      subst hw
      by_cases hlt : i < n
      · have hlz : (i : Int) < (n : Int) := by omega
        obtain ⟨x, hx⟩ : ∃ x, l[i]? = some x := ⟨_, List.getElem?_eq_getElem (by have := HN.out; omega)⟩
        obtain ⟨b1, o1, rfl, _, _, hr1⟩ := HL.out.some (by omega)
        have c0 := hr1.int hx
        have HX := hidp hx
        have C := in_any x 0 1000 w
        rw [inB_out] at C
        generalize hr' : outC 1000 x = r at C
        have HR := hidp hr'
        have HC := hidp C
        clear hx hr1 hr' C
        cases r
        · go_wp2_with (go_at_call 20; refine HC.out.mono ?_; rintro e w' ⟨rfl, rfl⟩)
          go_roundg (n - (i + 1))
          case measure => omega
          case rel =>
            refine ⟨i + 1, by go_num, by omega, rfl, (show Hid _ from fun j y hj hy => ?_)⟩
            rcases Nat.lt_or_ge j i with z | z
            · exact HO.out j y z hy
            · obtain rfl : j = i := by omega
              rw [HX.out] at hy; cases hy; exact HR.out
        · have HF : Hid (wrongC l 1000 = 1) := by show _ = _; exact wrongC_range (by have := HN.out; omega) (by have := HN.out; omega) HX.out HR.out
          go_wp2_with (go_at_call 20; refine HC.out.mono ?_; rintro e w' ⟨rfl, rfl⟩)
          go_ret
          exact ⟨by rw [HF.out]; rfl, rfl⟩
      · have hlz : ¬ (i : Int) < (n : Int) := by omega
        have HF : Hid (wrongC l 1000 = 0) := by
          show _ = _
          exact wrongC_ok (by have := HN.out; omega) (by have := HN.out; omega) fun j x hj => HO.out j x (by have := HN.out; have := (List.getElem?_eq_some_iff.1 hj).1; omega) hj
        go_wp2
        go_ret
        exact ⟨by rw [HF.out]; rfl, rfl⟩
#print axioms weights_any

/-- How much of two to most lengths take. -/
def roomM (most : Nat) (l : List Int) : Nat := roomW most (l.map fun n => (0, n.toNat))
theorem roomM_take {most : Nat} {l : List Int} {i : Nat} {x : Int} (h : l[i]? = some x) : roomM most (l.take (i + 1)) = roomM most (l.take i) + 2 ^ (most - x.toNat) := by
  obtain ⟨hi, e⟩ := List.getElem?_eq_some_iff.1 h
  unfold roomM
  rw [List.take_succ_eq_append_getElem hi, List.map_append, roomW_append, e]
  simp [roomW]
theorem roomM_le (most : Nat) (l : List Int) : roomM most l ≤ l.length * 2 ^ most := by
  induction l with
  | nil => exact Nat.zero_le _
  | cons a t ih =>
    have e : roomM most (a :: t) = 2 ^ (most - a.toNat) + roomM most t := by simp [roomM, roomW]
    have : 2 ^ (most - a.toNat) ≤ 2 ^ most := Nat.pow_le_pow_right (by decide) (by omega)
    rw [e, List.length_cons, Nat.add_mul]
    omega
def goodM (most : Nat) (l : List Int) : Bool := l.all fun x => !outC most x
def rmA (most : Nat) (l : List Int) : Nat := if goodM most l then roomM most l else 0
def rmE (most : Nat) (l : List Int) : Nat := if goodM most l then 0 else 1
theorem rm_bad {most : Nat} {l : List Int} (h : goodM most l = false) : rmA most l = 0 ∧ rmE most l = 1 := by unfold rmA rmE; rw [h]; exact ⟨rfl, rfl⟩
theorem rm_good {most : Nat} {l : List Int} (h : goodM most l = true) : rmA most l = roomM most l ∧ rmE most l = 0 := by unfold rmA rmE; rw [h]; exact ⟨rfl, rfl⟩
/-- Two to so many. -/
def twoM (n : Nat) : Nat := 2 ^ n
theorem twoM_succ (n : Nat) : twoM (n + 1) = twoM n * 2 := Nat.pow_succ _ _
theorem twoM_le {n m : Nat} (h : n ≤ m) : twoM n ≤ twoM m := Nat.pow_le_pow_right (by decide) h
set_option maxHeartbeats 8000000 in
theorem room_any {v : Value} {l : List Int} {w : World} (h : SlE EZ w v l) (h40 : l.length ≤ 40) {most : Nat} (hm : most ≤ 40) :
    Calls Tryd.prog 29 #[v, .int .i64 most] w fun e w' => e = .returned (.tuple #[.int .i64 (rmA most l : Nat), .int .i64 (rmE most l : Nat)]) ∧ w' = w := by
  obtain ⟨p, cap, rfl, _⟩ := id h
  obtain ⟨n, hn⟩ : ∃ n, l.length = n := ⟨_, rfl⟩
  rw [hn] at h h40 ⊢
  have HL := hidp h
  have HN := hidp hn
  clear h hn
  go_enter Tryd.func29, Tryd.ntmps29
  go_wp2
  go_loopg [6, 7] n (fun g vs vi wr => ∃ (i s : Nat), vs = .int .i64 s ∧ vi = .int .i64 i ∧ i + g = n ∧ w = wr ∧ s ≤ i * 1099511627776 ∧ Hid (s = roomM most (l.take i)) ∧ Hid (∀ (j : Nat) (x : Int), j < i → l[j]? = some x → outC most x = false))
  case atStart => exact ⟨0, 0, rfl, rfl, by omega, rfl, by omega, (show Hid _ from rfl), (show Hid _ from fun j x hj => by omega)⟩
  case round =>
    obtain ⟨i, s, rfl, rfl, hg, hw, hs, HS, HO⟩ := hrel
    subst hw
    by_cases hlt : i < n
    · have hlz : (i : Int) < (n : Int) := by omega
      obtain ⟨x, hx⟩ : ∃ x, l[i]? = some x := ⟨_, List.getElem?_eq_getElem (by have := HN.out; omega)⟩
      obtain ⟨b1, o1, rfl, _, _, hr1⟩ := HL.out.some (by omega)
      have c0 := hr1.int hx
      have HX := hidp hx
      have C := in_any x 0 most w
      rw [inB_out] at C
      by_cases ho : outC most x = true
      · rw [ho] at C
        have HC := hidp C
        have HF : Hid (goodM most l = false) := by
          show _ = _
          unfold goodM
          rw [List.all_eq_false]
          exact ⟨x, List.mem_of_getElem? hx, by rw [ho]; simp⟩
        clear hx hr1 C ho
        go_wp2_with (go_at_call 20; refine HC.out.mono ?_; rintro e w' ⟨rfl, rfl⟩)
        go_ret2
        obtain ⟨e1, e2⟩ := rm_bad HF.out
        exact ⟨by rw [e1, e2]; rfl, rfl⟩
      · have ho' : outC most x = false := by simpa using ho
        rw [ho'] at C
        have HC := hidp C
        have HR := hidp ho'
        obtain ⟨x0, x1⟩ := outC_no ho'
        obtain ⟨k0, rfl⟩ : ∃ k : Nat, x = k := ⟨x.toNat, by omega⟩
        have hkm : k0 ≤ most := by omega
        have HT := hidp (roomM_take (most := most) hx)
        clear hx hr1 C ho ho'
        obtain ⟨W0, hW0⟩ : ∃ W0, W0 = w := ⟨_, rfl⟩
        subst hW0
        go_wp2_with (go_at_call 20; refine HC.out.mono ?_; rintro e w' ⟨rfl, hw'⟩; subst hw')
        go_loopg [8, 9] (most - k0) (fun gk vp vk wr => ∃ (k q : Nat), vp = .int .i64 q ∧ vk = .int .i64 k ∧ k + gk = most ∧ k0 ≤ k ∧ w' = wr ∧ q ≤ 1099511627776 ∧ Hid (q = twoM (k - k0)))
        case atStart => exact ⟨k0, 1, rfl, rfl, by omega, Nat.le_refl _, rfl, by omega, (show Hid _ from by show _ = _; rw [Nat.sub_self]; rfl)⟩
        case round =>
          obtain ⟨k, q, rfl, rfl, hgk, hkk, hwk, hq, HQ⟩ := hrel
          subst hwk
          by_cases hk : k < most
          · have hkz : (k : Int) < (most : Int) := by omega
            have hq2 : q * 2 ≤ 1099511627776 := by
              have h1 := HQ.out
              have h2 : twoM (k - k0 + 1) ≤ twoM 40 := twoM_le (by omega)
              rw [twoM_succ, ← h1] at h2
              exact h2
            have hwq : IntKind.i64.wrap ((q : Int) * 2) = (q : Int) * 2 := by rw [IntKind.wrap_i64]; omega
            go_wp2
            go_roundg (most - (k + 1))
            case measure => omega
            case rel =>
              refine ⟨k + 1, q * 2, by go_num, by go_num, by omega, by omega, rfl, hq2, (show Hid _ from ?_)⟩
              show _ = _
              rw [show k + 1 - k0 = (k - k0) + 1 by omega, twoM_succ, ← HQ.out]
          · have hkz : ¬ (k : Int) < (most : Int) := by omega
            obtain rfl : k = most := by omega
            have hws : IntKind.i64.wrap ((s : Int) + (q : Int)) = (s : Int) + (q : Int) := by rw [IntKind.wrap_i64]; omega
            go_wp2
            go_roundg (n - (i + 1))
            case measure => omega
            case rel =>
              refine ⟨i + 1, s + q, by go_num, by go_num, by omega, rfl, by omega, (show Hid _ from ?_), (show Hid _ from fun j y hj hy => ?_)⟩
              · show _ = _
                rw [HT.out, ← HS.out, HQ.out, Int.toNat_natCast]
                rfl
              · rcases Nat.lt_or_ge j i with z | z
                · exact HO.out j y z hy
                · obtain rfl : j = i := by omega
                  rw [HX.out] at hy; cases hy; exact HR.out
    · have hlz : ¬ (i : Int) < (n : Int) := by omega
      have HF : Hid (goodM most l = true) := by
        show _ = _
        unfold goodM
        rw [List.all_eq_true]
        intro x hx
        obtain ⟨j, hj⟩ := List.getElem?_of_mem hx
        rw [HO.out j x (by have := HN.out; have := (List.getElem?_eq_some_iff.1 hj).1; omega) hj]
        rfl
      have HT : Hid (s = roomM most l) := by
        have := HS.out
        rw [List.take_of_length_le (by have := HN.out; omega)] at this
        exact this
      go_wp2
      go_ret2
      refine ⟨?_, rfl⟩
      obtain ⟨e1, e2⟩ := rm_good HF.out
      rw [e1, e2, ← HT.out]
      rfl
#print axioms room_any

/-- What Fits tells. -/
def fitA (l : List Int) : Bool := decide (wrongC l 40 = 0) && decide (roomI l ≤ 1099511627776)
def fitF (l : List Int) : Bool := decide (wrongC l 40 = 0) && decide (roomI l = 1099511627776)
theorem fit_bad {l : List Int} (h : wrongC l 40 ≠ 0) : fitA l = false ∧ fitF l = false := by unfold fitA fitF; rw [decide_eq_false h]; exact ⟨rfl, rfl⟩
theorem fit_good {l : List Int} (h : wrongC l 40 = 0) : fitA l = decide (roomI l ≤ 1099511627776) ∧ fitF l = decide (roomI l = 1099511627776) := by unfold fitA fitF; rw [decide_eq_true h]; exact ⟨rfl, rfl⟩
theorem goodM_wrong {l : List Int} (h0 : l.length ≠ 0) (h40 : l.length ≤ 40) : (goodM 40 l = true → wrongC l 40 = 0) ∧ (goodM 40 l = false → wrongC l 40 = 1) := by
  constructor
  · intro h
    refine wrongC_ok h0 h40 fun i x hi => ?_
    have := List.all_eq_true.1 h x (List.mem_of_getElem? hi)
    simpa using this
  · intro h
    obtain ⟨x, hx, e⟩ := List.all_eq_false.1 h
    obtain ⟨i, hi⟩ := List.getElem?_of_mem hx
    exact wrongC_range h0 h40 hi (by simpa using e)
set_option maxHeartbeats 8000000 in
theorem refFits_any {v : Value} {l : List Int} {w : World} (h : SlE EZ w v l) (hbig : l.length ≤ 9223372036854775807) :
    Calls Tryd.prog 18 #[v] w fun e w' => e = .returned (.tuple #[.bool (fitA l), .bool (fitF l), .int .i64 (wrongC l 40 : Nat)]) ∧ w' = w := by
  obtain ⟨p, cap, rfl, _⟩ := id h
  obtain ⟨n, hn⟩ : ∃ n, l.length = n := ⟨_, rfl⟩
  by_cases h0 : n = 0
  · have hz : ((n : Int) == 0) = true := by rw [h0]; rfl
    have hF : wrongC l 40 = 5 := wrongC_none (by rw [hn]; exact h0)
    obtain ⟨e1, e2⟩ := fit_bad (l := l) (by rw [hF]; decide)
    rw [hn, hF, e1, e2]
    clear h h0 hF e1 e2 hn hbig
    go_enter Tryd.func18, Tryd.ntmps18
    go_wp2
    go_ret3
    exact ⟨rfl, rfl⟩
  have hz : ((n : Int) == 0) = false := beq_eq_false_iff_ne.2 (by omega)
  by_cases hfull : 40 < n
  · have hz2 : (40 : Int) < (n : Int) := by omega
    have hF : wrongC l 40 = 4 := wrongC_full (by rw [hn]; exact hfull)
    obtain ⟨e1, e2⟩ := fit_bad (l := l) (by rw [hF]; decide)
    rw [hn, hF, e1, e2]
    clear h hF e1 e2 hn hbig
    go_enter Tryd.func18, Tryd.ntmps18
    go_wp2
    go_ret3
    exact ⟨rfl, rfl⟩
  have hz2 : ¬ (40 : Int) < (n : Int) := by omega
  have CR := room_any h (by rw [hn]; omega) (Nat.le_refl 40)
  obtain ⟨g1, g2⟩ := goodM_wrong (l := l) (by omega) (by omega)
  cases hg : goodM 40 l
  · have hF := g2 hg
    obtain ⟨e1, e2⟩ := fit_bad (l := l) (by rw [hF]; decide)
    obtain ⟨r1, r2⟩ := rm_bad hg
    rw [r1, r2, hn] at CR
    rw [hn, hF, e1, e2]
    have HC := hidp CR
    clear h hF e1 e2 r1 r2 hn hbig CR g1 g2 hg
    go_enter Tryd.func18, Tryd.ntmps18
    go_wp2_with (go_at_call 29; refine HC.out.mono ?_; rintro e w' ⟨rfl, rfl⟩)
    go_ret3
    exact ⟨rfl, rfl⟩
  · have hF := g1 hg
    obtain ⟨e1, e2⟩ := fit_good hF
    obtain ⟨r1, r2⟩ := rm_good hg
    rw [r1, r2, hn, show roomM 40 l = roomI l from rfl] at CR
    rw [hn, hF, e1, e2]
    obtain ⟨R, hR⟩ : ∃ R, roomI l = R := ⟨_, rfl⟩
    rw [hR] at CR ⊢
    have HC := hidp CR
    have f1 : decide ((R : Int) ≤ 1099511627776) = decide (R ≤ 1099511627776) := by rw [decide_eq_decide]; omega
    have f2 : ((R : Int) == 1099511627776) = decide (R = 1099511627776) := by
      rw [Bool.eq_iff_iff, beq_iff_eq, decide_eq_true_eq]; omega
    clear h hF e1 e2 r1 r2 hn hbig CR g1 g2 hg hR
    have HF1 := hidp f1
    have HF2 := hidp f2
    clear f1 f2
    go_enter Tryd.func18, Tryd.ntmps18
    go_wp2_with (go_at_call 29; refine HC.out.mono ?_; rintro e w' ⟨rfl, rfl⟩)
    go_ret3
    refine ⟨?_, rfl⟩
    show Ending.returned (.tuple #[.bool (decide ((R : Int) ≤ 1099511627776)), .bool ((R : Int) == 1099511627776), .int .i64 (0 : Nat)]) = _
    rw [HF1.out, HF2.out]
#print axioms refFits_any
def cstA (w l : List Int) : Nat := if wrongP w l = 0 then costW (zipI w l) else 0
theorem cst_bad {w l : List Int} (h : wrongP w l ≠ 0) : cstA w l = 0 := by unfold cstA; rw [if_neg h]
theorem cst_good {w l : List Int} (h : wrongP w l = 0) : cstA w l = costW (zipI w l) := by unfold cstA; rw [if_pos h]
set_option maxHeartbeats 8000000 in
set_option maxRecDepth 20000 in
theorem refCost_any {W : World} {vw vl : Value} {w l : List Int} (hw : SlE EZ W vw w) (hl : SlE EZ W vl l) (hbig : w.length ≤ 9223372036854775807) :
    Calls Tryd.prog 16 #[vw, vl] W fun e w' => e = .returned (.tuple #[.int .i64 (cstA w l : Nat), .int .i64 (wrongP w l : Nat)]) ∧ ∃ q, w' = W.drewN q := by
  obtain ⟨p1, c1, rfl, _⟩ := id hw
  obtain ⟨p2, c2, rfl, _⟩ := id hl
  have CW := weights_any _ w W hw hbig
  by_cases a : wrongC w 1000 = 0
  · rw [a] at CW
    obtain ⟨hn0, hw40, hwr⟩ := wrongC_zero a
    by_cases b : l.length = w.length
    · obtain ⟨n, hn⟩ : ∃ n, w.length = n := ⟨_, rfl⟩
      have hP : wrongP w l = wrongC l 40 := by unfold wrongP; rw [if_pos a, if_pos b]
      rw [hn] at b hw CW hw40 hn0 ⊢
      rw [b] at hl ⊢
      have hne : ((n : Int) != (n : Int)) = false := by simp
      have HCW := hidp CW
      have HW := hidp hw
      have HL := hidp hl
      have HN := hidp hn
      have HB := hidp b
      have HWR := hidp hwr
      have HP := hidp hP
      clear CW hw hl a b hn hwr hP hbig
      go_enter Tryd.func16, Tryd.ntmps16
      go_wp2_with (go_at_call 13; refine HCW.out.mono ?_; rintro e w' ⟨rfl, rfl⟩)
      go_loopg [6, 7, 8] (n + 1) (fun g ve vs vi wr => ∃ (i s : Nat) (z : Int), ve = .int .i64 z ∧ vs = .int .i64 s ∧ vi = .int .i64 i ∧ (z = 0 → i + g = n + 1) ∧ i ≤ n ∧ s ≤ i * 40000 ∧ Hid (∃ q, wr = w'.drewN q) ∧ Hid (z = 0 → s = costW ((zipI w l).take i) ∧ ∀ (j : Nat) (x : Int), j < i → l[j]? = some x → outC 40 x = false) ∧ Hid (z ≠ 0 → z = 1 ∧ wrongP w l = 1))
      case atStart => exact ⟨0, 0, 0, rfl, rfl, rfl, fun _ => by omega, by omega, by omega, (show Hid _ from ⟨0, rfl⟩), (show Hid _ from fun _ => ⟨rfl, fun j x hj => by omega⟩), (show Hid _ from fun h => absurd rfl h)⟩
      case round =>
        obtain ⟨i, s, z, rfl, rfl, rfl, hg, hi, hs, HD, HS, HE⟩ := hrel
        by_cases hz : z = 0
        · subst hz
          have hg' := hg rfl
          clear hg
          obtain ⟨hs1, hs2⟩ := HS.out rfl
          have HS1 := hidp hs1
          have HO := hidp hs2
          clear hs1 hs2 HS HE
          by_cases hlt : i < n
          · have hlz : (i : Int) < (n : Int) := by omega
            have hld : decide (i < n) = true := decide_eq_true hlt
            obtain ⟨x, hx⟩ : ∃ x, w[i]? = some x := ⟨_, List.getElem?_eq_getElem (by have := HN.out; omega)⟩
            obtain ⟨y, hy⟩ : ∃ y, l[i]? = some y := ⟨_, List.getElem?_eq_getElem (by have := HB.out; omega)⟩
            obtain ⟨b1, o1, rfl, _, _, hr1⟩ := HW.out.some (by omega)
            obtain ⟨b2, o2, rfl, _, _, hr2⟩ := HL.out.some (by omega)
            have ca : wr.cell? ⟨b1, o1 + i, none⟩ = some (.int .i64 x) := by obtain ⟨q, hq⟩ := HD.out; rw [hq]; exact hr1.int hx
            have cb : wr.cell? ⟨b2, o2 + i, none⟩ = some (.int .i64 y) := by obtain ⟨q, hq⟩ := HD.out; rw [hq]; exact hr2.int hy
            have C := in_any y 0 40
            rw [inB_out] at C
            have HY := hidp hy
            by_cases ho : outC 40 y = true
            · rw [ho] at C
              have HC := hidp C
              have HF : Hid (wrongP w l = 1) := by
                show _ = _
                rw [HP.out]
                exact wrongC_range (by have := HB.out; omega) (by have := HB.out; omega) hy ho
              clear hx hy hr1 hr2 C ho
              go_wp2_with (go_at_call 20; refine (HC.out _).mono ?_; rintro e w' ⟨rfl, rfl⟩)
              go_roundg (n - i)
              case measure => omega
              case rel =>
                have h10 : ¬ (1 : Int) = 0 := by decide
                refine ⟨i + 1, s, 1, rfl, rfl, by go_num, fun h => absurd h h10, by omega, Nat.le_trans hs (Nat.mul_le_mul_right _ (Nat.le_succ i)), HD, (show Hid _ from fun h => absurd h h10), ?_⟩
                show _ → _
                exact fun _ => ⟨rfl, HF.out⟩
            · have ho' : outC 40 y = false := by simpa using ho
              rw [ho'] at C
              have HC := hidp C
              have HR := hidp ho'
              obtain ⟨x0, x1⟩ := HWR.out x (List.mem_of_getElem? hx)
              obtain ⟨y0, y1⟩ := outC_no ho'
              have HT := hidp (costW_take (zipI_get hx hy))
              obtain ⟨a, rfl⟩ : ∃ a : Nat, x = a := ⟨x.toNat, by omega⟩
              obtain ⟨b, rfl⟩ : ∃ b : Nat, y = b := ⟨y.toNat, by omega⟩
              obtain ⟨q, hq⟩ : ∃ q, a * b = q := ⟨_, rfl⟩
              have hq1 : q ≤ 40000 := by rw [← hq]; exact Nat.mul_le_mul (show a ≤ 1000 by omega) (show b ≤ 40 by omega)
              have hm : (b : Int) * (a : Int) = (q : Int) := by rw [← hq, Nat.mul_comm]; simp
              have hwm : IntKind.i64.wrap ((b : Int) * (a : Int)) = (q : Int) := by rw [hm, IntKind.wrap_i64]; omega
              have hws : IntKind.i64.wrap ((s : Int) + (q : Int)) = (s : Int) + (q : Int) := by rw [IntKind.wrap_i64]; omega
              have HQ : Hid (((a : Int).toNat) * ((b : Int).toNat) = q) := by show _ = _; simpa using hq
              clear hx hy hr1 hr2 C ho ho' hq hm
              go_wp2_with (go_at_call 20; refine (HC.out _).mono ?_; rintro e w' ⟨rfl, rfl⟩)
              go_quiet (fail)
              go_wp2
              go_roundg (n - i)
              case measure => omega
              case rel =>
                refine ⟨i + 1, s + q, 0, rfl, by go_num, by go_num, fun _ => by omega, by omega, by omega, (show Hid _ from (by obtain ⟨q, hq⟩ := HD.out; exact ⟨_, by rw [hq, World.drewN_drewN]⟩)), (show Hid _ from fun _ => ⟨?_, fun j y hj hy => ?_⟩), (show Hid _ from fun h => absurd rfl h)⟩
                · rw [HT.out, ← HS1.out, HQ.out]
                · rcases Nat.lt_or_ge j i with u | u
                  · exact HO.out j y u hy
                  · obtain rfl : j = i := by omega
                    rw [HY.out] at hy; cases hy; exact HR.out
          · have hlz : ¬ (i : Int) < (n : Int) := by omega
            have hld : decide (i < n) = false := decide_eq_false hlt
            have HF : Hid (wrongP w l = 0) := by
              show _ = _
              rw [HP.out]
              exact wrongC_ok (by have := HB.out; omega) (by have := HB.out; omega) fun j x hj => HO.out j x (by have := HB.out; have := (List.getElem?_eq_some_iff.1 hj).1; omega) hj
            have HT : Hid (s = costW (zipI w l)) := by
              have := HS1.out
              rw [List.take_of_length_le (by rw [zipI_len (by rw [HB.out, HN.out]), HB.out]; omega)] at this
              exact this
            go_wp2
            go_ret2
            obtain ⟨q, hq⟩ := HD.out
            refine ⟨?_, q, hq⟩
            rw [cst_good HF.out, HF.out, ← HT.out]
            rfl
        · obtain ⟨rfl, hp1⟩ := HE.out hz
          have HF := hidp hp1
          clear hz hp1 HE HS hg
          by_cases hlt : i < n
          · have hlz : (i : Int) < (n : Int) := by omega
            have hld : decide (i < n) = true := decide_eq_true hlt
            go_wp2
            go_ret2
            obtain ⟨q, hq⟩ := HD.out
            exact ⟨by rw [cst_bad (by rw [HF.out]; decide), HF.out]; rfl, q, hq⟩
          · have hlz : ¬ (i : Int) < (n : Int) := by omega
            have hld : decide (i < n) = false := decide_eq_false hlt
            go_wp2
            go_ret2
            obtain ⟨q, hq⟩ := HD.out
            exact ⟨by rw [cst_bad (by rw [HF.out]; decide), HF.out]; rfl, q, hq⟩
    · have hP : wrongP w l = 3 := by unfold wrongP; rw [if_pos a, if_neg b]
      rw [cst_bad (by rw [hP]; decide), hP]
      generalize w.length = n at CW b ⊢
      generalize l.length = m at b ⊢
      have hne : ((m : Int) != (n : Int)) = true := bne_iff_ne.2 (by omega)
      have HW := hidp CW
      clear CW hw hl hbig a b hP hn0 hw40 hwr
      by_cases hm : 0 < m
      · have hmz : (0 : Int) < (m : Int) := by omega
        have hmd : decide (0 < m) = true := decide_eq_true hm
        go_enter Tryd.func16, Tryd.ntmps16
        go_wp2_with (go_at_call 13; refine HW.out.mono ?_; rintro e w' ⟨rfl, rfl⟩)
        refine wp_loop_rounds 1 ?_
        rw [rounds_succ]
        go_wp2
        go_ret2
        exact ⟨rfl, 0, rfl⟩
      · have hmz : ¬ (0 : Int) < (m : Int) := by omega
        have hmd : decide (0 < m) = false := decide_eq_false hm
        go_enter Tryd.func16, Tryd.ntmps16
        go_wp2_with (go_at_call 13; refine HW.out.mono ?_; rintro e w' ⟨rfl, rfl⟩)
        refine wp_loop_rounds 1 ?_
        rw [rounds_succ]
        go_wp2
        go_ret2
        exact ⟨rfl, 0, rfl⟩
  · have hP : wrongP w l = wrongC w 1000 := by unfold wrongP; rw [if_neg a]
    rw [cst_bad (by rw [hP]; exact a), hP]
    generalize wrongC w 1000 = z at CW a ⊢
    generalize l.length = m
    have hz1 : ((z : Int) == 0) = false := beq_eq_false_iff_ne.2 (by omega)
    have hz2 : ((z : Int) != 0) = true := bne_iff_ne.2 (by omega)
    have HW := hidp CW
    clear CW hw hl hbig a hP
    by_cases hm : 0 < m
    · have hmz : (0 : Int) < (m : Int) := by omega
      have hmd : decide (0 < m) = true := decide_eq_true hm
      go_enter Tryd.func16, Tryd.ntmps16
      go_wp2_with (go_at_call 13; refine HW.out.mono ?_; rintro e w' ⟨rfl, rfl⟩)
      refine wp_loop_rounds 1 ?_
      rw [rounds_succ]
      go_wp2
      go_ret2
      exact ⟨rfl, 0, rfl⟩
    · have hmz : ¬ (0 : Int) < (m : Int) := by omega
      have hmd : decide (0 < m) = false := decide_eq_false hm
      go_enter Tryd.func16, Tryd.ntmps16
      go_wp2_with (go_at_call 13; refine HW.out.mono ?_; rintro e w' ⟨rfl, rfl⟩)
      refine wp_loop_rounds 1 ?_
      rw [rounds_succ]
      go_wp2
      go_ret2
      exact ⟨rfl, 0, rfl⟩
#print axioms refCost_any
end Go.Proofs.YtimlgdedgjpkdaaDoor
