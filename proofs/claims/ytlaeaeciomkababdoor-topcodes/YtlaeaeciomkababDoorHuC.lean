/-
  Package huff: check, Fits, Cost.
-/
import Derived.Test.YtlaeaeciomkababDoorElZ
import Derived.Test.YtlaeaeciomkababDoorRd
import Derived.Test.YtlaeaeciomkababDoorHide
import Derived.Test.YtlaeaeciomkababDoorHuMath
namespace Go.Proofs.YtlaeaeciomkababDoor
open Go.RowKit Go.Sort Go.Proofs

/-- A number that may not be. -/
def outC (top n : Int) : Bool := decide (n < 0) || decide (top < n)
/-- What is wrong with numbers from 0 to a top. -/
def wrongC (l : List Int) (top : Int) : Nat := if l.length = 0 then 5 else if 40 < l.length then 4 else if l.any (outC top) then 1 else 0
theorem wrongC_none {l : List Int} {top : Int} (h : l.length = 0) : wrongC l top = 5 := by unfold wrongC; rw [if_pos h]
theorem wrongC_full {l : List Int} {top : Int} (h : 40 < l.length) : wrongC l top = 4 := by unfold wrongC; rw [if_neg (by omega), if_pos h]
theorem wrongC_range {l : List Int} {top : Int} (h0 : l.length ≠ 0) (h : l.length ≤ 40) {i : Nat} {x : Int} (hi : l[i]? = some x) (hx : outC top x = true) : wrongC l top = 1 := by
  unfold wrongC
  rw [if_neg h0, if_neg (by omega), if_pos (List.any_eq_true.2 ⟨x, List.mem_of_getElem? hi, hx⟩)]
theorem wrongC_ok {l : List Int} {top : Int} (h0 : l.length ≠ 0) (h : l.length ≤ 40) (hl : ∀ (i : Nat) (x : Int), l[i]? = some x → outC top x = false) : wrongC l top = 0 := by
  unfold wrongC
  rw [if_neg h0, if_neg (by omega), if_neg]
  intro q
  obtain ⟨x, hx, e⟩ := List.any_eq_true.1 q
  obtain ⟨i, hi⟩ := List.getElem?_of_mem hx
  rw [hl i x hi] at e; cases e
theorem outC_no {top x : Int} (h : outC top x = false) : 0 ≤ x ∧ x ≤ top := by
  unfold outC at h
  simp at h
  omega
theorem outC_of {top x : Int} (h0 : 0 ≤ x) (h1 : x ≤ top) : outC top x = false := by
  unfold outC
  simp
  omega
theorem wrongC_zero {l : List Int} {top : Int} (h : wrongC l top = 0) : 0 < l.length ∧ l.length ≤ 40 ∧ ∀ x ∈ l, 0 ≤ x ∧ x ≤ top := by
  unfold wrongC at h
  by_cases a : l.length = 0
  · rw [if_pos a] at h; cases h
  · rw [if_neg a] at h
    by_cases b : 40 < l.length
    · rw [if_pos b] at h; cases h
    · rw [if_neg b] at h
      by_cases c : l.any (outC top) = true
      · rw [if_pos c] at h; cases h
      · refine ⟨by omega, by omega, fun x hx => outC_no ?_⟩
        cases e : outC top x
        · rfl
        · exact absurd (List.any_eq_true.2 ⟨x, hx, e⟩) c
theorem wrongC_of {l : List Int} {top : Int} (h0 : 0 < l.length) (h : l.length ≤ 40) (hl : ∀ x ∈ l, 0 ≤ x ∧ x ≤ top) : wrongC l top = 0 :=
  wrongC_ok (by omega) h fun i x hi => by have := hl x (List.mem_of_getElem? hi); exact outC_of this.1 this.2
theorem errC_ne {k : Nat} (h : k ≠ 0) : errV k = .iface 48 (.int .i64 k) := by unfold errV; rw [if_neg h]
theorem errC_nil {k : Nat} (h : k = 0) : errV k = .nilIface := by unfold errV; rw [if_pos h]

set_option maxHeartbeats 4000000 in
theorem hcheck_any (v : Value) (l : List Int) (top : Int) (w : World) (h : SlE EZ w v l) (hbig : l.length ≤ 9223372036854775807) :
    Calls Tryd.prog 25 #[v, .int .i64 top] w fun e w' => e = .returned (errV (wrongC l top)) ∧ w' = w := by
  obtain ⟨p, cap, rfl, _⟩ := id h
  obtain ⟨n, hn⟩ : ∃ n, l.length = n := ⟨_, rfl⟩
  rw [hn] at h hbig ⊢
  have HL := hidp h
  have HN := hidp hn
  clear h hn
  by_cases h0 : n = 0
  · have hz : ((n : Int) == 0) = true := by rw [h0]; rfl
    have HF : Hid (wrongC l top = 5) := wrongC_none (by rw [HN.out]; exact h0)
    go_enter Tryd.func25, Tryd.ntmps25
    go_wp2
    go_ret
    exact ⟨by rw [HF.out]; rfl, rfl⟩
  have hz : ((n : Int) == 0) = false := beq_eq_false_iff_ne.2 (by omega)
  by_cases hfull : 40 < n
  · have hz2 : (40 : Int) < (n : Int) := by omega
    have HF : Hid (wrongC l top = 4) := wrongC_full (by rw [HN.out]; exact hfull)
    go_enter Tryd.func25, Tryd.ntmps25
    go_wp2
    go_ret
    exact ⟨by rw [HF.out]; rfl, rfl⟩
  have hz2 : ¬ (40 : Int) < (n : Int) := by omega
  go_enter Tryd.func25, Tryd.ntmps25
  go_wp2
  go_loopg [17] n (fun g vi wr => ∃ (i : Nat), vi = .int .i64 i ∧ i + g = n ∧ w = wr ∧ Hid (∀ (j : Nat) (x : Int), j < i → l[j]? = some x → outC top x = false))
  case atStart => exact ⟨0, rfl, by omega, rfl, (show Hid _ from fun j x hj => by omega)⟩
  case round =>
    obtain ⟨i, rfl, hg, hw, HO⟩ := hrel
    subst hw
    by_cases hlt : i < n
    · have hlz : (i : Int) < (n : Int) := by omega
      obtain ⟨x, hx⟩ : ∃ x, l[i]? = some x := ⟨_, List.getElem?_eq_getElem (by have := HN.out; omega)⟩
      obtain ⟨b1, o1, rfl, _, _, hr1⟩ := HL.out.some (by omega)
      have c0 := hr1.int hx
      have HX := hidp hx
      clear hx hr1
      by_cases hneg : x < 0
      · have hnz : decide (x < 0) = true := decide_eq_true hneg
        have HF : Hid (wrongC l top = 1) := wrongC_range (by have := HN.out; omega) (by have := HN.out; omega) HX.out (by unfold outC; rw [decide_eq_true hneg]; rfl)
        go_wp2
        go_ret
        exact ⟨by rw [HF.out]; rfl, rfl⟩
      · have hnz : decide (x < 0) = false := decide_eq_false hneg
        by_cases htop : top < x
        · have htz : decide (top < x) = true := decide_eq_true htop
          have HF : Hid (wrongC l top = 1) := wrongC_range (by have := HN.out; omega) (by have := HN.out; omega) HX.out (by unfold outC; rw [htz, Bool.or_true])
          go_wp2
          go_ret
          exact ⟨by rw [HF.out]; rfl, rfl⟩
        · have htz : decide (top < x) = false := decide_eq_false htop
          have HF : Hid (outC top x = false) := outC_of (by omega) (by omega)
          go_wp2
          go_roundg (n - (i + 1))
          case measure => omega
          case rel =>
            refine ⟨i + 1, by go_num, by omega, rfl, (show Hid _ from fun j y hj hy => ?_)⟩
            rcases Nat.lt_or_ge j i with z | z
            · exact HO.out j y z hy
            · obtain rfl : j = i := by omega
              rw [HX.out] at hy; cases hy; exact HF.out
    · have hlz : ¬ (i : Int) < (n : Int) := by omega
      have HF : Hid (wrongC l top = 0) := wrongC_ok (by have := HN.out; omega) (by have := HN.out; omega) fun j x hj => HO.out j x (by have := HN.out; have := (List.getElem?_eq_some_iff.1 hj).1; omega) hj
      go_wp2
      go_ret
      exact ⟨by rw [HF.out]; rfl, rfl⟩
#print axioms hcheck_any

/-- Weights and lengths, as numbers. -/
def natL (l : List Int) : List Nat := l.map Int.toNat
/-- How much of the whole lengths take. -/
def roomI (l : List Int) : Nat := roomW 40 (l.map fun n => (0, n.toNat))
theorem roomI_nil : roomI [] = 0 := rfl
theorem roomI_append (a b : List Int) : roomI (a ++ b) = roomI a + roomI b := by
  unfold roomI; rw [List.map_append, roomW_append]
theorem roomI_one (n : Int) : roomI [n] = 2 ^ (40 - n.toNat) := by simp [roomI, roomW]
theorem roomI_take {l : List Int} {i : Nat} {x : Int} (h : l[i]? = some x) : roomI (l.take (i + 1)) = roomI (l.take i) + 2 ^ (40 - x.toNat) := by
  obtain ⟨hi, e⟩ := List.getElem?_eq_some_iff.1 h
  rw [List.take_succ_eq_append_getElem hi, roomI_append, e, roomI_one]
theorem roomI_le (l : List Int) : roomI l ≤ l.length * 1099511627776 := by
  induction l with
  | nil => exact Nat.zero_le _
  | cons a t ih =>
    have e : roomI (a :: t) = 2 ^ (40 - a.toNat) + roomI t := by simp [roomI, roomW]
    have : 2 ^ (40 - a.toNat) ≤ 2 ^ 40 := Nat.pow_le_pow_right (by decide) (by omega)
    rw [e, List.length_cons, Nat.add_mul]
    omega
theorem whole_shr {x : Int} (h0 : 0 ≤ x) (h1 : x ≤ 40) : (1099511627776 : Int) / 2 ^ x.toNat = ((2 ^ (40 - x.toNat) : Nat) : Int) := by
  obtain ⟨k, rfl⟩ : ∃ k : Nat, x = k := ⟨x.toNat, by omega⟩
  have hk : k ≤ 40 := by omega
  rw [Int.toNat_natCast]
  have e : (1099511627776 : Int) = ((2 ^ (40 - k) * 2 ^ k : Nat) : Int) := by
    rw [← Nat.pow_add, show 40 - k + k = 40 by omega]; rfl
  rw [e, Int.natCast_mul]
  have h2 : ((2 ^ k : Nat) : Int) = (2 : Int) ^ k := by simp
  rw [h2]
  exact Int.mul_ediv_cancel _ (by have : (0 : Int) < 2 ^ k := Int.pow_pos (by decide); omega)
/-- Weights with lengths. -/
def zipI (w l : List Int) : List (Nat × Nat) := (natL w).zip (natL l)
theorem zipI_get {w l : List Int} {i : Nat} {a b : Int} (ha : w[i]? = some a) (hb : l[i]? = some b) : (zipI w l)[i]? = some (a.toNat, b.toNat) := by
  unfold zipI natL
  rw [List.getElem?_zip_eq_some]
  exact ⟨by rw [List.getElem?_map, ha]; rfl, by rw [List.getElem?_map, hb]; rfl⟩
theorem zipI_len {w l : List Int} (h : l.length = w.length) : (zipI w l).length = l.length := by
  unfold zipI natL; rw [List.length_zip, List.length_map, List.length_map, h]; exact Nat.min_self _
theorem costW_take {Z : List (Nat × Nat)} {i : Nat} {a b : Nat} (h : Z[i]? = some (a, b)) : costW (Z.take (i + 1)) = costW (Z.take i) + a * b := by
  obtain ⟨hi, e⟩ := List.getElem?_eq_some_iff.1 h
  rw [List.take_succ_eq_append_getElem hi, costW_append, e]
  simp [costW]
/-- What is wrong with weights and lengths. -/
def wrongP (w l : List Int) : Nat := if wrongC w 1000 = 0 then (if l.length = w.length then wrongC l 40 else 3) else wrongC w 1000
theorem wrongP_zero {w l : List Int} (h : wrongP w l = 0) : wrongC w 1000 = 0 ∧ l.length = w.length ∧ wrongC l 40 = 0 := by
  unfold wrongP at h
  by_cases a : wrongC w 1000 = 0
  · rw [if_pos a] at h
    by_cases b : l.length = w.length
    · rw [if_pos b] at h; exact ⟨a, b, h⟩
    · rw [if_neg b] at h; cases h
  · rw [if_neg a] at h; exact absurd h a
theorem wrongP_of {w l : List Int} (a : wrongC w 1000 = 0) (b : l.length = w.length) (c : wrongC l 40 = 0) : wrongP w l = 0 := by
  unfold wrongP; rw [if_pos a, if_pos b, c]
set_option maxHeartbeats 4000000 in
theorem cost_bad {W : World} {vw vl : Value} {w l : List Int} (hw : SlE EZ W vw w) (hl : SlE EZ W vl l) (hbig : w.length ≤ 9223372036854775807) (hbig2 : l.length ≤ 9223372036854775807) (h0 : wrongP w l ≠ 0) :
    Calls Tryd.prog 11 #[vw, vl] W fun e w' => e = .returned (.tuple #[.int .i64 0, .iface 48 (.int .i64 (wrongP w l : Nat))]) ∧ w' = W := by
  obtain ⟨p1, c1, rfl, _⟩ := id hw
  obtain ⟨p2, c2, rfl, _⟩ := id hl
  have CW := hcheck_any _ w 1000 W hw hbig
  have CL := hcheck_any _ l 40 W hl hbig2
  by_cases a : wrongC w 1000 = 0
  · rw [errC_nil a] at CW
    by_cases b : l.length = w.length
    · have e : wrongP w l = wrongC l 40 := by unfold wrongP; rw [if_pos a, if_pos b]
      rw [e] at h0 ⊢
      rw [errC_ne h0] at CL
      rw [b] at CL ⊢
      generalize wrongC l 40 = z at CL ⊢
      generalize w.length = n at CW CL ⊢
      have hne : ((n : Int) != (n : Int)) = false := by simp
      have HW := hidp CW
      have HL := hidp CL
      clear CW CL hw hl hbig hbig2 h0 a b e
      go_enter Tryd.func11, Tryd.ntmps11
      go_wp2_with (first | (go_at_call_of 25 (Value.int .i64 1000); refine HW.out.mono ?_; rintro e w' ⟨rfl, rfl⟩) | (go_at_call 25; refine HL.out.mono ?_; rintro e w' ⟨rfl, rfl⟩))
      go_ret2
      exact ⟨rfl, rfl⟩
    · have e : wrongP w l = 3 := by unfold wrongP; rw [if_pos a, if_neg b]
      rw [e]
      generalize w.length = n at CW b ⊢
      generalize l.length = m at b ⊢
      have hne : ((m : Int) != (n : Int)) = true := bne_iff_ne.2 (by omega)
      have HW := hidp CW
      clear CW CL hw hl hbig hbig2 h0 a b e
      go_enter Tryd.func11, Tryd.ntmps11
      go_wp2_with (go_at_call 25; refine HW.out.mono ?_; rintro e w' ⟨rfl, rfl⟩)
      go_ret2
      exact ⟨rfl, rfl⟩
  · have e : wrongP w l = wrongC w 1000 := by unfold wrongP; rw [if_neg a]
    rw [e]
    rw [errC_ne a] at CW
    generalize wrongC w 1000 = z at CW ⊢
    have HW := hidp CW
    clear CW CL hw hl hbig hbig2 h0 a e
    go_enter Tryd.func11, Tryd.ntmps11
    go_wp2_with (go_at_call 25; refine HW.out.mono ?_; rintro e w' ⟨rfl, rfl⟩)
    go_ret2
    exact ⟨rfl, rfl⟩
set_option maxHeartbeats 4000000 in
theorem cost_ok {W : World} {vw vl : Value} {w l : List Int} (hw : SlE EZ W vw w) (hl : SlE EZ W vl l) (h0 : wrongP w l = 0) :
    Calls Tryd.prog 11 #[vw, vl] W fun e w' => e = .returned (.tuple #[.int .i64 (costW (zipI w l) : Nat), .nilIface]) ∧ w' = W := by
  obtain ⟨p1, c1, rfl, _⟩ := id hw
  obtain ⟨p2, c2, rfl, _⟩ := id hl
  obtain ⟨a, b, c⟩ := wrongP_zero h0
  obtain ⟨_, hw40, hwr⟩ := wrongC_zero a
  obtain ⟨_, hl40, hlr⟩ := wrongC_zero c
  have CW := hcheck_any _ w 1000 W hw (by omega)
  have CL := hcheck_any _ l 40 W hl (by omega)
  rw [errC_nil a] at CW
  rw [errC_nil c] at CL
  obtain ⟨n, hn⟩ : ∃ n, w.length = n := ⟨_, rfl⟩
  rw [hn] at b hw CW hw40 ⊢
  rw [b] at hl CL ⊢
  have hne : ((n : Int) != (n : Int)) = false := by simp
  have HCW := hidp CW
  have HCL := hidp CL
  have HW := hidp hw
  have HL := hidp hl
  have HN := hidp hn
  have HB := hidp b
  have HWR := hidp hwr
  have HLR := hidp hlr
  clear CW CL hw hl h0 a b c hn hwr hlr hl40
  go_enter Tryd.func11, Tryd.ntmps11
  go_wp2_with (first | (go_at_call_of 25 (Value.int .i64 1000); refine HCW.out.mono ?_; rintro e w' ⟨rfl, rfl⟩) | (go_at_call 25; refine HCL.out.mono ?_; rintro e w' ⟨rfl, rfl⟩))
  go_loopg [8, 29] n (fun g vs vi wr => ∃ (i s : Nat), vs = .int .i64 s ∧ vi = .int .i64 i ∧ i + g = n ∧ w' = wr ∧ s ≤ i * 40000 ∧ Hid (s = costW ((zipI w l).take i)))
  case atStart => exact ⟨0, 0, rfl, rfl, by omega, rfl, by omega, (show Hid _ from rfl)⟩
  case round =>
    obtain ⟨i, s, rfl, rfl, hg, hw, hs, HS⟩ := hrel
    subst hw
    by_cases hlt : i < n
    · have hlz : (i : Int) < (n : Int) := by omega
      obtain ⟨x, hx⟩ : ∃ x, w[i]? = some x := ⟨_, List.getElem?_eq_getElem (by have := HN.out; omega)⟩
      obtain ⟨y, hy⟩ : ∃ y, l[i]? = some y := ⟨_, List.getElem?_eq_getElem (by have := HB.out; omega)⟩
      obtain ⟨x0, x1⟩ := HWR.out x (List.mem_of_getElem? hx)
      obtain ⟨y0, y1⟩ := HLR.out y (List.mem_of_getElem? hy)
      obtain ⟨b1, o1, rfl, _, _, hr1⟩ := HW.out.some (by omega)
      obtain ⟨b2, o2, rfl, _, _, hr2⟩ := HL.out.some (by omega)
      have HT := hidp (costW_take (zipI_get hx hy))
      obtain ⟨a, rfl⟩ : ∃ a : Nat, x = a := ⟨x.toNat, by omega⟩
      obtain ⟨b, rfl⟩ : ∃ b : Nat, y = b := ⟨y.toNat, by omega⟩
      have ca := hr1.int hx
      have cb := hr2.int hy
      obtain ⟨q, hq⟩ : ∃ q, a * b = q := ⟨_, rfl⟩
      have hq1 : q ≤ 40000 := by rw [← hq]; exact Nat.mul_le_mul (show a ≤ 1000 by omega) (show b ≤ 40 by omega)
      have hm : (b : Int) * (a : Int) = (q : Int) := by rw [← hq, Nat.mul_comm]; simp
      have hwm : IntKind.i64.wrap ((b : Int) * (a : Int)) = (q : Int) := by rw [hm, IntKind.wrap_i64]; omega
      have hws : IntKind.i64.wrap ((s : Int) + (q : Int)) = (s : Int) + (q : Int) := by rw [IntKind.wrap_i64]; omega
      have HQ : Hid (((a : Int).toNat) * ((b : Int).toNat) = q) := by show _ = _; simpa using hq
      clear hx hy hr1 hr2 hq hm
      go_wp2
      go_roundg (n - (i + 1))
      case measure => omega
      case rel =>
        refine ⟨i + 1, s + q, by go_num, by go_num, by omega, rfl, by omega, (show Hid _ from ?_)⟩
        show _ = _
        rw [HT.out, ← HS.out, HQ.out]
    · have hlz : ¬ (i : Int) < (n : Int) := by omega
      have HT : Hid (s = costW (zipI w l)) := by
        have := HS.out
        rw [List.take_of_length_le (by rw [zipI_len (by rw [HB.out, HN.out]), HB.out]; omega)] at this
        exact this
      go_wp2
      go_ret2
      exact ⟨by show Ending.returned (.tuple #[.int .i64 (s : Nat), .nilIface]) = _; rw [HT.out], rfl⟩
#print axioms cost_ok
#print axioms cost_bad
end Go.Proofs.YtlaeaeciomkababDoor
