/-
  A number as its digits: strconv.FormatInt at base 2, and package code's digits.
-/
import Derived.Test.YtlaeaeciomkababDoorElB
import Derived.Test.YtlaeaeciomkababDoorShelf
import Derived.Test.YtlaeaeciomkababDoorHide
import Derived.Test.YtlaeaeciomkababDoorRd
import Derived.Test.YtlaeaeciomkababDoorCoMath
namespace Go.Proofs.YtlaeaeciomkababDoor
open Go.RowKit Go.Sort Go.Proofs

/-- The table that math/bits looks into for how many noughts stand at a number's end: the place for 2. -/
def Tz (w : World) : Prop := 6 < w.heap.size ∧ w.cell? ⟨6, 1, none⟩ = some (.int .u8 1)
theorem Tz.below {w w' : World} (h : Tz w) (hb : Below w.heap.size w w') : Tz w' :=
  ⟨Nat.lt_of_lt_of_le h.1 hb.size, (hb.cell (p := ⟨6, 1, none⟩) h.1).trans h.2⟩
theorem tz_two (w : World) (h : Tz w) : Calls Tryd.prog 112 #[.int .u64 2] w fun e w' => e = .returned (.int .i64 1) ∧ w' = w := by
  have hc := h.2
  have e1 : bits .and .u64 2 18446744073709551614 = 2 := by kernel_rfl
  have e2 : IntKind.u64.wrap (-2) = 18446744073709551614 := by kernel_rfl
  have e3 : IntKind.u64.wrap (2 * 285870213051353865) = 571740426102707730 := by kernel_rfl
  have e4 : (571740426102707730 : Int) / 2 ^ (58 : Int).toNat = 1 := by kernel_rfl
  go_enter Tryd.func112, Tryd.ntmps112
  go_wp2
  go_ret
  exact ⟨rfl, rfl⟩
/-- The character of a digit. -/
def dg (b : Nat) : UInt8 := if b = 0 then 48 else 49
theorem bits_one {u : Nat} (h : u < 18446744073709551616) : bits .and .u64 (u : Int) 1 = ((u % 2 : Nat) : Int) := by
  have := u64_and_nat u 1 h (by decide)
  rw [Nat.and_one_is_mod] at this
  exact this
set_option maxHeartbeats 16000000 in
set_option maxRecDepth 100000 in
theorem formatBits_two (v : Nat) (hv : v < 1048576) (w : World) (h : Tz w) :
    Calls Tryd.prog 102 #[.slice none 0 0, .int .u64 v, .int .i64 2, .bool false, .bool false] w fun e w' => e = .returned (.tuple #[.slice none 0 0, .string ⟨(minB v).toArray⟩]) ∧ Below w.heap.size w w' := by
  have e1 : bits .and .i64 2 1 = 0 := by kernel_rfl
  have TZ := hidp (fun o : Obj => tz_two (w.alloc o) (h.below ((Below.refl _ w).alloc (Nat.le_refl _) _)))
  have hv2 : v < 2 ^ (19 + 1) := hv
  have HV := hidp hv2
  clear h hv hv2
  go_enter Tryd.func102, Tryd.ntmps102
  go_wp2_with (first | (go_at_call 112; refine (TZ.out _).mono ?_; rintro e w' ⟨rfl, rfl⟩) | go_in)
  have Z0 : WrE EB (w.alloc (.cells Tryd.zeroCells184 184)) w.heap.size 0 (List.replicate 65 0) := new_bytes w (List.replicate 65 0) 184
  have HZ := hidp Z0
  have HB0 : Hid (Below w.heap.size w (w.alloc (.cells Tryd.zeroCells184 184))) := (Below.refl _ w).alloc (Nat.le_refl _) _
  clear Z0
  generalize w.alloc (.cells Tryd.zeroCells184 184) = W0 at HZ HB0 ⊢
  obtain ⟨b, hb⟩ : ∃ b, w.heap.size = b := ⟨_, rfl⟩
  rw [hb] at HZ HB0
  have HBB := hidp hb
  rw [hb]
  clear hb
  go_loopg [1, 13] 19 (fun g v1 v13 wr => ∃ (u i : Nat) (d : List UInt8), v1 = .int .u64 u ∧ v13 = .int .i64 i ∧ 46 + g ≤ i ∧ i ≤ 65 ∧ u < 1048576 ∧ Hid (u < 2 ^ (g + 1) ∧ d.length = 65 ∧ minB v = minB u ++ d.drop i) ∧ Hid (WrE EB wr b 0 d) ∧ Hid (Below b w wr))
  case atStart => exact ⟨v, 65, List.replicate 65 0, rfl, rfl, by omega, by omega, by have := HV.out; simpa using this, (show Hid _ from ⟨HV.out, by simp, by simp⟩), HZ, HB0⟩
  case round =>
    obtain ⟨u, i, d, rfl, rfl, hi, hi65, hu, HU, HW, HB⟩ := hrel
    obtain ⟨m, hm⟩ : ∃ m, i = m + 1 := ⟨i - 1, by omega⟩
    subst hm
    have hmw : wrap64 (m : Int) = (m : Int) := by unfold wrap64; omega
    have hm65 : (m : Int) < 65 := by omega
    have hmd : m < d.length := by have := HU.out.2.1; omega
    obtain ⟨x0, hx0⟩ : ∃ x, d[m]? = some x := ⟨_, List.getElem?_eq_getElem hmd⟩
    obtain ⟨c0, f0⟩ := HW.out.byte hx0
    have HD := hidp hmd
    clear hmd hx0
    by_cases h2 : u < 2
    · have hz : (u : Int) < 2 := by omega
      have hz2 : ¬ (2 : Int) ≤ (u : Int) := by omega
      have HMB := hidp (minB_lt h2)
      have HF : ∀ y : UInt8, Hid (y :: d.drop (m + 1) = (d.set m y).drop m) := fun y => by
        show _ = _
        have := HD.out
        have hl : m < (d.set m y).length := by rw [List.length_set]; exact this
        rw [List.drop_eq_getElem_cons hl, List.getElem_set_self, List.drop_set_of_lt (Nat.lt_succ_self m)]
      have hx0 : ({ data := #[48, 49, 50, 51, 52, 53, 54, 55, 56, 57, 97, 98, 99, 100, 101, 102, 103, 104, 105, 106, 107, 108, 109, 110, 111, 112, 113, 114, 115, 116, 117, 118, 119, 120, 121, 122] } : ByteArray)[0].toNat = 48 := rfl
      have hx1 : ({ data := #[48, 49, 50, 51, 52, 53, 54, 55, 56, 57, 97, 98, 99, 100, 101, 102, 103, 104, 105, 106, 107, 108, 109, 110, 111, 112, 113, 114, 115, 116, 117, 118, 119, 120, 121, 122] } : ByteArray)[1].toNat = 49 := rfl
      have hal : Tryd.prog.arrayLen 184 = 65 := by kernel_rfl
      have hsl : ∀ W, (Instr.sliceAt 184 (.pointer (some ⟨b, 0, none⟩)) (some (.int .i64 m)) none none).run Tryd.prog W = .ok (.slice (some ⟨b, m, none⟩) (65 - m) (65 - m)) W := fun W => by
        rw [run_sliceAt_array_l W 184 ⟨b, 0, none⟩ (by kernel_rfl) .i64 m (by omega) (by rw [hal]; omega)]
        go_simp
        omega
      have hcv : ∀ y : UInt8, (convert 51 9 (.slice (some ⟨b, m, none⟩) (65 - m) (65 - m))).run Tryd.prog (wr.setCell ⟨b, m, none⟩ (.int .u8 y.toNat)) = .ok (.string ⟨(y :: d.drop (m + 1)).toArray⟩) (wr.setCell ⟨b, m, none⟩ (.int .u8 y.toNat)) := fun y => by
        have := conv_row (cap := 65 - m) ((HW.out.setByte HD.out y rfl).tail m)
        rw [← (HF y).out, show (y :: d.drop (m + 1)).length = 65 - m by rw [List.length_cons, List.length_drop, HU.out.2.1]; omega] at this
        exact this
      have hu01 : u = 0 ∨ u = 1 := by omega
      rcases hu01 with rfl | rfl
      · have hcv : (convert 51 9 (.slice (some ⟨b, m, none⟩) (65 - m) (65 - m))).run Tryd.prog (wr.setCell ⟨b, m, none⟩ (.int .u8 48)) = .ok (.string ⟨(48 :: d.drop (m + 1)).toArray⟩) (wr.setCell ⟨b, m, none⟩ (.int .u8 48)) := hcv 48
        have HE : Hid (minB v = 48 :: d.drop (m + 1)) := by
          show _ = _
          rw [HU.out.2.2, HMB.out]; rfl
        have HB2 := hidp (HB.out.setCell (p := ⟨b, m, none⟩) (Nat.le_refl _) (.int .u8 48))
        clear hx0 hx1 hal HF
        go_wp2
        go_ret2
        exact ⟨by rw [HE.out]; rfl, by rw [HBB.out]; exact HB2.out⟩
      · have hcv : (convert 51 9 (.slice (some ⟨b, m, none⟩) (65 - m) (65 - m))).run Tryd.prog (wr.setCell ⟨b, m, none⟩ (.int .u8 49)) = .ok (.string ⟨(49 :: d.drop (m + 1)).toArray⟩) (wr.setCell ⟨b, m, none⟩ (.int .u8 49)) := hcv 49
        have HE : Hid (minB v = 49 :: d.drop (m + 1)) := by
          show _ = _
          rw [HU.out.2.2, HMB.out]; rfl
        have HB2 := hidp (HB.out.setCell (p := ⟨b, m, none⟩) (Nat.le_refl _) (.int .u8 49))
        clear hx0 hx1 hal HF
        go_wp2
        go_ret2
        exact ⟨by rw [HE.out]; rfl, by rw [HBB.out]; exact HB2.out⟩
    · have hz : ¬ (u : Int) < 2 := by omega
      have hz2 : (2 : Int) ≤ (u : Int) := by omega
      have hg1 : 1 ≤ gk := by
        rcases Nat.eq_zero_or_pos gk with e | e
        · have := HU.out.1; rw [e] at this; simp at this; omega
        · exact e
      have HMB := hidp (minB_ge h2)
      have hbo := bits_one (u := u) (by omega)
      have h01 : u % 2 = 0 ∨ u % 2 = 1 := by omega
      rcases h01 with h01 | h01
      · rw [h01] at hbo
        go_wp2
        go_roundg (gk - 1)
        case measure => omega
        case rel =>
          refine ⟨u / 2, m, d.set m 48, by go_num, by go_num, by omega, by omega, by omega, (show Hid _ from ⟨?_, by rw [List.length_set]; exact HU.out.2.1, ?_⟩), (show Hid _ from HW.out.setByte HD.out 48 rfl), (show Hid _ from HB.out.setCell (Nat.le_refl _) _)⟩
          · have := HU.out.1
            rw [show gk - 1 + 1 = gk by omega]
            rw [Nat.pow_succ] at this
            omega
          · have hl : m < (d.set m 48).length := by rw [List.length_set]; exact HD.out
            rw [HU.out.2.2, HMB.out, List.append_assoc, List.drop_eq_getElem_cons hl, List.getElem_set_self, List.drop_set_of_lt (Nat.lt_succ_self m)]
            have e : (if u % 2 = 0 then (48 : UInt8) else 49) = 48 := by rw [h01]; rfl
            rw [e]; rfl
      · rw [h01] at hbo
        go_wp2
        go_roundg (gk - 1)
        case measure => omega
        case rel =>
          refine ⟨u / 2, m, d.set m 49, by go_num, by go_num, by omega, by omega, by omega, (show Hid _ from ⟨?_, by rw [List.length_set]; exact HU.out.2.1, ?_⟩), (show Hid _ from HW.out.setByte HD.out 49 rfl), (show Hid _ from HB.out.setCell (Nat.le_refl _) _)⟩
          · have := HU.out.1
            rw [show gk - 1 + 1 = gk by omega]
            rw [Nat.pow_succ] at this
            omega
          · have hl : m < (d.set m 49).length := by rw [List.length_set]; exact HD.out
            rw [HU.out.2.2, HMB.out, List.append_assoc, List.drop_eq_getElem_cons hl, List.getElem_set_self, List.drop_set_of_lt (Nat.lt_succ_self m)]
            have e : (if u % 2 = 0 then (48 : UInt8) else 49) = 49 := by rw [h01]; rfl
            rw [e]; rfl
#print axioms formatBits_two
theorem fmt_in (v : Nat) (hv : v < 1048576) (w : World) (h : Tz w) :
    Calls Tryd.prog 86 #[.int .i64 v, .int .i64 2] w fun e w' => e = .returned (.string ⟨(minB v).toArray⟩) ∧ Below w.heap.size w w' := by
  have C := hidp (formatBits_two v hv w h)
  have hw : IntKind.u64.wrap (v : Int) = (v : Int) := by rw [IntKind.wrap_u64]; omega
  have hn : ¬ (v : Int) < 0 := by omega
  clear h hv
  go_enter Tryd.func86, Tryd.ntmps86
  go_wp2_with (go_at_call 102; refine C.out.mono ?_; rintro e w' ⟨rfl, hb⟩)
  go_ret
  exact ⟨rfl, hb⟩
theorem fmt_two (v : Nat) (hv : v < 1048576) (w : World) (h : Tz w) :
    Calls Tryd.prog 69 #[.int .i64 v, .int .i64 2] w fun e w' => e = .returned (.string ⟨(minB v).toArray⟩) ∧ Below w.heap.size w w' := by
  have C := hidp (fmt_in v hv w h)
  clear h hv
  go_enter Tryd.func69, Tryd.ntmps69
  go_wp2_with (go_at_call 86; refine C.out.mono ?_; rintro e w' ⟨rfl, hb⟩)
  go_ret
  exact ⟨rfl, hb⟩
theorem repeat_zero : ∀ n, Lib.repeatL [48] n = List.replicate n 48
  | 0 => rfl
  | n + 1 => by rw [Lib.repeatL, repeat_zero n]; rfl
theorem bytes_append (a b : List UInt8) : (⟨a.toArray⟩ : ByteArray) ++ (⟨b.toArray⟩ : ByteArray) = ⟨(a ++ b).toArray⟩ := by
  apply ByteArray.ext
  simp
set_option maxRecDepth 100000 in
/-- A number as so many bits. -/
theorem digits_any (v n : Nat) (hn : n ≤ 20) (hn0 : 1 ≤ n) (hv : v < 2 ^ n) (w : World) (h : Tz w) :
    Calls Tryd.prog 46 #[.int .i64 v, .int .i64 n] w fun e w' => e = .returned (.string ⟨(bitsU n v).toArray⟩) ∧ Below w.heap.size w w' := by
  have hm : (minB v).length ≤ n ∧ List.replicate (n - (minB v).length) 48 ++ minB v = bitsU n v := by
    obtain ⟨k, rfl⟩ : ∃ k, n = k + 1 := ⟨n - 1, by omega⟩
    exact minB_bits k v hv
  have hv2 : v < 1048576 := Nat.lt_of_lt_of_le hv (Nat.pow_le_pow_right (n := 2) (by decide) hn)
  have c := fmt_two v hv2 w h
  obtain ⟨L, hL⟩ : ∃ L, minB v = L := ⟨_, rfl⟩
  obtain ⟨m, hlen⟩ : ∃ m, L.length = m := ⟨_, rfl⟩
  rw [hL] at hm c
  rw [hlen] at hm
  have hsz : (⟨L.toArray⟩ : ByteArray).size = m := by show L.toArray.size = m; simpa using hlen
  obtain ⟨d, hd⟩ : ∃ d, n - m = d := ⟨_, rfl⟩
  have hmk := hm.1
  have hkm : wrap64 ((n : Int) - (m : Int)) = (d : Int) := by unfold wrap64; omega
  have hkm2 : (n : Int) - (m : Int) = (d : Int) := by omega
  have r := fun W => Tryd.strings_Repeat ⟨#[48]⟩ d W (by omega) (by show 1 * _ ≤ _; omega)
  have hr : (⟨(Lib.repeatL [48] d).toArray⟩ : ByteArray) ++ (⟨L.toArray⟩ : ByteArray) = ⟨(bitsU n v).toArray⟩ := by
    rw [repeat_zero, ← hm.2, hd, bytes_append]
  have r2 : ∀ W, Calls Tryd.prog 70 #[.string ⟨#[48]⟩, .int .i64 d] W fun e w' => e = .returned (.string ⟨(Lib.repeatL [48] d).toArray⟩) ∧ Below W.heap.size W w' := r
  have hts : (⟨(Lib.repeatL [48] d).toArray⟩ : ByteArray).size = d := by
    show (Lib.repeatL [48] d).toArray.size = d
    rw [List.size_toArray, repeat_zero, List.length_replicate]
  generalize (⟨L.toArray⟩ : ByteArray) = S at hsz hr c
  generalize (⟨(Lib.repeatL [48] d).toArray⟩ : ByteArray) = T at hr r2 hts
  have C := hidp c
  have R := hidp r2
  have HE := hidp hr
  clear h hv hv2 hm hL hlen c r r2 hr hd
  go_enter Tryd.func46, Tryd.ntmps46
  go_wp2_with (first | (go_at_call 69; refine C.out.mono ?_; rintro e w1 ⟨rfl, hb1⟩; have HB1 := hidp hb1; clear hb1) | (go_at_call 70; refine (R.out _).mono ?_; rintro e w2 ⟨rfl, hb2⟩; have HB2 := hidp hb2; clear hb2))
  go_ret
  exact ⟨by rw [HE.out]; rfl, HB1.out.trans (HB2.out.mono HB1.out.size)⟩
#print axioms digits_any
end Go.Proofs.YtlaeaeciomkababDoor
