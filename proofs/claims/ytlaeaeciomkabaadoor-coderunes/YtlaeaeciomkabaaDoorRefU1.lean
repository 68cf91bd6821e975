/-
  The document's between; how long the rune is that a text begins with.
-/
import Derived.Test.YtlaeaeciomkabaaDoorUDoc
import Derived.Test.YtlaeaeciomkabaaDoorElB
import Derived.Test.YtlaeaeciomkabaaDoorHide
namespace Go.Proofs.YtlaeaeciomkabaaDoor
open Go.RowKit Go.Proofs

def btw (c lo hi : Int) : Bool := decide (lo ≤ c ∧ c ≤ hi)
theorem btw_t {c lo hi : Int} (h : lo ≤ c ∧ c ≤ hi) : btw c lo hi = true := decide_eq_true h
theorem btw_f {c lo hi : Int} (h : ¬ (lo ≤ c ∧ c ≤ hi)) : btw c lo hi = false := decide_eq_false h
theorem between_any (c lo hi : Int) (w : World) : Calls Tryd.prog 42 #[.int .u8 c, .int .u8 lo, .int .u8 hi] w fun e w' => e = .returned (.bool (btw c lo hi)) ∧ w = w' := by
  by_cases h0 : lo ≤ c
  · by_cases h1 : c ≤ hi
    · rw [btw_t ⟨h0, h1⟩]
      go_enter Tryd.func42, Tryd.ntmps42
      go_wp2
      go_ret
      exact ⟨rfl, rfl⟩
    · rw [btw_f (fun q => h1 q.2)]
      go_enter Tryd.func42, Tryd.ntmps42
      go_wp2
      go_ret
      exact ⟨rfl, rfl⟩
  · rw [btw_f (fun q => h0 q.1)]
    go_enter Tryd.func42, Tryd.ntmps42
    go_wp2
    go_ret
    exact ⟨rfl, rfl⟩
theorem byte_at {T : ByteArray} {i : Nat} (h : i < T.size) : (T[i]'h).toNat = bAt T.data.toList i := by
  rw [← get_bang, Utf8W.get!_of_lt T i h]
set_option maxHeartbeats 16000000 in
set_option maxRecDepth 20000 in
theorem long_A {w : World} {T : ByteArray} {a b0 b1 b2 b3 : Nat} (ha : T.size = a) (h1 : 1 ≤ a) (e0 : bAt T.data.toList 0 = b0) (_ : bAt T.data.toList 1 = b1) (_ : bAt T.data.toList 2 = b2) (_ : bAt T.data.toList 3 = b3) (hc : b0 < 128) :
    Calls Tryd.prog 33 #[.string T] w fun e w' => e = .returned (.int .i64 (longN a b0 b1 b2 b3 : Nat)) ∧ w' = w := by
  have h0s : 0 < T.size := by rw [ha]; exact h1
  have hb0 : (T[0]'h0s).toNat = b0 := (byte_at h0s).trans e0
  have HL : Hid (longN a b0 b1 b2 b3 = 1) := by show _ = _; unfold longN; rw [if_pos hc]
  have hz : (b0 : Int) < 128 := by omega
  clear e0
  go_enter Tryd.func33, Tryd.ntmps33
  go_wp2_with (go_at_call 42; refine (between_any _ _ _ _).mono ?_; rintro e w2 ⟨rfl, rfl⟩)
  go_ret
  exact ⟨by rw [show longN a b0 b1 b2 b3 = 1 from HL.out]; rfl, rfl⟩
set_option maxHeartbeats 16000000 in
set_option maxRecDepth 20000 in
theorem long_B {w : World} {T : ByteArray} {a b0 b1 b2 b3 : Nat} (ha : T.size = a) (h1 : 1 ≤ a) (e0 : bAt T.data.toList 0 = b0) (_ : bAt T.data.toList 1 = b1) (_ : bAt T.data.toList 2 = b2) (_ : bAt T.data.toList 3 = b3) (hc : 128 ≤ b0 ∧ b0 < 194) :
    Calls Tryd.prog 33 #[.string T] w fun e w' => e = .returned (.int .i64 (longN a b0 b1 b2 b3 : Nat)) ∧ w' = w := by
  have h0s : 0 < T.size := by rw [ha]; exact h1
  have hb0 : (T[0]'h0s).toNat = b0 := (byte_at h0s).trans e0
  have HL : Hid (longN a b0 b1 b2 b3 = 0) := long_none (by omega) (by omega)
  have hz : ¬ (b0 : Int) < 128 := by omega
  have d0 : btw (b0 : Int) 194 223 = false := btw_f (by omega)
  have d1 : btw (b0 : Int) 224 239 = false := btw_f (by omega)
  have d2 : btw (b0 : Int) 240 244 = false := btw_f (by omega)
  clear e0 hc
  go_enter Tryd.func33, Tryd.ntmps33
  go_wp2_with (go_at_call 42; refine (between_any _ _ _ _).mono ?_; rintro e w2 ⟨rfl, rfl⟩)
  go_ret
  exact ⟨by rw [show longN a b0 b1 b2 b3 = 0 from HL.out]; rfl, rfl⟩
set_option maxHeartbeats 16000000 in
set_option maxRecDepth 20000 in
theorem long_I {w : World} {T : ByteArray} {a b0 b1 b2 b3 : Nat} (ha : T.size = a) (h1 : 1 ≤ a) (e0 : bAt T.data.toList 0 = b0) (_ : bAt T.data.toList 1 = b1) (_ : bAt T.data.toList 2 = b2) (_ : bAt T.data.toList 3 = b3) (hc : 244 < b0) :
    Calls Tryd.prog 33 #[.string T] w fun e w' => e = .returned (.int .i64 (longN a b0 b1 b2 b3 : Nat)) ∧ w' = w := by
  have h0s : 0 < T.size := by rw [ha]; exact h1
  have hb0 : (T[0]'h0s).toNat = b0 := (byte_at h0s).trans e0
  have HL : Hid (longN a b0 b1 b2 b3 = 0) := long_none (by omega) (by omega)
  have hz : ¬ (b0 : Int) < 128 := by omega
  have d0 : btw (b0 : Int) 194 223 = false := btw_f (by omega)
  have d1 : btw (b0 : Int) 224 239 = false := btw_f (by omega)
  have d2 : btw (b0 : Int) 240 244 = false := btw_f (by omega)
  clear e0 hc
  go_enter Tryd.func33, Tryd.ntmps33
  go_wp2_with (go_at_call 42; refine (between_any _ _ _ _).mono ?_; rintro e w2 ⟨rfl, rfl⟩)
  go_ret
  exact ⟨by rw [show longN a b0 b1 b2 b3 = 0 from HL.out]; rfl, rfl⟩
set_option maxHeartbeats 16000000 in
set_option maxRecDepth 20000 in
theorem long_C {w : World} {T : ByteArray} {a b0 b1 b2 b3 : Nat} (ha : T.size = a) (h1 : 1 ≤ a) (e0 : bAt T.data.toList 0 = b0) (e1 : bAt T.data.toList 1 = b1) (_ : bAt T.data.toList 2 = b2) (_ : bAt T.data.toList 3 = b3) (hc : 194 ≤ b0 ∧ b0 ≤ 223) :
    Calls Tryd.prog 33 #[.string T] w fun e w' => e = .returned (.int .i64 (longN a b0 b1 b2 b3 : Nat)) ∧ w' = w := by
  have h0s : 0 < T.size := by rw [ha]; exact h1
  have hb0 : (T[0]'h0s).toNat = b0 := (byte_at h0s).trans e0
  have hform := long_two (n := a) (b0 := b0) (b1 := b1) (b2 := b2) (b3 := b3) (by omega) (by omega)
  have HF := hidp hform
  have hz : ¬ (b0 : Int) < 128 := by omega
  have d0 : btw (b0 : Int) 194 223 = true := btw_t (by omega)
  clear hform
  by_cases hn : a < 2
  · have hnz : (a : Int) < 2 := by omega
    have HL : Hid (longN a b0 b1 b2 b3 = 0) := by show _ = _; rw [HF.out, if_pos (Or.inl hn)]
    clear e0 e1 hc
    go_enter Tryd.func33, Tryd.ntmps33
    go_wp2_with (go_at_call 42; refine (between_any _ _ _ _).mono ?_; rintro e w2 ⟨rfl, rfl⟩)
    go_ret
    exact ⟨by rw [show longN a b0 b1 b2 b3 = 0 from HL.out]; rfl, rfl⟩
  · have hnz : ¬ (a : Int) < 2 := by omega
    have h1s : 1 < T.size := by rw [ha]; omega
    have hb1 : (T[1]'h1s).toNat = b1 := (byte_at h1s).trans e1
    clear e0 e1
    by_cases hk1 : 128 ≤ b1 ∧ b1 ≤ 191
    · have k1 : btw (b1 : Int) 128 191 = true := btw_t (by omega)
      clear hc
      go_enter Tryd.func33, Tryd.ntmps33
      go_wp2_with (go_at_call 42; refine (between_any _ _ _ _).mono ?_; rintro e w2 ⟨rfl, rfl⟩)
      go_loopg [7] 0 (fun gh vi wr => ∃ i : Nat, vi = .int .i64 i ∧ i + gh = 2 ∧ 2 ≤ i ∧ w = wr)
      case atStart => exact ⟨2, rfl, by omega, by omega, rfl⟩
      case round =>
        obtain ⟨i, rfl, hg, hi2, hw⟩ := hrel
        subst hw
        rcases (show i = 2 by omega) with rfl
        ·
          have HL : Hid (longN a b0 b1 b2 b3 = 2) := by show _ = _; rw [HF.out, if_neg (by omega)]
          go_wp2_with (go_at_call 42; refine (between_any _ _ _ _).mono ?_; rintro e w2 ⟨rfl, rfl⟩)
          go_ret
          exact ⟨by rw [show longN a b0 b1 b2 b3 = 2 from HL.out]; rfl, rfl⟩
    · have k1 : btw (b1 : Int) 128 191 = false := btw_f (by omega)
      have HL : Hid (longN a b0 b1 b2 b3 = 0) := by show _ = _; rw [HF.out, if_pos (by omega)]
      clear hc hk1
      go_enter Tryd.func33, Tryd.ntmps33
      go_wp2_with (go_at_call 42; refine (between_any _ _ _ _).mono ?_; rintro e w2 ⟨rfl, rfl⟩)
      go_ret
      exact ⟨by rw [show longN a b0 b1 b2 b3 = 0 from HL.out]; rfl, rfl⟩
set_option maxHeartbeats 16000000 in
set_option maxRecDepth 20000 in
theorem long_D {w : World} {T : ByteArray} {a b0 b1 b2 b3 : Nat} (ha : T.size = a) (h1 : 1 ≤ a) (e0 : bAt T.data.toList 0 = b0) (e1 : bAt T.data.toList 1 = b1) (e2 : bAt T.data.toList 2 = b2) (_ : bAt T.data.toList 3 = b3) (hc : b0 = 224) :
    Calls Tryd.prog 33 #[.string T] w fun e w' => e = .returned (.int .i64 (longN a b0 b1 b2 b3 : Nat)) ∧ w' = w := by
  have h0s : 0 < T.size := by rw [ha]; exact h1
  have hb0 : (T[0]'h0s).toNat = b0 := (byte_at h0s).trans e0
  have hlo : lowN b0 = 160 := by
    unfold lowN
    repeat' split
    all_goals omega
  have hhi : highN b0 = 191 := by
    unfold highN
    repeat' split
    all_goals omega
  have hform := long_three (n := a) (b1 := b1) (b2 := b2) (b3 := b3) (by omega) (by omega) hlo hhi
  have HF := hidp hform
  have hz : ¬ (b0 : Int) < 128 := by omega
  have d0 : btw (b0 : Int) 194 223 = false := btw_f (by omega)
  have d1 : btw (b0 : Int) 224 239 = true := btw_t (by omega)
  have q237 : ((b0 : Int) == 237) = false := beq_eq_false_iff_ne.2 (by omega)
  have qb : ((b0 : Int) == 224) = true := beq_iff_eq.2 (by omega)
  clear hform hlo hhi
  by_cases hn : a < 3
  · have hnz : (a : Int) < 3 := by omega
    have HL : Hid (longN a b0 b1 b2 b3 = 0) := by show _ = _; rw [HF.out, if_pos (Or.inl hn)]
    clear e0 e1 e2 hc
    go_enter Tryd.func33, Tryd.ntmps33
    go_wp2_with (go_at_call 42; refine (between_any _ _ _ _).mono ?_; rintro e w2 ⟨rfl, rfl⟩)
    go_ret
    exact ⟨by rw [show longN a b0 b1 b2 b3 = 0 from HL.out]; rfl, rfl⟩
  · have hnz : ¬ (a : Int) < 3 := by omega
    have h1s : 1 < T.size := by rw [ha]; omega
    have hb1 : (T[1]'h1s).toNat = b1 := (byte_at h1s).trans e1
    have h2s : 2 < T.size := by rw [ha]; omega
    have hb2 : (T[2]'h2s).toNat = b2 := (byte_at h2s).trans e2
    clear e0 e1 e2
    by_cases hk1 : 160 ≤ b1 ∧ b1 ≤ 191
    · have k1 : btw (b1 : Int) 160 191 = true := btw_t (by omega)
      obtain ⟨o2, ho2⟩ : ∃ o, btw (b2 : Int) 128 191 = o := ⟨_, rfl⟩
      clear hc
      go_enter Tryd.func33, Tryd.ntmps33
      go_wp2_with (go_at_call 42; refine (between_any _ _ _ _).mono ?_; rintro e w2 ⟨rfl, rfl⟩)
      go_loopg [7] 1 (fun gh vi wr => ∃ i : Nat, vi = .int .i64 i ∧ i + gh = 3 ∧ 2 ≤ i ∧ w = wr ∧ Hid (2 < i → o2 = true))
      case atStart => exact ⟨2, rfl, by omega, by omega, rfl, (show Hid _ from fun q => by omega)⟩
      case round =>
        obtain ⟨i, rfl, hg, hi2, hw, HO2⟩ := hrel
        subst hw
        rcases (show i = 2 ∨ i = 3 by omega) with rfl | rfl
        · by_cases hoj : o2 = true
          · subst hoj
            go_wp2_with (go_at_call 42; refine (between_any _ _ _ _).mono ?_; rintro e w2 ⟨rfl, rfl⟩)
            go_roundg (gk - 1)
            case measure => omega
            case rel => exact ⟨3, rfl, by omega, by omega, rfl, (show Hid _ from fun _ => by first | rfl | trivial)⟩
          · have hoj : o2 = false := by simpa using hoj
            have hbad : ¬ (128 ≤ b2 ∧ b2 ≤ 191) := fun q => by have := ho2.symm.trans (btw_t (c := (b2 : Int)) (lo := 128) (hi := 191) (by omega)); rw [hoj] at this; cases this
            have HL : Hid (longN a b0 b1 b2 b3 = 0) := by show _ = _; rw [HF.out, if_pos (by omega)]
            subst hoj
            clear hbad
            go_wp2_with (go_at_call 42; refine (between_any _ _ _ _).mono ?_; rintro e w2 ⟨rfl, rfl⟩)
            go_ret
            exact ⟨by rw [show longN a b0 b1 b2 b3 = 0 from HL.out]; rfl, rfl⟩
        ·
          have g2 : 128 ≤ b2 ∧ b2 ≤ 191 := by have := ho2.trans (HO2.out (by omega)); unfold btw at this; have := of_decide_eq_true this; omega
          have HL : Hid (longN a b0 b1 b2 b3 = 3) := by show _ = _; rw [HF.out, if_neg (by omega)]
          go_wp2_with (go_at_call 42; refine (between_any _ _ _ _).mono ?_; rintro e w2 ⟨rfl, rfl⟩)
          go_ret
          exact ⟨by rw [show longN a b0 b1 b2 b3 = 3 from HL.out]; rfl, rfl⟩
    · have k1 : btw (b1 : Int) 160 191 = false := btw_f (by omega)
      have HL : Hid (longN a b0 b1 b2 b3 = 0) := by show _ = _; rw [HF.out, if_pos (by omega)]
      clear hc hk1
      go_enter Tryd.func33, Tryd.ntmps33
      go_wp2_with (go_at_call 42; refine (between_any _ _ _ _).mono ?_; rintro e w2 ⟨rfl, rfl⟩)
      go_ret
      exact ⟨by rw [show longN a b0 b1 b2 b3 = 0 from HL.out]; rfl, rfl⟩
set_option maxHeartbeats 16000000 in
set_option maxRecDepth 20000 in
theorem long_E {w : World} {T : ByteArray} {a b0 b1 b2 b3 : Nat} (ha : T.size = a) (h1 : 1 ≤ a) (e0 : bAt T.data.toList 0 = b0) (e1 : bAt T.data.toList 1 = b1) (e2 : bAt T.data.toList 2 = b2) (_ : bAt T.data.toList 3 = b3) (hc : (225 ≤ b0 ∧ b0 ≤ 236) ∨ (238 ≤ b0 ∧ b0 ≤ 239)) :
    Calls Tryd.prog 33 #[.string T] w fun e w' => e = .returned (.int .i64 (longN a b0 b1 b2 b3 : Nat)) ∧ w' = w := by
  have h0s : 0 < T.size := by rw [ha]; exact h1
  have hb0 : (T[0]'h0s).toNat = b0 := (byte_at h0s).trans e0
  have hlo : lowN b0 = 128 := by
    unfold lowN
    repeat' split
    all_goals omega
  have hhi : highN b0 = 191 := by
    unfold highN
    repeat' split
    all_goals omega
  have hform := long_three (n := a) (b1 := b1) (b2 := b2) (b3 := b3) (by omega) (by omega) hlo hhi
  have HF := hidp hform
  have hz : ¬ (b0 : Int) < 128 := by omega
  have d0 : btw (b0 : Int) 194 223 = false := btw_f (by omega)
  have d1 : btw (b0 : Int) 224 239 = true := btw_t (by omega)
  have q224 : ((b0 : Int) == 224) = false := beq_eq_false_iff_ne.2 (by omega)
  have q237 : ((b0 : Int) == 237) = false := beq_eq_false_iff_ne.2 (by omega)
  clear hform hlo hhi
  by_cases hn : a < 3
  · have hnz : (a : Int) < 3 := by omega
    have HL : Hid (longN a b0 b1 b2 b3 = 0) := by show _ = _; rw [HF.out, if_pos (Or.inl hn)]
    clear e0 e1 e2 hc
    go_enter Tryd.func33, Tryd.ntmps33
    go_wp2_with (go_at_call 42; refine (between_any _ _ _ _).mono ?_; rintro e w2 ⟨rfl, rfl⟩)
    go_ret
    exact ⟨by rw [show longN a b0 b1 b2 b3 = 0 from HL.out]; rfl, rfl⟩
  · have hnz : ¬ (a : Int) < 3 := by omega
    have h1s : 1 < T.size := by rw [ha]; omega
    have hb1 : (T[1]'h1s).toNat = b1 := (byte_at h1s).trans e1
    have h2s : 2 < T.size := by rw [ha]; omega
    have hb2 : (T[2]'h2s).toNat = b2 := (byte_at h2s).trans e2
    clear e0 e1 e2
    by_cases hk1 : 128 ≤ b1 ∧ b1 ≤ 191
    · have k1 : btw (b1 : Int) 128 191 = true := btw_t (by omega)
      obtain ⟨o2, ho2⟩ : ∃ o, btw (b2 : Int) 128 191 = o := ⟨_, rfl⟩
      clear hc
      go_enter Tryd.func33, Tryd.ntmps33
      go_wp2_with (go_at_call 42; refine (between_any _ _ _ _).mono ?_; rintro e w2 ⟨rfl, rfl⟩)
      go_loopg [7] 1 (fun gh vi wr => ∃ i : Nat, vi = .int .i64 i ∧ i + gh = 3 ∧ 2 ≤ i ∧ w = wr ∧ Hid (2 < i → o2 = true))
      case atStart => exact ⟨2, rfl, by omega, by omega, rfl, (show Hid _ from fun q => by omega)⟩
      case round =>
        obtain ⟨i, rfl, hg, hi2, hw, HO2⟩ := hrel
        subst hw
        rcases (show i = 2 ∨ i = 3 by omega) with rfl | rfl
        · by_cases hoj : o2 = true
          · subst hoj
            go_wp2_with (go_at_call 42; refine (between_any _ _ _ _).mono ?_; rintro e w2 ⟨rfl, rfl⟩)
            go_roundg (gk - 1)
            case measure => omega
            case rel => exact ⟨3, rfl, by omega, by omega, rfl, (show Hid _ from fun _ => by first | rfl | trivial)⟩
          · have hoj : o2 = false := by simpa using hoj
            have hbad : ¬ (128 ≤ b2 ∧ b2 ≤ 191) := fun q => by have := ho2.symm.trans (btw_t (c := (b2 : Int)) (lo := 128) (hi := 191) (by omega)); rw [hoj] at this; cases this
            have HL : Hid (longN a b0 b1 b2 b3 = 0) := by show _ = _; rw [HF.out, if_pos (by omega)]
            subst hoj
            clear hbad
            go_wp2_with (go_at_call 42; refine (between_any _ _ _ _).mono ?_; rintro e w2 ⟨rfl, rfl⟩)
            go_ret
            exact ⟨by rw [show longN a b0 b1 b2 b3 = 0 from HL.out]; rfl, rfl⟩
        ·
          have g2 : 128 ≤ b2 ∧ b2 ≤ 191 := by have := ho2.trans (HO2.out (by omega)); unfold btw at this; have := of_decide_eq_true this; omega
          have HL : Hid (longN a b0 b1 b2 b3 = 3) := by show _ = _; rw [HF.out, if_neg (by omega)]
          go_wp2_with (go_at_call 42; refine (between_any _ _ _ _).mono ?_; rintro e w2 ⟨rfl, rfl⟩)
          go_ret
          exact ⟨by rw [show longN a b0 b1 b2 b3 = 3 from HL.out]; rfl, rfl⟩
    · have k1 : btw (b1 : Int) 128 191 = false := btw_f (by omega)
      have HL : Hid (longN a b0 b1 b2 b3 = 0) := by show _ = _; rw [HF.out, if_pos (by omega)]
      clear hc hk1
      go_enter Tryd.func33, Tryd.ntmps33
      go_wp2_with (go_at_call 42; refine (between_any _ _ _ _).mono ?_; rintro e w2 ⟨rfl, rfl⟩)
      go_ret
      exact ⟨by rw [show longN a b0 b1 b2 b3 = 0 from HL.out]; rfl, rfl⟩
set_option maxHeartbeats 16000000 in
set_option maxRecDepth 20000 in
theorem long_F {w : World} {T : ByteArray} {a b0 b1 b2 b3 : Nat} (ha : T.size = a) (h1 : 1 ≤ a) (e0 : bAt T.data.toList 0 = b0) (e1 : bAt T.data.toList 1 = b1) (e2 : bAt T.data.toList 2 = b2) (_ : bAt T.data.toList 3 = b3) (hc : b0 = 237) :
    Calls Tryd.prog 33 #[.string T] w fun e w' => e = .returned (.int .i64 (longN a b0 b1 b2 b3 : Nat)) ∧ w' = w := by
  have h0s : 0 < T.size := by rw [ha]; exact h1
  have hb0 : (T[0]'h0s).toNat = b0 := (byte_at h0s).trans e0
  have hlo : lowN b0 = 128 := by
    unfold lowN
    repeat' split
    all_goals omega
  have hhi : highN b0 = 159 := by
    unfold highN
    repeat' split
    all_goals omega
  have hform := long_three (n := a) (b1 := b1) (b2 := b2) (b3 := b3) (by omega) (by omega) hlo hhi
  have HF := hidp hform
  have hz : ¬ (b0 : Int) < 128 := by omega
  have d0 : btw (b0 : Int) 194 223 = false := btw_f (by omega)
  have d1 : btw (b0 : Int) 224 239 = true := btw_t (by omega)
  have q224 : ((b0 : Int) == 224) = false := beq_eq_false_iff_ne.2 (by omega)
  have qb : ((b0 : Int) == 237) = true := beq_iff_eq.2 (by omega)
  clear hform hlo hhi
  by_cases hn : a < 3
  · have hnz : (a : Int) < 3 := by omega
    have HL : Hid (longN a b0 b1 b2 b3 = 0) := by show _ = _; rw [HF.out, if_pos (Or.inl hn)]
    clear e0 e1 e2 hc
    go_enter Tryd.func33, Tryd.ntmps33
    go_wp2_with (go_at_call 42; refine (between_any _ _ _ _).mono ?_; rintro e w2 ⟨rfl, rfl⟩)
    go_ret
    exact ⟨by rw [show longN a b0 b1 b2 b3 = 0 from HL.out]; rfl, rfl⟩
  · have hnz : ¬ (a : Int) < 3 := by omega
    have h1s : 1 < T.size := by rw [ha]; omega
    have hb1 : (T[1]'h1s).toNat = b1 := (byte_at h1s).trans e1
    have h2s : 2 < T.size := by rw [ha]; omega
    have hb2 : (T[2]'h2s).toNat = b2 := (byte_at h2s).trans e2
    clear e0 e1 e2
    by_cases hk1 : 128 ≤ b1 ∧ b1 ≤ 159
    · have k1 : btw (b1 : Int) 128 159 = true := btw_t (by omega)
      obtain ⟨o2, ho2⟩ : ∃ o, btw (b2 : Int) 128 191 = o := ⟨_, rfl⟩
      clear hc
      go_enter Tryd.func33, Tryd.ntmps33
      go_wp2_with (go_at_call 42; refine (between_any _ _ _ _).mono ?_; rintro e w2 ⟨rfl, rfl⟩)
      go_loopg [7] 1 (fun gh vi wr => ∃ i : Nat, vi = .int .i64 i ∧ i + gh = 3 ∧ 2 ≤ i ∧ w = wr ∧ Hid (2 < i → o2 = true))
      case atStart => exact ⟨2, rfl, by omega, by omega, rfl, (show Hid _ from fun q => by omega)⟩
      case round =>
        obtain ⟨i, rfl, hg, hi2, hw, HO2⟩ := hrel
        subst hw
        rcases (show i = 2 ∨ i = 3 by omega) with rfl | rfl
        · by_cases hoj : o2 = true
          · subst hoj
            go_wp2_with (go_at_call 42; refine (between_any _ _ _ _).mono ?_; rintro e w2 ⟨rfl, rfl⟩)
            go_roundg (gk - 1)
            case measure => omega
            case rel => exact ⟨3, rfl, by omega, by omega, rfl, (show Hid _ from fun _ => by first | rfl | trivial)⟩
          · have hoj : o2 = false := by simpa using hoj
            have hbad : ¬ (128 ≤ b2 ∧ b2 ≤ 191) := fun q => by have := ho2.symm.trans (btw_t (c := (b2 : Int)) (lo := 128) (hi := 191) (by omega)); rw [hoj] at this; cases this
            have HL : Hid (longN a b0 b1 b2 b3 = 0) := by show _ = _; rw [HF.out, if_pos (by omega)]
            subst hoj
            clear hbad
            go_wp2_with (go_at_call 42; refine (between_any _ _ _ _).mono ?_; rintro e w2 ⟨rfl, rfl⟩)
            go_ret
            exact ⟨by rw [show longN a b0 b1 b2 b3 = 0 from HL.out]; rfl, rfl⟩
        ·
          have g2 : 128 ≤ b2 ∧ b2 ≤ 191 := by have := ho2.trans (HO2.out (by omega)); unfold btw at this; have := of_decide_eq_true this; omega
          have HL : Hid (longN a b0 b1 b2 b3 = 3) := by show _ = _; rw [HF.out, if_neg (by omega)]
          go_wp2_with (go_at_call 42; refine (between_any _ _ _ _).mono ?_; rintro e w2 ⟨rfl, rfl⟩)
          go_ret
          exact ⟨by rw [show longN a b0 b1 b2 b3 = 3 from HL.out]; rfl, rfl⟩
    · have k1 : btw (b1 : Int) 128 159 = false := btw_f (by omega)
      have HL : Hid (longN a b0 b1 b2 b3 = 0) := by show _ = _; rw [HF.out, if_pos (by omega)]
      clear hc hk1
      go_enter Tryd.func33, Tryd.ntmps33
      go_wp2_with (go_at_call 42; refine (between_any _ _ _ _).mono ?_; rintro e w2 ⟨rfl, rfl⟩)
      go_ret
      exact ⟨by rw [show longN a b0 b1 b2 b3 = 0 from HL.out]; rfl, rfl⟩
set_option maxHeartbeats 16000000 in
set_option maxRecDepth 20000 in
theorem long_G {w : World} {T : ByteArray} {a b0 b1 b2 b3 : Nat} (ha : T.size = a) (h1 : 1 ≤ a) (e0 : bAt T.data.toList 0 = b0) (e1 : bAt T.data.toList 1 = b1) (e2 : bAt T.data.toList 2 = b2) (e3 : bAt T.data.toList 3 = b3) (hc : b0 = 240) :
    Calls Tryd.prog 33 #[.string T] w fun e w' => e = .returned (.int .i64 (longN a b0 b1 b2 b3 : Nat)) ∧ w' = w := by
  have h0s : 0 < T.size := by rw [ha]; exact h1
  have hb0 : (T[0]'h0s).toNat = b0 := (byte_at h0s).trans e0
  have hlo : lowN b0 = 144 := by
    unfold lowN
    repeat' split
    all_goals omega
  have hhi : highN b0 = 191 := by
    unfold highN
    repeat' split
    all_goals omega
  have hform := long_four (n := a) (b1 := b1) (b2 := b2) (b3 := b3) (by omega) (by omega) hlo hhi
  have HF := hidp hform
  have hz : ¬ (b0 : Int) < 128 := by omega
  have d0 : btw (b0 : Int) 194 223 = false := btw_f (by omega)
  have d1 : btw (b0 : Int) 224 239 = false := btw_f (by omega)
  have d2 : btw (b0 : Int) 240 244 = true := btw_t (by omega)
  have q244 : ((b0 : Int) == 244) = false := beq_eq_false_iff_ne.2 (by omega)
  have qb : ((b0 : Int) == 240) = true := beq_iff_eq.2 (by omega)
  clear hform hlo hhi
  by_cases hn : a < 4
  · have hnz : (a : Int) < 4 := by omega
    have HL : Hid (longN a b0 b1 b2 b3 = 0) := by show _ = _; rw [HF.out, if_pos (Or.inl hn)]
    clear e0 e1 e2 e3 hc
    go_enter Tryd.func33, Tryd.ntmps33
    go_wp2_with (go_at_call 42; refine (between_any _ _ _ _).mono ?_; rintro e w2 ⟨rfl, rfl⟩)
    go_ret
    exact ⟨by rw [show longN a b0 b1 b2 b3 = 0 from HL.out]; rfl, rfl⟩
  · have hnz : ¬ (a : Int) < 4 := by omega
    have h1s : 1 < T.size := by rw [ha]; omega
    have hb1 : (T[1]'h1s).toNat = b1 := (byte_at h1s).trans e1
    have h2s : 2 < T.size := by rw [ha]; omega
    have hb2 : (T[2]'h2s).toNat = b2 := (byte_at h2s).trans e2
    have h3s : 3 < T.size := by rw [ha]; omega
    have hb3 : (T[3]'h3s).toNat = b3 := (byte_at h3s).trans e3
    clear e0 e1 e2 e3
    by_cases hk1 : 144 ≤ b1 ∧ b1 ≤ 191
    · have k1 : btw (b1 : Int) 144 191 = true := btw_t (by omega)
      obtain ⟨o2, ho2⟩ : ∃ o, btw (b2 : Int) 128 191 = o := ⟨_, rfl⟩
      obtain ⟨o3, ho3⟩ : ∃ o, btw (b3 : Int) 128 191 = o := ⟨_, rfl⟩
      clear hc
      go_enter Tryd.func33, Tryd.ntmps33
      go_wp2_with (go_at_call 42; refine (between_any _ _ _ _).mono ?_; rintro e w2 ⟨rfl, rfl⟩)
      go_loopg [7] 2 (fun gh vi wr => ∃ i : Nat, vi = .int .i64 i ∧ i + gh = 4 ∧ 2 ≤ i ∧ w = wr ∧ Hid (2 < i → o2 = true) ∧ Hid (3 < i → o3 = true))
      case atStart => exact ⟨2, rfl, by omega, by omega, rfl, (show Hid _ from fun q => by omega), (show Hid _ from fun q => by omega)⟩
      case round =>
        obtain ⟨i, rfl, hg, hi2, hw, HO2, HO3⟩ := hrel
        subst hw
        rcases (show i = 2 ∨ i = 3 ∨ i = 4 by omega) with rfl | rfl | rfl
        · by_cases hoj : o2 = true
          · subst hoj
            go_wp2_with (go_at_call 42; refine (between_any _ _ _ _).mono ?_; rintro e w2 ⟨rfl, rfl⟩)
            go_roundg (gk - 1)
            case measure => omega
            case rel => exact ⟨3, rfl, by omega, by omega, rfl, (show Hid _ from fun _ => by first | rfl | trivial), (show Hid _ from fun q => by omega)⟩
          · have hoj : o2 = false := by simpa using hoj
            have hbad : ¬ (128 ≤ b2 ∧ b2 ≤ 191) := fun q => by have := ho2.symm.trans (btw_t (c := (b2 : Int)) (lo := 128) (hi := 191) (by omega)); rw [hoj] at this; cases this
            have HL : Hid (longN a b0 b1 b2 b3 = 0) := by show _ = _; rw [HF.out, if_pos (by omega)]
            subst hoj
            clear hbad
            go_wp2_with (go_at_call 42; refine (between_any _ _ _ _).mono ?_; rintro e w2 ⟨rfl, rfl⟩)
            go_ret
            exact ⟨by rw [show longN a b0 b1 b2 b3 = 0 from HL.out]; rfl, rfl⟩
        · by_cases hoj : o3 = true
          · subst hoj
            go_wp2_with (go_at_call 42; refine (between_any _ _ _ _).mono ?_; rintro e w2 ⟨rfl, rfl⟩)
            go_roundg (gk - 1)
            case measure => omega
            case rel => exact ⟨4, rfl, by omega, by omega, rfl, (show Hid _ from fun _ => HO2.out (by omega)), (show Hid _ from fun _ => by first | rfl | trivial)⟩
          · have hoj : o3 = false := by simpa using hoj
            have hbad : ¬ (128 ≤ b3 ∧ b3 ≤ 191) := fun q => by have := ho3.symm.trans (btw_t (c := (b3 : Int)) (lo := 128) (hi := 191) (by omega)); rw [hoj] at this; cases this
            have HL : Hid (longN a b0 b1 b2 b3 = 0) := by show _ = _; rw [HF.out, if_pos (by omega)]
            subst hoj
            clear hbad
            go_wp2_with (go_at_call 42; refine (between_any _ _ _ _).mono ?_; rintro e w2 ⟨rfl, rfl⟩)
            go_ret
            exact ⟨by rw [show longN a b0 b1 b2 b3 = 0 from HL.out]; rfl, rfl⟩
        ·
          have g2 : 128 ≤ b2 ∧ b2 ≤ 191 := by have := ho2.trans (HO2.out (by omega)); unfold btw at this; have := of_decide_eq_true this; omega
          have g3 : 128 ≤ b3 ∧ b3 ≤ 191 := by have := ho3.trans (HO3.out (by omega)); unfold btw at this; have := of_decide_eq_true this; omega
          have HL : Hid (longN a b0 b1 b2 b3 = 4) := by show _ = _; rw [HF.out, if_neg (by omega)]
          go_wp2_with (go_at_call 42; refine (between_any _ _ _ _).mono ?_; rintro e w2 ⟨rfl, rfl⟩)
          go_ret
          exact ⟨by rw [show longN a b0 b1 b2 b3 = 4 from HL.out]; rfl, rfl⟩
    · have k1 : btw (b1 : Int) 144 191 = false := btw_f (by omega)
      have HL : Hid (longN a b0 b1 b2 b3 = 0) := by show _ = _; rw [HF.out, if_pos (by omega)]
      clear hc hk1
      go_enter Tryd.func33, Tryd.ntmps33
      go_wp2_with (go_at_call 42; refine (between_any _ _ _ _).mono ?_; rintro e w2 ⟨rfl, rfl⟩)
      go_ret
      exact ⟨by rw [show longN a b0 b1 b2 b3 = 0 from HL.out]; rfl, rfl⟩
set_option maxHeartbeats 16000000 in
set_option maxRecDepth 20000 in
theorem long_H {w : World} {T : ByteArray} {a b0 b1 b2 b3 : Nat} (ha : T.size = a) (h1 : 1 ≤ a) (e0 : bAt T.data.toList 0 = b0) (e1 : bAt T.data.toList 1 = b1) (e2 : bAt T.data.toList 2 = b2) (e3 : bAt T.data.toList 3 = b3) (hc : 241 ≤ b0 ∧ b0 ≤ 243) :
    Calls Tryd.prog 33 #[.string T] w fun e w' => e = .returned (.int .i64 (longN a b0 b1 b2 b3 : Nat)) ∧ w' = w := by
  have h0s : 0 < T.size := by rw [ha]; exact h1
  have hb0 : (T[0]'h0s).toNat = b0 := (byte_at h0s).trans e0
  have hlo : lowN b0 = 128 := by
    unfold lowN
    repeat' split
    all_goals omega
  have hhi : highN b0 = 191 := by
    unfold highN
    repeat' split
    all_goals omega
  have hform := long_four (n := a) (b1 := b1) (b2 := b2) (b3 := b3) (by omega) (by omega) hlo hhi
  have HF := hidp hform
  have hz : ¬ (b0 : Int) < 128 := by omega
  have d0 : btw (b0 : Int) 194 223 = false := btw_f (by omega)
  have d1 : btw (b0 : Int) 224 239 = false := btw_f (by omega)
  have d2 : btw (b0 : Int) 240 244 = true := btw_t (by omega)
  have q240 : ((b0 : Int) == 240) = false := beq_eq_false_iff_ne.2 (by omega)
  have q244 : ((b0 : Int) == 244) = false := beq_eq_false_iff_ne.2 (by omega)
  clear hform hlo hhi
  by_cases hn : a < 4
  · have hnz : (a : Int) < 4 := by omega
    have HL : Hid (longN a b0 b1 b2 b3 = 0) := by show _ = _; rw [HF.out, if_pos (Or.inl hn)]
    clear e0 e1 e2 e3 hc
    go_enter Tryd.func33, Tryd.ntmps33
    go_wp2_with (go_at_call 42; refine (between_any _ _ _ _).mono ?_; rintro e w2 ⟨rfl, rfl⟩)
    go_ret
    exact ⟨by rw [show longN a b0 b1 b2 b3 = 0 from HL.out]; rfl, rfl⟩
  · have hnz : ¬ (a : Int) < 4 := by omega
    have h1s : 1 < T.size := by rw [ha]; omega
    have hb1 : (T[1]'h1s).toNat = b1 := (byte_at h1s).trans e1
    have h2s : 2 < T.size := by rw [ha]; omega
    have hb2 : (T[2]'h2s).toNat = b2 := (byte_at h2s).trans e2
    have h3s : 3 < T.size := by rw [ha]; omega
    have hb3 : (T[3]'h3s).toNat = b3 := (byte_at h3s).trans e3
    clear e0 e1 e2 e3
    by_cases hk1 : 128 ≤ b1 ∧ b1 ≤ 191
    · have k1 : btw (b1 : Int) 128 191 = true := btw_t (by omega)
      obtain ⟨o2, ho2⟩ : ∃ o, btw (b2 : Int) 128 191 = o := ⟨_, rfl⟩
      obtain ⟨o3, ho3⟩ : ∃ o, btw (b3 : Int) 128 191 = o := ⟨_, rfl⟩
      clear hc
      go_enter Tryd.func33, Tryd.ntmps33
      go_wp2_with (go_at_call 42; refine (between_any _ _ _ _).mono ?_; rintro e w2 ⟨rfl, rfl⟩)
      go_loopg [7] 2 (fun gh vi wr => ∃ i : Nat, vi = .int .i64 i ∧ i + gh = 4 ∧ 2 ≤ i ∧ w = wr ∧ Hid (2 < i → o2 = true) ∧ Hid (3 < i → o3 = true))
      case atStart => exact ⟨2, rfl, by omega, by omega, rfl, (show Hid _ from fun q => by omega), (show Hid _ from fun q => by omega)⟩
      case round =>
        obtain ⟨i, rfl, hg, hi2, hw, HO2, HO3⟩ := hrel
        subst hw
        rcases (show i = 2 ∨ i = 3 ∨ i = 4 by omega) with rfl | rfl | rfl
        · by_cases hoj : o2 = true
          · subst hoj
            go_wp2_with (go_at_call 42; refine (between_any _ _ _ _).mono ?_; rintro e w2 ⟨rfl, rfl⟩)
            go_roundg (gk - 1)
            case measure => omega
            case rel => exact ⟨3, rfl, by omega, by omega, rfl, (show Hid _ from fun _ => by first | rfl | trivial), (show Hid _ from fun q => by omega)⟩
          · have hoj : o2 = false := by simpa using hoj
            have hbad : ¬ (128 ≤ b2 ∧ b2 ≤ 191) := fun q => by have := ho2.symm.trans (btw_t (c := (b2 : Int)) (lo := 128) (hi := 191) (by omega)); rw [hoj] at this; cases this
            have HL : Hid (longN a b0 b1 b2 b3 = 0) := by show _ = _; rw [HF.out, if_pos (by omega)]
            subst hoj
            clear hbad
            go_wp2_with (go_at_call 42; refine (between_any _ _ _ _).mono ?_; rintro e w2 ⟨rfl, rfl⟩)
            go_ret
            exact ⟨by rw [show longN a b0 b1 b2 b3 = 0 from HL.out]; rfl, rfl⟩
        · by_cases hoj : o3 = true
          · subst hoj
            go_wp2_with (go_at_call 42; refine (between_any _ _ _ _).mono ?_; rintro e w2 ⟨rfl, rfl⟩)
            go_roundg (gk - 1)
            case measure => omega
            case rel => exact ⟨4, rfl, by omega, by omega, rfl, (show Hid _ from fun _ => HO2.out (by omega)), (show Hid _ from fun _ => by first | rfl | trivial)⟩
          · have hoj : o3 = false := by simpa using hoj
            have hbad : ¬ (128 ≤ b3 ∧ b3 ≤ 191) := fun q => by have := ho3.symm.trans (btw_t (c := (b3 : Int)) (lo := 128) (hi := 191) (by omega)); rw [hoj] at this; cases this
            have HL : Hid (longN a b0 b1 b2 b3 = 0) := by show _ = _; rw [HF.out, if_pos (by omega)]
            subst hoj
            clear hbad
            go_wp2_with (go_at_call 42; refine (between_any _ _ _ _).mono ?_; rintro e w2 ⟨rfl, rfl⟩)
            go_ret
            exact ⟨by rw [show longN a b0 b1 b2 b3 = 0 from HL.out]; rfl, rfl⟩
        ·
          have g2 : 128 ≤ b2 ∧ b2 ≤ 191 := by have := ho2.trans (HO2.out (by omega)); unfold btw at this; have := of_decide_eq_true this; omega
          have g3 : 128 ≤ b3 ∧ b3 ≤ 191 := by have := ho3.trans (HO3.out (by omega)); unfold btw at this; have := of_decide_eq_true this; omega
          have HL : Hid (longN a b0 b1 b2 b3 = 4) := by show _ = _; rw [HF.out, if_neg (by omega)]
          go_wp2_with (go_at_call 42; refine (between_any _ _ _ _).mono ?_; rintro e w2 ⟨rfl, rfl⟩)
          go_ret
          exact ⟨by rw [show longN a b0 b1 b2 b3 = 4 from HL.out]; rfl, rfl⟩
    · have k1 : btw (b1 : Int) 128 191 = false := btw_f (by omega)
      have HL : Hid (longN a b0 b1 b2 b3 = 0) := by show _ = _; rw [HF.out, if_pos (by omega)]
      clear hc hk1
      go_enter Tryd.func33, Tryd.ntmps33
      go_wp2_with (go_at_call 42; refine (between_any _ _ _ _).mono ?_; rintro e w2 ⟨rfl, rfl⟩)
      go_ret
      exact ⟨by rw [show longN a b0 b1 b2 b3 = 0 from HL.out]; rfl, rfl⟩
set_option maxHeartbeats 16000000 in
set_option maxRecDepth 20000 in
theorem long_J {w : World} {T : ByteArray} {a b0 b1 b2 b3 : Nat} (ha : T.size = a) (h1 : 1 ≤ a) (e0 : bAt T.data.toList 0 = b0) (e1 : bAt T.data.toList 1 = b1) (e2 : bAt T.data.toList 2 = b2) (e3 : bAt T.data.toList 3 = b3) (hc : b0 = 244) :
    Calls Tryd.prog 33 #[.string T] w fun e w' => e = .returned (.int .i64 (longN a b0 b1 b2 b3 : Nat)) ∧ w' = w := by
  have h0s : 0 < T.size := by rw [ha]; exact h1
  have hb0 : (T[0]'h0s).toNat = b0 := (byte_at h0s).trans e0
  have hlo : lowN b0 = 128 := by
    unfold lowN
    repeat' split
    all_goals omega
  have hhi : highN b0 = 143 := by
    unfold highN
    repeat' split
    all_goals omega
  have hform := long_four (n := a) (b1 := b1) (b2 := b2) (b3 := b3) (by omega) (by omega) hlo hhi
  have HF := hidp hform
  have hz : ¬ (b0 : Int) < 128 := by omega
  have d0 : btw (b0 : Int) 194 223 = false := btw_f (by omega)
  have d1 : btw (b0 : Int) 224 239 = false := btw_f (by omega)
  have d2 : btw (b0 : Int) 240 244 = true := btw_t (by omega)
  have q240 : ((b0 : Int) == 240) = false := beq_eq_false_iff_ne.2 (by omega)
  have qb : ((b0 : Int) == 244) = true := beq_iff_eq.2 (by omega)
  clear hform hlo hhi
  by_cases hn : a < 4
  · have hnz : (a : Int) < 4 := by omega
    have HL : Hid (longN a b0 b1 b2 b3 = 0) := by show _ = _; rw [HF.out, if_pos (Or.inl hn)]
    clear e0 e1 e2 e3 hc
    go_enter Tryd.func33, Tryd.ntmps33
    go_wp2_with (go_at_call 42; refine (between_any _ _ _ _).mono ?_; rintro e w2 ⟨rfl, rfl⟩)
    go_ret
    exact ⟨by rw [show longN a b0 b1 b2 b3 = 0 from HL.out]; rfl, rfl⟩
  · have hnz : ¬ (a : Int) < 4 := by omega
    have h1s : 1 < T.size := by rw [ha]; omega
    have hb1 : (T[1]'h1s).toNat = b1 := (byte_at h1s).trans e1
    have h2s : 2 < T.size := by rw [ha]; omega
    have hb2 : (T[2]'h2s).toNat = b2 := (byte_at h2s).trans e2
    have h3s : 3 < T.size := by rw [ha]; omega
    have hb3 : (T[3]'h3s).toNat = b3 := (byte_at h3s).trans e3
    clear e0 e1 e2 e3
    by_cases hk1 : 128 ≤ b1 ∧ b1 ≤ 143
    · have k1 : btw (b1 : Int) 128 143 = true := btw_t (by omega)
      obtain ⟨o2, ho2⟩ : ∃ o, btw (b2 : Int) 128 191 = o := ⟨_, rfl⟩
      obtain ⟨o3, ho3⟩ : ∃ o, btw (b3 : Int) 128 191 = o := ⟨_, rfl⟩
      clear hc
      go_enter Tryd.func33, Tryd.ntmps33
      go_wp2_with (go_at_call 42; refine (between_any _ _ _ _).mono ?_; rintro e w2 ⟨rfl, rfl⟩)
      go_loopg [7] 2 (fun gh vi wr => ∃ i : Nat, vi = .int .i64 i ∧ i + gh = 4 ∧ 2 ≤ i ∧ w = wr ∧ Hid (2 < i → o2 = true) ∧ Hid (3 < i → o3 = true))
      case atStart => exact ⟨2, rfl, by omega, by omega, rfl, (show Hid _ from fun q => by omega), (show Hid _ from fun q => by omega)⟩
      case round =>
        obtain ⟨i, rfl, hg, hi2, hw, HO2, HO3⟩ := hrel
        subst hw
        rcases (show i = 2 ∨ i = 3 ∨ i = 4 by omega) with rfl | rfl | rfl
        · by_cases hoj : o2 = true
          · subst hoj
            go_wp2_with (go_at_call 42; refine (between_any _ _ _ _).mono ?_; rintro e w2 ⟨rfl, rfl⟩)
            go_roundg (gk - 1)
            case measure => omega
            case rel => exact ⟨3, rfl, by omega, by omega, rfl, (show Hid _ from fun _ => by first | rfl | trivial), (show Hid _ from fun q => by omega)⟩
          · have hoj : o2 = false := by simpa using hoj
            have hbad : ¬ (128 ≤ b2 ∧ b2 ≤ 191) := fun q => by have := ho2.symm.trans (btw_t (c := (b2 : Int)) (lo := 128) (hi := 191) (by omega)); rw [hoj] at this; cases this
            have HL : Hid (longN a b0 b1 b2 b3 = 0) := by show _ = _; rw [HF.out, if_pos (by omega)]
            subst hoj
            clear hbad
            go_wp2_with (go_at_call 42; refine (between_any _ _ _ _).mono ?_; rintro e w2 ⟨rfl, rfl⟩)
            go_ret
            exact ⟨by rw [show longN a b0 b1 b2 b3 = 0 from HL.out]; rfl, rfl⟩
        · by_cases hoj : o3 = true
          · subst hoj
            go_wp2_with (go_at_call 42; refine (between_any _ _ _ _).mono ?_; rintro e w2 ⟨rfl, rfl⟩)
            go_roundg (gk - 1)
            case measure => omega
            case rel => exact ⟨4, rfl, by omega, by omega, rfl, (show Hid _ from fun _ => HO2.out (by omega)), (show Hid _ from fun _ => by first | rfl | trivial)⟩
          · have hoj : o3 = false := by simpa using hoj
            have hbad : ¬ (128 ≤ b3 ∧ b3 ≤ 191) := fun q => by have := ho3.symm.trans (btw_t (c := (b3 : Int)) (lo := 128) (hi := 191) (by omega)); rw [hoj] at this; cases this
            have HL : Hid (longN a b0 b1 b2 b3 = 0) := by show _ = _; rw [HF.out, if_pos (by omega)]
            subst hoj
            clear hbad
            go_wp2_with (go_at_call 42; refine (between_any _ _ _ _).mono ?_; rintro e w2 ⟨rfl, rfl⟩)
            go_ret
            exact ⟨by rw [show longN a b0 b1 b2 b3 = 0 from HL.out]; rfl, rfl⟩
        ·
          have g2 : 128 ≤ b2 ∧ b2 ≤ 191 := by have := ho2.trans (HO2.out (by omega)); unfold btw at this; have := of_decide_eq_true this; omega
          have g3 : 128 ≤ b3 ∧ b3 ≤ 191 := by have := ho3.trans (HO3.out (by omega)); unfold btw at this; have := of_decide_eq_true this; omega
          have HL : Hid (longN a b0 b1 b2 b3 = 4) := by show _ = _; rw [HF.out, if_neg (by omega)]
          go_wp2_with (go_at_call 42; refine (between_any _ _ _ _).mono ?_; rintro e w2 ⟨rfl, rfl⟩)
          go_ret
          exact ⟨by rw [show longN a b0 b1 b2 b3 = 4 from HL.out]; rfl, rfl⟩
    · have k1 : btw (b1 : Int) 128 143 = false := btw_f (by omega)
      have HL : Hid (longN a b0 b1 b2 b3 = 0) := by show _ = _; rw [HF.out, if_pos (by omega)]
      clear hc hk1
      go_enter Tryd.func33, Tryd.ntmps33
      go_wp2_with (go_at_call 42; refine (between_any _ _ _ _).mono ?_; rintro e w2 ⟨rfl, rfl⟩)
      go_ret
      exact ⟨by rw [show longN a b0 b1 b2 b3 = 0 from HL.out]; rfl, rfl⟩
theorem long_any {T : ByteArray} (w : World) (h : T.data.toList ≠ []) : Calls Tryd.prog 33 #[.string T] w fun e w' => e = .returned (.int .i64 (longL T.data.toList : Nat)) ∧ w' = w := by
  obtain ⟨a, ha⟩ : ∃ a, T.size = a := ⟨_, rfl⟩
  have h1 : 1 ≤ a := by rw [← ha, Lib.size_eq]; exact List.length_pos_iff.2 h
  have el : longL T.data.toList = longN a (bAt T.data.toList 0) (bAt T.data.toList 1) (bAt T.data.toList 2) (bAt T.data.toList 3) := by unfold longL; rw [← Lib.size_eq, ha]
  rw [el]
  obtain ⟨b0, e0⟩ : ∃ b, bAt T.data.toList 0 = b := ⟨_, rfl⟩
  obtain ⟨b1, e1⟩ : ∃ b, bAt T.data.toList 1 = b := ⟨_, rfl⟩
  obtain ⟨b2, e2⟩ : ∃ b, bAt T.data.toList 2 = b := ⟨_, rfl⟩
  obtain ⟨b3, e3⟩ : ∃ b, bAt T.data.toList 3 = b := ⟨_, rfl⟩
  rw [e0, e1, e2, e3]
  rcases (show b0 < 128 ∨ (128 ≤ b0 ∧ b0 < 194) ∨ 244 < b0 ∨ (194 ≤ b0 ∧ b0 ≤ 223) ∨ b0 = 224 ∨ ((225 ≤ b0 ∧ b0 ≤ 236) ∨ (238 ≤ b0 ∧ b0 ≤ 239)) ∨ b0 = 237 ∨ b0 = 240 ∨ (241 ≤ b0 ∧ b0 ≤ 243) ∨ b0 = 244 by omega) with c | c | c | c | c | c | c | c | c | c
  · exact long_A ha h1 e0 e1 e2 e3 c
  · exact long_B ha h1 e0 e1 e2 e3 c
  · exact long_I ha h1 e0 e1 e2 e3 c
  · exact long_C ha h1 e0 e1 e2 e3 c
  · exact long_D ha h1 e0 e1 e2 e3 c
  · exact long_E ha h1 e0 e1 e2 e3 c
  · exact long_F ha h1 e0 e1 e2 e3 c
  · exact long_G ha h1 e0 e1 e2 e3 c
  · exact long_H ha h1 e0 e1 e2 e3 c
  · exact long_J ha h1 e0 e1 e2 e3 c
#print axioms long_any
end Go.Proofs.YtlaeaeciomkabaaDoor
