/-
  slices.symMergeCmpFunc at items: two neighbouring sorted stretches become one, and nothing of one key changes its order.
-/
import Derived.Test.YtgihlnbmjoffjaaSwapR
import Derived.Test.YtgihlnbmjoffjaaByKey
namespace Go.Proofs.Ytgihlnbmjoffjaa
open Go.RowKit Go.Sort Go.Proofs

set_option maxHeartbeats 4000000 in
set_option maxRecDepth 100000 in
theorem symMerge_left (w0 : World) (blk off cap N a b : Nat) (d : Array (Int × Int)) (W : World)
    (h : At w0 blk off N d W) (hmb : a + 1 < b) (hb : b ≤ N) (hsz : N < 4611686018427387904) (hs : Srt (a + 1) b d) :
    Calls Try.prog 46 #[.slice (some ⟨blk, off, none⟩) N cap, .int .i64 a, .int .i64 ((a : Int) + 1), .int .i64 b, .func (.func 17) #[] #[]] W fun e w' =>
      e = .returned (.tuple #[]) ∧ ∃ d', Mgd a b d d' ∧ Srt a b d' ∧ At w0 blk off N d' w' := by
  have HSR : Aside _ := hs
  clear hs
  have mixed : Try.prog.follows .mixedOrders = true := by kernel_rfl
  have q0 : ((a : Int) + 1 - (a : Int) == 1) = true := beq_iff_eq.2 (by omega)
  go_enter Try.func46, Try.ntmps46
  go_wp2
  go_loopg [10, 11] (b - a) (fun g vi vj wr => ∃ (i j : Nat), vi = .int .i64 i ∧ vj = .int .i64 j ∧ a + 1 ≤ i ∧ i ≤ j ∧ j ≤ b ∧ j - i ≤ g ∧ At w0 blk off N d wr ∧
    Aside ((∀ t, a + 1 ≤ t → t < i → d[t]!.1 < d[a]!.1) ∧ (∀ t, j ≤ t → t < b → d[a]!.1 ≤ d[t]!.1)))
  case atStart => exact ⟨a + 1, b, by go_num, rfl, by omega, by omega, by omega, by omega, h, (show Aside _ from ⟨fun t h1 h2 => by omega, fun t h1 h2 => by omega⟩)⟩
  case round =>
    obtain ⟨i, j, rfl, rfl, hai, hij, hjb, hg, HS, HB⟩ := hrel
    by_cases hlt : i < j
    · obtain ⟨c, hc⟩ : ∃ c, c = (i + j) / 2 := ⟨_, rfl⟩
      have c1 : i ≤ c := by omega
      have c2 : c < j := by omega
      have e2 : ((i : Int) + (j : Int)) / 2 = (c : Int) := by omega
      have b1 : (c : Int) < (N : Int) := by omega
      have b2 : (a : Int) < (N : Int) := by omega
      obtain ⟨x, hx⟩ : ∃ x, d[c]! = x := ⟨_, rfl⟩
      obtain ⟨y, hy⟩ : ∃ y, d[a]! = y := ⟨_, rfl⟩
      have cx0 := HS.cellG (i := c) (by omega) hx
      have cx1 := HS.cellG1 (i := c) (by omega) hx
      have cy0 := HS.cellG (i := a) (by omega) hy
      have cy1 := HS.cellG1 (i := a) (by omega) hy
      have HX : Hid _ := hx
      have HY : Hid _ := hy
      have HC : Hid _ := hc
      clear hx hy hc
      have hcg := fun n os => byKey_any x y (grow (wr.drewN n) os)
      have hcn := cmpI_neg x.1 y.1
      generalize cmpI x.1 y.1 = r at hcg hcn
      have HCN : Hid _ := hcn
      have HCG : Aside _ := hcg
      clear hcn hcg
      by_cases hr : r < 0
      · go_wp2_with fail
        go_quiet_grown (first | (go_at_call 17; refine Calls.grown_of (HCG.out _ _)))
        go_wp2
        go_roundg (j - (c + 1))
        case measure => omega
        case rel =>
          refine ⟨c + 1, j, by go_num, rfl, by omega, by omega, hjb, Nat.le_refl _, HS.grown _ _, (show Aside _ from ⟨fun t t1 t2 => ?_, HB.out.2⟩)⟩
          have := HSR.out t c t1 (by omega) (by omega)
          rw [HX.out] at this
          rw [HY.out]
          have := HCN.out.1 hr
          omega
      · go_wp2_with fail
        go_quiet_grown (first | (go_at_call 17; refine Calls.grown_of (HCG.out _ _)))
        go_wp2
        go_roundg (c - i)
        case measure => omega
        case rel =>
          refine ⟨i, c, rfl, rfl, hai, c1, by omega, Nat.le_refl _, HS.grown _ _, (show Aside _ from ⟨HB.out.1, fun t t1 t2 => ?_⟩)⟩
          have := HSR.out c t (by omega) t1 t2
          rw [HX.out] at this
          rw [HY.out]
          have := mt HCN.out.2 (by omega)
          omega
    · obtain rfl : i = j := by omega
      obtain ⟨wo, hwo⟩ : ∃ wo : World, wo = wr := ⟨_, rfl⟩
      have b3 : (0 : Int) ≤ (i : Int) - 1 := by omega
      go_wp2
      go_loopg [13] (i - 1 - a) (fun g vk wr2 => ∃ (k : Nat) (dk : Array (Int × Int)), vk = .int .i64 k ∧ a ≤ k ∧ k ≤ i - 1 ∧ i - 1 - k ≤ g ∧ At w0 blk off N dk wr2 ∧ Aside (Rot a (a + 1) (k + 1) d dk))
      case atStart => exact ⟨a, d, rfl, Nat.le_refl _, by omega, Nat.le_refl _, HS, (show Aside _ from Rot.id_right a (a + 1) d)⟩
      case round =>
        obtain ⟨k, dk, rfl, hak, hki, hg2, HK, HRt⟩ := hrel
        by_cases hlt2 : k < i - 1
        · have g1 : (k : Int) < (i : Int) - 1 := by omega
          obtain ⟨x, hx⟩ : ∃ x, dk[k]! = x := ⟨_, rfl⟩
          obtain ⟨y, hy⟩ : ∃ y, dk[k + 1]! = y := ⟨_, rfl⟩
          obtain ⟨cx0, cx1, fx0, fx1⟩ := HK.drew.cell (i := k) (by omega)
          obtain ⟨cy0, cy1, fy0, fy1⟩ := HK.drew.cell (i := k + 1) (by omega)
          rw [hx] at cx0 cx1
          rw [hy] at cy0 cy1
          simp at cx0 cx1 cy0 cy1 fx0 fx1 fy0 fy1
          have b1 : (k : Int) < (N : Int) := by omega
          have b2 : (k : Int) + 1 < (N : Int) := by omega
          have HX : Hid _ := hx
          have HY : Hid _ := hy
          clear hx hy
          go_wp2_with fail
          go_region
          go_wp2
          go_roundg (i - 1 - (k + 1))
          case measure => omega
          case rel => exact ⟨k + 1, _, by go_num, by omega, by omega, Nat.le_refl _, HK.swap (by omega) (by omega) HX.out HY.out, (show Aside _ from rot_up a k d dk HRt.out hak (by have := h.size; omega))⟩
        · have g1 : ¬ (k : Int) < (i : Int) - 1 := by omega
          go_wp2
          refine bodyPost_ret (results_none rfl _ _ _) rfl ?_
          obtain rfl : k + 1 = i := by omega
          have hf := sym_left (by omega) (by have := h.size; omega) HSR.out HB.out.1 HB.out.2 hjb HRt.out
          exact ⟨rfl, dk, hf.1, hf.2, HK⟩

set_option maxHeartbeats 4000000 in
set_option maxRecDepth 100000 in
theorem symMerge_right (w0 : World) (blk off cap N a m : Nat) (d : Array (Int × Int)) (W : World)
    (h : At w0 blk off N d W) (ham : a + 1 < m) (hb : m + 1 ≤ N) (hsz : N < 4611686018427387904) (hs : Srt a m d) :
    Calls Try.prog 46 #[.slice (some ⟨blk, off, none⟩) N cap, .int .i64 a, .int .i64 m, .int .i64 ((m : Int) + 1), .func (.func 17) #[] #[]] W fun e w' =>
      e = .returned (.tuple #[]) ∧ ∃ d', Mgd a (m + 1) d d' ∧ Srt a (m + 1) d' ∧ At w0 blk off N d' w' := by
  have HSR : Aside _ := hs
  clear hs
  have mixed : Try.prog.follows .mixedOrders = true := by kernel_rfl
  have q0 : ((m : Int) - (a : Int) == 1) = false := beq_eq_false_iff_ne.2 (by omega)
  have q1 : ((m : Int) + 1 - (m : Int) == 1) = true := beq_iff_eq.2 (by omega)
  go_enter Try.func46, Try.ntmps46
  go_wp2
  go_loopg [14, 15] (m - a) (fun g vi vj wr => ∃ (i j : Nat), vi = .int .i64 i ∧ vj = .int .i64 j ∧ a ≤ i ∧ i ≤ j ∧ j ≤ m ∧ j - i ≤ g ∧ At w0 blk off N d wr ∧
    Aside ((∀ t, a ≤ t → t < i → d[t]!.1 ≤ d[m]!.1) ∧ (∀ t, j ≤ t → t < m → d[m]!.1 < d[t]!.1)))
  case atStart => exact ⟨a, m, rfl, rfl, by omega, by omega, by omega, by omega, h, (show Aside _ from ⟨fun t h1 h2 => by omega, fun t h1 h2 => by omega⟩)⟩
  case round =>
    obtain ⟨i, j, rfl, rfl, hai, hij, hjb, hg, HS, HB⟩ := hrel
    by_cases hlt : i < j
    · obtain ⟨c, hc⟩ : ∃ c, c = (i + j) / 2 := ⟨_, rfl⟩
      have c1 : i ≤ c := by omega
      have c2 : c < j := by omega
      have e2 : ((i : Int) + (j : Int)) / 2 = (c : Int) := by omega
      have b1 : (c : Int) < (N : Int) := by omega
      have b2 : (m : Int) < (N : Int) := by omega
      obtain ⟨x, hx⟩ : ∃ x, d[m]! = x := ⟨_, rfl⟩
      obtain ⟨y, hy⟩ : ∃ y, d[c]! = y := ⟨_, rfl⟩
      have cx0 := HS.cellG (i := m) (by omega) hx
      have cx1 := HS.cellG1 (i := m) (by omega) hx
      have cy0 := HS.cellG (i := c) (by omega) hy
      have cy1 := HS.cellG1 (i := c) (by omega) hy
      have HX : Hid _ := hx
      have HY : Hid _ := hy
      have HC : Hid _ := hc
      clear hx hy hc
      have hcg := fun n os => byKey_any x y (grow (wr.drewN n) os)
      have hcn := cmpI_neg x.1 y.1
      generalize cmpI x.1 y.1 = r at hcg hcn
      have HCN : Hid _ := hcn
      have HCG : Aside _ := hcg
      clear hcn hcg
      by_cases hr : r < 0
      · have hd : decide (r < 0) = true := decide_eq_true hr
        go_wp2_with fail
        go_quiet_grown (first | (go_at_call 17; refine Calls.grown_of (HCG.out _ _)))
        go_wp2
        go_roundg (c - i)
        case measure => omega
        case rel =>
          refine ⟨i, c, rfl, rfl, hai, c1, by omega, Nat.le_refl _, HS.grown _ _, (show Aside _ from ⟨HB.out.1, fun t t1 t2 => ?_⟩)⟩
          have := HSR.out c t (by omega) t1 t2
          rw [HY.out] at this
          rw [HX.out]
          have := HCN.out.1 hr
          omega
      · have hd : decide (r < 0) = false := decide_eq_false hr
        go_wp2_with fail
        go_quiet_grown (first | (go_at_call 17; refine Calls.grown_of (HCG.out _ _)))
        go_wp2
        go_roundg (j - (c + 1))
        case measure => omega
        case rel =>
          refine ⟨c + 1, j, by go_num, rfl, by omega, by omega, hjb, Nat.le_refl _, HS.grown _ _, (show Aside _ from ⟨fun t t1 t2 => ?_, HB.out.2⟩)⟩
          have := HSR.out t c t1 (by omega) (by omega)
          rw [HY.out] at this
          rw [HX.out]
          have := mt HCN.out.2 (by omega)
          omega
    · obtain rfl : i = j := by omega
      go_wp2
      go_loopg [17] (m - i) (fun g vk wr2 => ∃ (k : Nat) (dk : Array (Int × Int)), vk = .int .i64 k ∧ i ≤ k ∧ k ≤ m ∧ k - i ≤ g ∧ At w0 blk off N dk wr2 ∧ Aside (Rot k m (m + 1) d dk))
      case atStart => exact ⟨m, d, rfl, hjb, Nat.le_refl _, Nat.le_refl _, HS, (show Aside _ from Rot.id_left m (m + 1) d)⟩
      case round =>
        obtain ⟨k0, dk, rfl, hik, hkm, hg2, HK, HRt⟩ := hrel
        by_cases hlt2 : i < k0
        · obtain ⟨k, rfl⟩ : ∃ k, k0 = k + 1 := ⟨k0 - 1, by omega⟩
          have g1 : (i : Int) < (k : Int) + 1 := by omega
          obtain ⟨x, hx⟩ : ∃ x, dk[k + 1]! = x := ⟨_, rfl⟩
          obtain ⟨y, hy⟩ : ∃ y, dk[k]! = y := ⟨_, rfl⟩
          obtain ⟨cx0, cx1, fx0, fx1⟩ := HK.drew.cell (i := k + 1) (by omega)
          obtain ⟨cy0, cy1, fy0, fy1⟩ := HK.drew.cell (i := k) (by omega)
          rw [hx] at cx0 cx1
          rw [hy] at cy0 cy1
          simp at cx0 cx1 cy0 cy1 fx0 fx1 fy0 fy1
          have b1 : (k : Int) < (N : Int) := by omega
          have b2 : (k : Int) + 1 < (N : Int) := by omega
          have HX : Hid _ := hx
          have HY : Hid _ := hy
          clear hx hy
          go_wp2_with fail
          go_region
          go_wp2
          go_roundg (k - i)
          case measure => omega
          case rel => exact ⟨k, _, by go_num, by omega, by omega, Nat.le_refl _, HK.swap (by omega) (by omega) HX.out HY.out, (show Aside _ from rot_down m k d dk HRt.out (by omega) (by have := h.size; omega))⟩
        · have g1 : ¬ (i : Int) < (k0 : Int) := by omega
          go_wp2
          refine bodyPost_ret (results_none rfl _ _ _) rfl ?_
          obtain rfl : k0 = i := by omega
          have hf := sym_right hai hjb (by have := h.size; omega) HSR.out HB.out.1 HB.out.2 HRt.out
          exact ⟨rfl, dk, hf.1, hf.2, HK⟩
end Go.Proofs.Ytgihlnbmjoffjaa
