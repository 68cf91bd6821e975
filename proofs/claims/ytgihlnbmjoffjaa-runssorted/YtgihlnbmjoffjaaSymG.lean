/-
  slices.symMergeCmpFunc at items, the general case: cut by a search, a rotation, and twice itself.
-/
import Derived.Test.YtgihlnbmjoffjaaSymW
namespace Go.Proofs.Ytgihlnbmjoffjaa
open Go.RowKit Go.Sort Go.Proofs

/-- What symMerge is asked: two neighbouring sorted stretches become one, and nothing of one key changes its order. -/
def SymSaid (w0 : World) (blk off cap N a m b : Nat) (d : Array (Int × Int)) : Prop :=
  ∀ W, At w0 blk off N d W → Calls Try.prog 46 #[.slice (some ⟨blk, off, none⟩) N cap, .int .i64 a, .int .i64 m, .int .i64 b, .func (.func 17) #[] #[]] W fun e w' =>
      e = .returned (.tuple #[]) ∧ ∃ d', Mgd a b d d' ∧ Srt a b d' ∧ At w0 blk off N d' w'

set_option maxHeartbeats 8000000 in
set_option maxRecDepth 100000 in
theorem symMerge_big (w0 : World) (blk off cap N a m b mid : Nat) (d : Array (Int × Int))
    (ham : a + 1 < m) (hmb : m + 1 < b) (hb : b ≤ N) (hsz : N < 4611686018427387904) (hs1 : Srt a m d) (hs2 : Srt m b d) (hmid : mid = (a + b) / 2) (hcase : mid < m)
    (ih : ∀ a' m' b' d', b' - a' < b - a → a' < m' → m' < b' → b' ≤ N → Srt a' m' d' → Srt m' b' d' → SymSaid w0 blk off cap N a' m' b' d') : SymSaid w0 blk off cap N a m b d := by
  intro W h
  have HIH : Aside _ := ih
  have HS1 : Aside _ := hs1
  have HS2 : Aside _ := hs2
  have mixed : Try.prog.follows .mixedOrders = true := by kernel_rfl
  have q0 : ((m : Int) - (a : Int) == 1) = false := beq_eq_false_iff_ne.2 (by omega)
  have q1 : ((b : Int) - (m : Int) == 1) = false := beq_eq_false_iff_ne.2 (by omega)
  have e1 : ((a : Int) + (b : Int)) / 2 = (mid : Int) := by omega
  have m1 : a < mid := by omega
  have m2 : mid < b := by omega
  have m3 : a + b ≤ 2 * mid + 1 := by omega
  have m4 : 2 * mid ≤ a + b := by omega
  have HM : Hid _ := hmid
  clear ih hs1 hs2 hmid
  obtain ⟨s0, hs0⟩ : ∃ s0, s0 = mid + m - b := ⟨_, rfl⟩
  have z1 : (mid : Int) + (m : Int) - (b : Int) = (s0 : Int) := by omega
  have z2 : s0 + b = mid + m := by omega
  have z3 : a ≤ s0 := by omega
  have z4 : s0 ≤ mid := by omega
  have H0 : Hid _ := hs0
  clear hs0
  go_enter Try.func46, Try.ntmps46
  go_wp2
  go_loopg [20, 21] (b - a) (fun g vi vj wr => ∃ (s r : Nat), vi = .int .i64 s ∧ vj = .int .i64 r ∧ s0 ≤ s ∧ s ≤ r ∧ r ≤ mid ∧ r - s ≤ g ∧ At w0 blk off N d wr ∧
    Aside ((∀ c, s0 ≤ c → c < s → d[c]!.1 ≤ d[mid + m - 1 - c]!.1) ∧ (∀ c, r ≤ c → c < mid → d[mid + m - 1 - c]!.1 < d[c]!.1)))
  case atStart => exact ⟨s0, mid, by first | rfl | go_num, by first | rfl | go_num, by omega, by omega, by omega, by omega, h, (show Aside _ from ⟨fun t h1 h2 => by omega, fun t h1 h2 => by omega⟩)⟩
  case round =>
    obtain ⟨s, r, rfl, rfl, hs0s, hsr, hrr, hg, HS, HB⟩ := hrel
    by_cases hlt : s < r
    · obtain ⟨c, hc⟩ : ∃ c, c = (s + r) / 2 := ⟨_, rfl⟩
      have c1 : s ≤ c := by omega
      have c2 : c < r := by omega
      have e2 : ((s : Int) + (r : Int)) / 2 = (c : Int) := by omega
      obtain ⟨pc, hpc⟩ : ∃ pc, pc = mid + m - 1 - c := ⟨_, rfl⟩
      have e3 : IntKind.i64.wrap ((mid : Int) + (m : Int) - 1 - (c : Int)) = (pc : Int) := by rw [IntKind.wrap_i64]; omega
      have p1 : m ≤ pc := by omega
      have p2 : pc < b := by omega
      have b1 : (c : Int) < (N : Int) := by omega
      have b2 : (pc : Int) < (N : Int) := by omega
      obtain ⟨x, hx⟩ : ∃ x, d[pc]! = x := ⟨_, rfl⟩
      obtain ⟨y, hy⟩ : ∃ y, d[c]! = y := ⟨_, rfl⟩
      have cx0 := HS.cellG (i := pc) (by omega) hx
      have cx1 := HS.cellG1 (i := pc) (by omega) hx
      have cy0 := HS.cellG (i := c) (by omega) hy
      have cy1 := HS.cellG1 (i := c) (by omega) hy
      have HX : Hid _ := hx
      have HY : Hid _ := hy
      have HC : Hid _ := hc
      have HPC : Hid _ := hpc
      clear hx hy hc hpc
      have hcg := fun n os => byKey_any x y (grow (wr.drewN n) os)
      have hcn := cmpI_neg x.1 y.1
      generalize cmpI x.1 y.1 = r' at hcg hcn
      have HCN : Hid _ := hcn
      have HCG : Aside _ := hcg
      clear hcn hcg
      by_cases hr : r' < 0
      · have hd : decide (r' < 0) = true := decide_eq_true hr
        go_wp2_with fail
        go_quiet_grown (first | (go_at_call 17; refine Calls.grown_of (HCG.out _ _)))
        go_wp2
        go_roundg (c - s)
        case measure => omega
        case rel =>
          refine ⟨s, c, rfl, rfl, hs0s, c1, by omega, Nat.le_refl _, HS.grown _ _, (show Aside _ from ⟨HB.out.1, fun t t1 t2 => ?_⟩)⟩
          have k1 := HS1.out c t (by omega) t1 (by omega)
          have k2 := HS2.out (mid + m - 1 - t) pc (by omega) (by have := HPC.out; omega) p2
          rw [HY.out] at k1
          rw [HX.out] at k2
          have := HCN.out.1 hr
          omega
      · have hd : decide (r' < 0) = false := decide_eq_false hr
        go_wp2_with fail
        go_quiet_grown (first | (go_at_call 17; refine Calls.grown_of (HCG.out _ _)))
        go_wp2
        go_roundg (r - (c + 1))
        case measure => omega
        case rel =>
          refine ⟨c + 1, r, by go_num, rfl, by omega, by omega, hrr, Nat.le_refl _, HS.grown _ _, (show Aside _ from ⟨fun t t1 t2 => ?_, HB.out.2⟩)⟩
          have k1 := HS1.out t c (by omega) (by omega) (by omega)
          have k2 := HS2.out pc (mid + m - 1 - t) p1 (by have := HPC.out; omega) (by omega)
          rw [HY.out] at k1
          rw [HX.out] at k2
          have := mt HCN.out.2 (by omega)
          omega
    · obtain rfl : s = r := by omega
      obtain ⟨en, hen⟩ : ∃ en, en = mid + m - s := ⟨_, rfl⟩
      have e4 : (mid : Int) + (m : Int) - (s : Int) = (en : Int) := by omega
      have n1 : en + s = mid + m := by omega
      have n2 : m ≤ en := by omega
      have n3 : en ≤ b := by omega
      have n4 : a ≤ s := by omega
      have HEN : Hid _ := hen
      clear hen
      have cut : ∀ d1, Rot s m en d d1 → _ := fun d1 hrot => sym_cut (mid := mid) (s := s) (e := d1) (s0 := s0) (r0 := mid) (by omega) (by omega) (by have := h.size; omega) HS1.out HS2.out HM.out
        (by rw [if_pos hcase]; exact H0.out) (by rw [if_pos hcase]) hs0s hrr HB.out.1 HB.out.2 (by rw [← HEN.out]; exact hrot)
      rw [← HEN.out] at cut
      have CUT : Aside _ := cut
      clear cut
      by_cases hsm : s = mid
      · have f1 : (s : Int) < (m : Int) := by omega
        have f2 : ¬ (m : Int) < (en : Int) := by omega
        have f3 : (a : Int) < (s : Int) := by omega
        have f4 : ¬ (s : Int) < (mid : Int) := by omega
        have f5 : (mid : Int) < (en : Int) := by omega
        have f6 : (en : Int) < (b : Int) := by omega
        have HSM : Hid _ := hsm
        clear hsm
        obtain ⟨k1, _, k3, k4, k5, t1, t2, t3, t4, cr⟩ := CUT.out d (by rw [show en = m by omega]; exact Rot.id_right s m d)
        have K1 : Aside _ := k1
        have T1 : Aside _ := t1
        have T2 : Aside _ := t2
        have T3 : Aside _ := t3
        have T4 : Aside _ := t4
        have CR : Aside _ := cr
        clear k1 t1 t2 t3 t4 cr
        go_wp2_with fail
        refine (HIH.out mid en b d (by omega) (by omega) (by omega) (by omega) (Srt.congr T3.out fun t c1 _ => (Mgd.refl a mid d).out t (Or.inr c1)) (Srt.congr T4.out fun t c1 _ => (Mgd.refl a mid d).out t (Or.inr (by omega))) _ HS).mono ?_
        rintro e w3 ⟨rfl, d3, M3, S3, H3⟩
        go_wp2
        go_end0
        have hf := sym_fin (by omega) (by omega) K1.out (Mgd.refl a mid d) (by have := T1.out; rwa [HSM.out] at this) M3 S3 CR.out
        exact ⟨rfl, d3, hf.1, hf.2, H3⟩
      · have f1 : (s : Int) < (m : Int) := by omega
        have f2 : (m : Int) < (en : Int) := by omega
        have f4 : (s : Int) < (mid : Int) := by omega
        have f5 : (mid : Int) < (en : Int) := by omega
        by_cases hB : a < s
        · have f3 : (a : Int) < (s : Int) := by omega
          by_cases hC : en < b
          · have f6 : (en : Int) < (b : Int) := by omega
            go_wp2_with fail
            refine (rotate_any w0 blk off cap N s m en d _ _ HS (by omega) (by omega) (by omega) hsz).mono ?_
            rintro e w1 ⟨rfl, d1, hrot, H1⟩
            obtain ⟨k1, _, k3, k4, k5, t1, t2, t3, t4, cr⟩ := CUT.out d1 hrot
            have K1 : Aside _ := k1
            have T1 : Aside _ := t1
            have T2 : Aside _ := t2
            have T3 : Aside _ := t3
            have T4 : Aside _ := t4
            have CR : Aside _ := cr
            clear k1 t1 t2 t3 t4 cr
            go_wp2_with fail
            refine (HIH.out a s mid d1 (by omega) (by omega) (by omega) (by omega) T1.out T2.out _ H1).mono ?_
            rintro e w2 ⟨rfl, d2, M2, S2, H2⟩
            have MM2 : Aside _ := M2
            have SS2 : Aside _ := S2
            clear M2 S2
            go_wp2_with fail
            refine (HIH.out mid en b d2 (by omega) (by omega) (by omega) (by omega) (Srt.congr T3.out fun t c1 _ => MM2.out.out t (Or.inr c1)) (Srt.congr T4.out fun t c1 _ => MM2.out.out t (Or.inr (by omega))) _ H2).mono ?_
            rintro e w3 ⟨rfl, d3, M3, S3, H3⟩
            go_wp2
            go_end0
            have hf := sym_fin (by omega) (by omega) K1.out MM2.out SS2.out M3 S3 CR.out
            exact ⟨rfl, d3, hf.1, hf.2, H3⟩
          · have f6 : ¬ (en : Int) < (b : Int) := by omega
            have HEB : Hid (en = b) := (by show en = b; omega)
            go_wp2_with fail
            refine (rotate_any w0 blk off cap N s m en d _ _ HS (by omega) (by omega) (by omega) hsz).mono ?_
            rintro e w1 ⟨rfl, d1, hrot, H1⟩
            obtain ⟨k1, _, k3, k4, k5, t1, t2, t3, t4, cr⟩ := CUT.out d1 hrot
            have K1 : Aside _ := k1
            have T1 : Aside _ := t1
            have T2 : Aside _ := t2
            have T3 : Aside _ := t3
            have T4 : Aside _ := t4
            have CR : Aside _ := cr
            clear k1 t1 t2 t3 t4 cr
            go_wp2_with fail
            refine (HIH.out a s mid d1 (by omega) (by omega) (by omega) (by omega) T1.out T2.out _ H1).mono ?_
            rintro e w2 ⟨rfl, d2, M2, S2, H2⟩
            have MM2 : Aside _ := M2
            have SS2 : Aside _ := S2
            clear M2 S2
            go_wp2
            go_end0
            have hf := sym_fin (by omega) (by omega) K1.out MM2.out SS2.out (Mgd.refl mid b d2) (by have := Srt.congr T3.out (d' := d2) fun t c1 _ => MM2.out.out t (Or.inr c1); rwa [HEB.out] at this) CR.out
            exact ⟨rfl, d2, hf.1, hf.2, H2⟩
        · have f3 : ¬ (a : Int) < (s : Int) := by omega
          have HAS : Hid (s = a) := (by show s = a; omega)
          by_cases hC : en < b
          · have f6 : (en : Int) < (b : Int) := by omega
            go_wp2_with fail
            refine (rotate_any w0 blk off cap N s m en d _ _ HS (by omega) (by omega) (by omega) hsz).mono ?_
            rintro e w1 ⟨rfl, d1, hrot, H1⟩
            obtain ⟨k1, _, k3, k4, k5, t1, t2, t3, t4, cr⟩ := CUT.out d1 hrot
            have K1 : Aside _ := k1
            have T1 : Aside _ := t1
            have T2 : Aside _ := t2
            have T3 : Aside _ := t3
            have T4 : Aside _ := t4
            have CR : Aside _ := cr
            clear k1 t1 t2 t3 t4 cr
            go_wp2_with fail
            refine (HIH.out mid en b d1 (by omega) (by omega) (by omega) (by omega) (Srt.congr T3.out fun t c1 _ => (Mgd.refl a mid d1).out t (Or.inr c1)) (Srt.congr T4.out fun t c1 _ => (Mgd.refl a mid d1).out t (Or.inr (by omega))) _ H1).mono ?_
            rintro e w3 ⟨rfl, d3, M3, S3, H3⟩
            go_wp2
            go_end0
            have hf := sym_fin (by omega) (by omega) K1.out (Mgd.refl a mid d1) (by have := T2.out; rwa [HAS.out] at this) M3 S3 CR.out
            exact ⟨rfl, d3, hf.1, hf.2, H3⟩
          · have f6 : ¬ (en : Int) < (b : Int) := by omega
            have HEB : Hid (en = b) := (by show en = b; omega)
            go_wp2_with fail
            refine (rotate_any w0 blk off cap N s m en d _ _ HS (by omega) (by omega) (by omega) hsz).mono ?_
            rintro e w1 ⟨rfl, d1, hrot, H1⟩
            obtain ⟨k1, _, k3, k4, k5, t1, t2, t3, t4, cr⟩ := CUT.out d1 hrot
            have K1 : Aside _ := k1
            have T1 : Aside _ := t1
            have T2 : Aside _ := t2
            have T3 : Aside _ := t3
            have T4 : Aside _ := t4
            have CR : Aside _ := cr
            clear k1 t1 t2 t3 t4 cr
            go_wp2
            go_end0
            have hf := sym_fin (by omega) (by omega) K1.out (Mgd.refl a mid d1) (by have := T2.out; rwa [HAS.out] at this) (Mgd.refl mid b d1) (by have := Srt.congr T3.out (d' := d1) fun t c1 _ => (Mgd.refl a mid d1).out t (Or.inr c1); rwa [HEB.out] at this) CR.out
            exact ⟨rfl, d1, hf.1, hf.2, H1⟩

set_option maxHeartbeats 8000000 in
set_option maxRecDepth 100000 in
theorem symMerge_small (w0 : World) (blk off cap N a m b mid : Nat) (d : Array (Int × Int))
    (ham : a + 1 < m) (hmb : m + 1 < b) (hb : b ≤ N) (hsz : N < 4611686018427387904) (hs1 : Srt a m d) (hs2 : Srt m b d) (hmid : mid = (a + b) / 2) (hcase : ¬ mid < m)
    (ih : ∀ a' m' b' d', b' - a' < b - a → a' < m' → m' < b' → b' ≤ N → Srt a' m' d' → Srt m' b' d' → SymSaid w0 blk off cap N a' m' b' d') : SymSaid w0 blk off cap N a m b d := by
  intro W h
  have HIH : Aside _ := ih
  have HS1 : Aside _ := hs1
  have HS2 : Aside _ := hs2
  have mixed : Try.prog.follows .mixedOrders = true := by kernel_rfl
  have q0 : ((m : Int) - (a : Int) == 1) = false := beq_eq_false_iff_ne.2 (by omega)
  have q1 : ((b : Int) - (m : Int) == 1) = false := beq_eq_false_iff_ne.2 (by omega)
  have e1 : ((a : Int) + (b : Int)) / 2 = (mid : Int) := by omega
  have m1 : a < mid := by omega
  have m2 : mid < b := by omega
  have m3 : a + b ≤ 2 * mid + 1 := by omega
  have m4 : 2 * mid ≤ a + b := by omega
  have HM : Hid _ := hmid
  clear ih hs1 hs2 hmid
  go_enter Try.func46, Try.ntmps46
  go_wp2
  go_loopg [20, 21] (b - a) (fun g vi vj wr => ∃ (s r : Nat), vi = .int .i64 s ∧ vj = .int .i64 r ∧ a ≤ s ∧ s ≤ r ∧ r ≤ m ∧ r - s ≤ g ∧ At w0 blk off N d wr ∧
    Aside ((∀ c, a ≤ c → c < s → d[c]!.1 ≤ d[mid + m - 1 - c]!.1) ∧ (∀ c, r ≤ c → c < m → d[mid + m - 1 - c]!.1 < d[c]!.1)))
  case atStart => exact ⟨a, m, by first | rfl | go_num, by first | rfl | go_num, by omega, by omega, by omega, by omega, h, (show Aside _ from ⟨fun t h1 h2 => by omega, fun t h1 h2 => by omega⟩)⟩
  case round =>
    obtain ⟨s, r, rfl, rfl, hs0s, hsr, hrr, hg, HS, HB⟩ := hrel
    by_cases hlt : s < r
    · obtain ⟨c, hc⟩ : ∃ c, c = (s + r) / 2 := ⟨_, rfl⟩
      have c1 : s ≤ c := by omega
      have c2 : c < r := by omega
      have e2 : ((s : Int) + (r : Int)) / 2 = (c : Int) := by omega
      obtain ⟨pc, hpc⟩ : ∃ pc, pc = mid + m - 1 - c := ⟨_, rfl⟩
      have e3 : IntKind.i64.wrap ((mid : Int) + (m : Int) - 1 - (c : Int)) = (pc : Int) := by rw [IntKind.wrap_i64]; omega
      have p1 : m ≤ pc := by omega
      have p2 : pc < b := by omega
      have b1 : (c : Int) < (N : Int) := by omega
      have b2 : (pc : Int) < (N : Int) := by omega
      obtain ⟨x, hx⟩ : ∃ x, d[pc]! = x := ⟨_, rfl⟩
      obtain ⟨y, hy⟩ : ∃ y, d[c]! = y := ⟨_, rfl⟩
      have cx0 := HS.cellG (i := pc) (by omega) hx
      have cx1 := HS.cellG1 (i := pc) (by omega) hx
      have cy0 := HS.cellG (i := c) (by omega) hy
      have cy1 := HS.cellG1 (i := c) (by omega) hy
      have HX : Hid _ := hx
      have HY : Hid _ := hy
      have HC : Hid _ := hc
      have HPC : Hid _ := hpc
      clear hx hy hc hpc
      have hcg := fun n os => byKey_any x y (grow (wr.drewN n) os)
      have hcn := cmpI_neg x.1 y.1
      generalize cmpI x.1 y.1 = r' at hcg hcn
      have HCN : Hid _ := hcn
      have HCG : Aside _ := hcg
      clear hcn hcg
      by_cases hr : r' < 0
      · have hd : decide (r' < 0) = true := decide_eq_true hr
        go_wp2_with fail
        go_quiet_grown (first | (go_at_call 17; refine Calls.grown_of (HCG.out _ _)))
        go_wp2
        go_roundg (c - s)
        case measure => omega
        case rel =>
          refine ⟨s, c, rfl, rfl, hs0s, c1, by omega, Nat.le_refl _, HS.grown _ _, (show Aside _ from ⟨HB.out.1, fun t t1 t2 => ?_⟩)⟩
          have k1 := HS1.out c t (by omega) t1 (by omega)
          have k2 := HS2.out (mid + m - 1 - t) pc (by omega) (by have := HPC.out; omega) p2
          rw [HY.out] at k1
          rw [HX.out] at k2
          have := HCN.out.1 hr
          omega
      · have hd : decide (r' < 0) = false := decide_eq_false hr
        go_wp2_with fail
        go_quiet_grown (first | (go_at_call 17; refine Calls.grown_of (HCG.out _ _)))
        go_wp2
        go_roundg (r - (c + 1))
        case measure => omega
        case rel =>
          refine ⟨c + 1, r, by go_num, rfl, by omega, by omega, hrr, Nat.le_refl _, HS.grown _ _, (show Aside _ from ⟨fun t t1 t2 => ?_, HB.out.2⟩)⟩
          have k1 := HS1.out t c (by omega) (by omega) (by omega)
          have k2 := HS2.out pc (mid + m - 1 - t) p1 (by have := HPC.out; omega) (by omega)
          rw [HY.out] at k1
          rw [HX.out] at k2
          have := mt HCN.out.2 (by omega)
          omega
    · obtain rfl : s = r := by omega
      obtain ⟨en, hen⟩ : ∃ en, en = mid + m - s := ⟨_, rfl⟩
      have e4 : (mid : Int) + (m : Int) - (s : Int) = (en : Int) := by omega
      have n1 : en + s = mid + m := by omega
      have n2 : m ≤ en := by omega
      have n3 : en ≤ b := by omega
      have n4 : a ≤ s := by omega
      have HEN : Hid _ := hen
      clear hen
      have cut : ∀ d1, Rot s m en d d1 → _ := fun d1 hrot => sym_cut (mid := mid) (s := s) (e := d1) (s0 := a) (r0 := m) (by omega) (by omega) (by have := h.size; omega) HS1.out HS2.out HM.out
        (by rw [if_neg (by omega)]) (by rw [if_neg (by omega)]) hs0s hrr HB.out.1 HB.out.2 (by rw [← HEN.out]; exact hrot)
      rw [← HEN.out] at cut
      have CUT : Aside _ := cut
      clear cut
      by_cases hsm : s = m
      · have f1 : ¬ (s : Int) < (m : Int) := by omega
        have f5 : ¬ (mid : Int) < (en : Int) := by omega
        have f3 : (a : Int) < (s : Int) := by omega
        have HSM : Hid _ := hsm
        clear hsm
        by_cases hB : s < mid
        · have f4 : (s : Int) < (mid : Int) := by omega
          obtain ⟨k1, _, k3, k4, k5, t1, t2, t3, t4, cr⟩ := CUT.out d (by rw [show en = mid by have := HSM.out; omega, HSM.out]; exact Rot.id_left m mid d)
          have K1 : Aside _ := k1
          have T1 : Aside _ := t1
          have T2 : Aside _ := t2
          have T3 : Aside _ := t3
          have T4 : Aside _ := t4
          have CR : Aside _ := cr
          clear k1 t1 t2 t3 t4 cr
          go_wp2_with fail
          refine (HIH.out a s mid d (by omega) (by omega) (by omega) (by omega) T1.out T2.out _ HS).mono ?_
          rintro e w2 ⟨rfl, d2, M2, S2, H2⟩
          have MM2 : Aside _ := M2
          have SS2 : Aside _ := S2
          clear M2 S2
          go_wp2
          go_end0
          have hf := sym_fin (by omega) (by omega) K1.out MM2.out SS2.out (Mgd.refl mid b d2) ((Srt.congr T4.out fun t c1 _ => MM2.out.out t (Or.inr (by omega))).sub (by have := HSM.out; omega) (Nat.le_refl _)) CR.out
          exact ⟨rfl, d2, hf.1, hf.2, H2⟩
        · have f4 : ¬ (s : Int) < (mid : Int) := by omega
          have HMM : Hid (s = mid) := (by have := HSM.out; show s = mid; omega)
          obtain ⟨k1, _, k3, k4, k5, t1, t2, t3, t4, cr⟩ := CUT.out d (by rw [show en = mid by have := HSM.out; omega, HSM.out]; exact Rot.id_left m mid d)
          have K1 : Aside _ := k1
          have T1 : Aside _ := t1
          have T2 : Aside _ := t2
          have T3 : Aside _ := t3
          have T4 : Aside _ := t4
          have CR : Aside _ := cr
          clear k1 t1 t2 t3 t4 cr
          go_wp2
          go_end0
          have hf := sym_fin (by omega) (by omega) K1.out (Mgd.refl a mid d) (by have := T1.out; rwa [HMM.out] at this) (Mgd.refl mid b d) ((Srt.congr T4.out fun t c1 _ => (Mgd.refl a mid d).out t (Or.inr (by omega))).sub (by have := HSM.out; omega) (Nat.le_refl _)) CR.out
          exact ⟨rfl, d, hf.1, hf.2, HS⟩
      · have f1 : (s : Int) < (m : Int) := by omega
        have f2 : (m : Int) < (en : Int) := by omega
        have f4 : (s : Int) < (mid : Int) := by omega
        have f5 : (mid : Int) < (en : Int) := by omega
        by_cases hB : a < s
        · have f3 : (a : Int) < (s : Int) := by omega
          by_cases hC : en < b
          · have f6 : (en : Int) < (b : Int) := by omega
            go_wp2_with fail
            refine (rotate_any w0 blk off cap N s m en d _ _ HS (by omega) (by omega) (by omega) hsz).mono ?_
            rintro e w1 ⟨rfl, d1, hrot, H1⟩
            obtain ⟨k1, _, k3, k4, k5, t1, t2, t3, t4, cr⟩ := CUT.out d1 hrot
            have K1 : Aside _ := k1
            have T1 : Aside _ := t1
            have T2 : Aside _ := t2
            have T3 : Aside _ := t3
            have T4 : Aside _ := t4
            have CR : Aside _ := cr
            clear k1 t1 t2 t3 t4 cr
            go_wp2_with fail
            refine (HIH.out a s mid d1 (by omega) (by omega) (by omega) (by omega) T1.out T2.out _ H1).mono ?_
            rintro e w2 ⟨rfl, d2, M2, S2, H2⟩
            have MM2 : Aside _ := M2
            have SS2 : Aside _ := S2
            clear M2 S2
            go_wp2_with fail
            refine (HIH.out mid en b d2 (by omega) (by omega) (by omega) (by omega) (Srt.congr T3.out fun t c1 _ => MM2.out.out t (Or.inr c1)) (Srt.congr T4.out fun t c1 _ => MM2.out.out t (Or.inr (by omega))) _ H2).mono ?_
            rintro e w3 ⟨rfl, d3, M3, S3, H3⟩
            go_wp2
            go_end0
            have hf := sym_fin (by omega) (by omega) K1.out MM2.out SS2.out M3 S3 CR.out
            exact ⟨rfl, d3, hf.1, hf.2, H3⟩
          · have f6 : ¬ (en : Int) < (b : Int) := by omega
            have HEB : Hid (en = b) := (by show en = b; omega)
            go_wp2_with fail
            refine (rotate_any w0 blk off cap N s m en d _ _ HS (by omega) (by omega) (by omega) hsz).mono ?_
            rintro e w1 ⟨rfl, d1, hrot, H1⟩
            obtain ⟨k1, _, k3, k4, k5, t1, t2, t3, t4, cr⟩ := CUT.out d1 hrot
            have K1 : Aside _ := k1
            have T1 : Aside _ := t1
            have T2 : Aside _ := t2
            have T3 : Aside _ := t3
            have T4 : Aside _ := t4
            have CR : Aside _ := cr
            clear k1 t1 t2 t3 t4 cr
            go_wp2_with fail
            refine (HIH.out a s mid d1 (by omega) (by omega) (by omega) (by omega) T1.out T2.out _ H1).mono ?_
            rintro e w2 ⟨rfl, d2, M2, S2, H2⟩
            have MM2 : Aside _ := M2
            have SS2 : Aside _ := S2
            clear M2 S2
            go_wp2
            go_end0
            have hf := sym_fin (by omega) (by omega) K1.out MM2.out SS2.out (Mgd.refl mid b d2) (by have := Srt.congr T3.out (d' := d2) fun t c1 _ => MM2.out.out t (Or.inr c1); rwa [HEB.out] at this) CR.out
            exact ⟨rfl, d2, hf.1, hf.2, H2⟩
        · have f3 : ¬ (a : Int) < (s : Int) := by omega
          have HAS : Hid (s = a) := (by show s = a; omega)
          by_cases hC : en < b
          · have f6 : (en : Int) < (b : Int) := by omega
            go_wp2_with fail
            refine (rotate_any w0 blk off cap N s m en d _ _ HS (by omega) (by omega) (by omega) hsz).mono ?_
            rintro e w1 ⟨rfl, d1, hrot, H1⟩
            obtain ⟨k1, _, k3, k4, k5, t1, t2, t3, t4, cr⟩ := CUT.out d1 hrot
            have K1 : Aside _ := k1
            have T1 : Aside _ := t1
            have T2 : Aside _ := t2
            have T3 : Aside _ := t3
            have T4 : Aside _ := t4
            have CR : Aside _ := cr
            clear k1 t1 t2 t3 t4 cr
            go_wp2_with fail
            refine (HIH.out mid en b d1 (by omega) (by omega) (by omega) (by omega) (Srt.congr T3.out fun t c1 _ => (Mgd.refl a mid d1).out t (Or.inr c1)) (Srt.congr T4.out fun t c1 _ => (Mgd.refl a mid d1).out t (Or.inr (by omega))) _ H1).mono ?_
            rintro e w3 ⟨rfl, d3, M3, S3, H3⟩
            go_wp2
            go_end0
            have hf := sym_fin (by omega) (by omega) K1.out (Mgd.refl a mid d1) (by have := T2.out; rwa [HAS.out] at this) M3 S3 CR.out
            exact ⟨rfl, d3, hf.1, hf.2, H3⟩
          · have f6 : ¬ (en : Int) < (b : Int) := by omega
            have HEB : Hid (en = b) := (by show en = b; omega)
            go_wp2_with fail
            refine (rotate_any w0 blk off cap N s m en d _ _ HS (by omega) (by omega) (by omega) hsz).mono ?_
            rintro e w1 ⟨rfl, d1, hrot, H1⟩
            obtain ⟨k1, _, k3, k4, k5, t1, t2, t3, t4, cr⟩ := CUT.out d1 hrot
            have K1 : Aside _ := k1
            have T1 : Aside _ := t1
            have T2 : Aside _ := t2
            have T3 : Aside _ := t3
            have T4 : Aside _ := t4
            have CR : Aside _ := cr
            clear k1 t1 t2 t3 t4 cr
            go_wp2
            go_end0
            have hf := sym_fin (by omega) (by omega) K1.out (Mgd.refl a mid d1) (by have := T2.out; rwa [HAS.out] at this) (Mgd.refl mid b d1) (by have := Srt.congr T3.out (d' := d1) fun t c1 _ => (Mgd.refl a mid d1).out t (Or.inr c1); rwa [HEB.out] at this) CR.out
            exact ⟨rfl, d1, hf.1, hf.2, H1⟩

theorem symMerge_any (w0 : World) (blk off cap N : Nat) (hsz : N < 4611686018427387904) : ∀ (n a m b : Nat) (d : Array (Int × Int)), b - a < n → a < m → m < b → b ≤ N → Srt a m d → Srt m b d → SymSaid w0 blk off cap N a m b d
  | 0, _, _, _, _, h, _, _, _, _, _ => absurd h (Nat.not_lt_zero _)
  | n + 1, a, m, b, d, hn, ham, hmb, hb, h1, h2 => by
    by_cases c1 : m = a + 1
    · subst c1
      exact fun W h => symMerge_left w0 blk off cap N a b d W h hmb hb hsz h2
    · by_cases c2 : b = m + 1
      · subst c2
        exact fun W h => symMerge_right w0 blk off cap N a m d W h (by omega) hb hsz h1
      · have ih : ∀ a' m' b' d', b' - a' < b - a → a' < m' → m' < b' → b' ≤ N → Srt a' m' d' → Srt m' b' d' → SymSaid w0 blk off cap N a' m' b' d' :=
          fun a' m' b' d' q1 q2 q3 q4 q5 q6 => symMerge_any w0 blk off cap N hsz n a' m' b' d' (by omega) q2 q3 q4 q5 q6
        by_cases c3 : (a + b) / 2 < m
        · exact symMerge_big w0 blk off cap N a m b _ d (by omega) (by omega) hb hsz h1 h2 rfl c3 ih
        · exact symMerge_small w0 blk off cap N a m b _ d (by omega) (by omega) hb hsz h1 h2 rfl c3 ih
#print axioms symMerge_any
end Go.Proofs.Ytgihlnbmjoffjaa
