/-
  Texts that the proof leans on, packed: SymG, InsW, StabW, SortW, SortedW, SMath, As, Told, LawBSorts.
-/
import Derived.Test.YtmkjalpgeljnkaaDoorPack6
import Derived.Test.YtmkjalpgeljnkaaDoorPack1
import Derived.Test.YtmkjalpgeljnkaaDoorPack4
import Derived.LaidEql
import Derived.Stop.Asserts
import Derived.RowKitTokens

/-
  slices.symMergeCmpFunc at items, the general case: cut by a search, a rotation, and twice itself.
-/
namespace Go.Proofs.YtmkjalpgeljnkaaDoor
open Go.RowKit Go.Sort Go.Proofs

/-- What symMerge is asked: two neighbouring sorted stretches become one, and nothing of one key changes its order. -/
def SymSaid (w0 : World) (blk off cap N a m b : Nat) (d : Array (Int × Int)) : Prop :=
  ∀ W, At w0 blk off N d W → Calls Tryd.prog 57 #[.slice (some ⟨blk, off, none⟩) N cap, .int .i64 a, .int .i64 m, .int .i64 b, .func (.func 43) #[] #[]] W fun e w' =>
      e = .returned (.tuple #[]) ∧ ∃ d', Mgd a b d d' ∧ Srt a b d' ∧ At w0 blk off N d' w'

set_option maxHeartbeats 8000000 in
set_option maxRecDepth 100000 in
theorem symMerge_big (w0 : World) (blk off cap N a m b mid : Nat) (d : Array (Int × Int))
    (ham : a + 1 < m) (hmb : m + 1 < b) (hb : b ≤ N) (hsz : N < 4611686018427387904) (hs1 : Srt a m d) (hs2 : Srt m b d) (hmid : mid = (a + b) / 2) (hcase : mid < m)
    (ih : ∀ a' m' b' d', b' - a' < b - a → a' < m' → m' < b' → b' ≤ N → Srt a' m' d' → Srt m' b' d' → SymSaid w0 blk off cap N a' m' b' d') : SymSaid w0 blk off cap N a m b d := by
  intro W h
  have HIH : Aside _ := ih
  have HS1 : Aside _ := hs1
  have HS2 : Aside _ := hs2
  have mixed : Tryd.prog.follows .mixedOrders = true := by kernel_rfl
  have q0 : ((m : Int) - (a : Int) == 1) = false := beq_eq_false_iff_ne.2 (by omega)
  have q1 : ((b : Int) - (m : Int) == 1) = false := beq_eq_false_iff_ne.2 (by omega)
  have e1 : ((a : Int) + (b : Int)) / 2 = (mid : Int) := by omega
  have m1 : a < mid := by omega
  have m2 : mid < b := by omega
  have m3 : a + b ≤ 2 * mid + 1 := by omega
  have m4 : 2 * mid ≤ a + b := by omega
  have HM : Hid _ := hmid
  clear ih hs1 hs2 hmid
  obtain ⟨s0, hs0⟩ : ∃ s0, s0 = mid + m - b := ⟨_, rfl⟩
  have z1 : (mid : Int) + (m : Int) - (b : Int) = (s0 : Int) := by omega
  have z2 : s0 + b = mid + m := by omega
  have z3 : a ≤ s0 := by omega
  have z4 : s0 ≤ mid := by omega
  have H0 : Hid _ := hs0
  clear hs0
  go_enter Tryd.func57, Tryd.ntmps57
  go_wp2
  go_loopg [20, 21] (b - a) (fun g vi vj wr => ∃ (s r : Nat), vi = .int .i64 s ∧ vj = .int .i64 r ∧ s0 ≤ s ∧ s ≤ r ∧ r ≤ mid ∧ r - s ≤ g ∧ At w0 blk off N d wr ∧
    Aside ((∀ c, s0 ≤ c → c < s → d[c]!.1 ≤ d[mid + m - 1 - c]!.1) ∧ (∀ c, r ≤ c → c < mid → d[mid + m - 1 - c]!.1 < d[c]!.1)))
  case atStart => exact ⟨s0, mid, by first | rfl | go_num, by first | rfl | go_num, by omega, by omega, by omega, by omega, h, (show Aside _ from ⟨fun t h1 h2 => by omega, fun t h1 h2 => by omega⟩)⟩
  case round =>
    obtain ⟨s, r, rfl, rfl, hs0s, hsr, hrr, hg, HS, HB⟩ := hrel
    by_cases hlt : s < r
    · obtain ⟨c, hc⟩ : ∃ c, c = (s + r) / 2 := ⟨_, rfl⟩
      have c1 : s ≤ c := by omega
      have c2 : c < r := by omega
      have e2 : ((s : Int) + (r : Int)) / 2 = (c : Int) := by omega
      obtain ⟨pc, hpc⟩ : ∃ pc, pc = mid + m - 1 - c := ⟨_, rfl⟩
      have e3 : IntKind.i64.wrap ((mid : Int) + (m : Int) - 1 - (c : Int)) = (pc : Int) := by rw [IntKind.wrap_i64]; omega
      have p1 : m ≤ pc := by omega
      have p2 : pc < b := by omega
      have b1 : (c : Int) < (N : Int) := by omega
      have b2 : (pc : Int) < (N : Int) := by omega
      obtain ⟨x, hx⟩ : ∃ x, d[pc]! = x := ⟨_, rfl⟩
      obtain ⟨y, hy⟩ : ∃ y, d[c]! = y := ⟨_, rfl⟩
      have cx0 := HS.cellG (i := pc) (by omega) hx
      have cx1 := HS.cellG1 (i := pc) (by omega) hx
      have cy0 := HS.cellG (i := c) (by omega) hy
      have cy1 := HS.cellG1 (i := c) (by omega) hy
      have HX : Hid _ := hx
      have HY : Hid _ := hy
      have HC : Hid _ := hc
      have HPC : Hid _ := hpc
      clear hx hy hc hpc
      have hcg := fun n os => byKey_any x y (grow (wr.drewN n) os)
      have hcn := cmpI_neg x.1 y.1
      generalize cmpI x.1 y.1 = r' at hcg hcn
      have HCN : Hid _ := hcn
      have HCG : Aside _ := hcg
      clear hcn hcg
      by_cases hr : r' < 0
      · have hd : decide (r' < 0) = true := decide_eq_true hr
        go_wp2_with fail
        go_quiet_grown (first | (go_at_call 43; refine Calls.grown_of (HCG.out _ _)))
        go_wp2
        go_roundg (c - s)
        case measure => omega
        case rel =>
          refine ⟨s, c, rfl, rfl, hs0s, c1, by omega, Nat.le_refl _, HS.grown _ _, (show Aside _ from ⟨HB.out.1, fun t t1 t2 => ?_⟩)⟩
          have k1 := HS1.out c t (by omega) t1 (by omega)
          have k2 := HS2.out (mid + m - 1 - t) pc (by omega) (by have := HPC.out; omega) p2
          rw [HY.out] at k1
          rw [HX.out] at k2
          have := HCN.out.1 hr
          omega
      · have hd : decide (r' < 0) = false := decide_eq_false hr
        go_wp2_with fail
        go_quiet_grown (first | (go_at_call 43; refine Calls.grown_of (HCG.out _ _)))
        go_wp2
        go_roundg (r - (c + 1))
        case measure => omega
        case rel =>
          refine ⟨c + 1, r, by go_num, rfl, by omega, by omega, hrr, Nat.le_refl _, HS.grown _ _, (show Aside _ from ⟨fun t t1 t2 => ?_, HB.out.2⟩)⟩
          have k1 := HS1.out t c (by omega) (by omega) (by omega)
          have k2 := HS2.out pc (mid + m - 1 - t) p1 (by have := HPC.out; omega) (by omega)
          rw [HY.out] at k1
          rw [HX.out] at k2
          have := mt HCN.out.2 (by omega)
          omega
    · obtain rfl : s = r := by omega
      obtain ⟨en, hen⟩ : ∃ en, en = mid + m - s := ⟨_, rfl⟩
      have e4 : (mid : Int) + (m : Int) - (s : Int) = (en : Int) := by omega
      have n1 : en + s = mid + m := by omega
      have n2 : m ≤ en := by omega
      have n3 : en ≤ b := by omega
      have n4 : a ≤ s := by omega
      have HEN : Hid _ := hen
      clear hen
      have cut : ∀ d1, Rot s m en d d1 → _ := fun d1 hrot => sym_cut (mid := mid) (s := s) (e := d1) (s0 := s0) (r0 := mid) (by omega) (by omega) (by have := h.size; omega) HS1.out HS2.out HM.out
        (by rw [if_pos hcase]; exact H0.out) (by rw [if_pos hcase]) hs0s hrr HB.out.1 HB.out.2 (by rw [← HEN.out]; exact hrot)
      rw [← HEN.out] at cut
      have CUT : Aside _ := cut
      clear cut
      by_cases hsm : s = mid
      · have f1 : (s : Int) < (m : Int) := by omega
        have f2 : ¬ (m : Int) < (en : Int) := by omega
        have f3 : (a : Int) < (s : Int) := by omega
        have f4 : ¬ (s : Int) < (mid : Int) := by omega
        have f5 : (mid : Int) < (en : Int) := by omega
        have f6 : (en : Int) < (b : Int) := by omega
        have HSM : Hid _ := hsm
        clear hsm
        obtain ⟨k1, _, k3, k4, k5, t1, t2, t3, t4, cr⟩ := CUT.out d (by rw [show en = m by omega]; exact Rot.id_right s m d)
        have K1 : Aside _ := k1
        have T1 : Aside _ := t1
        have T2 : Aside _ := t2
        have T3 : Aside _ := t3
        have T4 : Aside _ := t4
        have CR : Aside _ := cr
        clear k1 t1 t2 t3 t4 cr
        go_wp2_with fail
        refine (HIH.out mid en b d (by omega) (by omega) (by omega) (by omega) (Srt.congr T3.out fun t c1 _ => (Mgd.refl a mid d).out t (Or.inr c1)) (Srt.congr T4.out fun t c1 _ => (Mgd.refl a mid d).out t (Or.inr (by omega))) _ HS).mono ?_
        rintro e w3 ⟨rfl, d3, M3, S3, H3⟩
        go_wp2
        go_end0
        have hf := sym_fin (by omega) (by omega) K1.out (Mgd.refl a mid d) (by have := T1.out; rwa [HSM.out] at this) M3 S3 CR.out
        exact ⟨rfl, d3, hf.1, hf.2, H3⟩
      · have f1 : (s : Int) < (m : Int) := by omega
        have f2 : (m : Int) < (en : Int) := by omega
        have f4 : (s : Int) < (mid : Int) := by omega
        have f5 : (mid : Int) < (en : Int) := by omega
        by_cases hB : a < s
        · have f3 : (a : Int) < (s : Int) := by omega
          by_cases hC : en < b
          · have f6 : (en : Int) < (b : Int) := by omega
            go_wp2_with fail
            refine (rotate_any w0 blk off cap N s m en d _ _ HS (by omega) (by omega) (by omega) hsz).mono ?_
            rintro e w1 ⟨rfl, d1, hrot, H1⟩
            obtain ⟨k1, _, k3, k4, k5, t1, t2, t3, t4, cr⟩ := CUT.out d1 hrot
            have K1 : Aside _ := k1
            have T1 : Aside _ := t1
            have T2 : Aside _ := t2
            have T3 : Aside _ := t3
            have T4 : Aside _ := t4
            have CR : Aside _ := cr
            clear k1 t1 t2 t3 t4 cr
            go_wp2_with fail
            refine (HIH.out a s mid d1 (by omega) (by omega) (by omega) (by omega) T1.out T2.out _ H1).mono ?_
            rintro e w2 ⟨rfl, d2, M2, S2, H2⟩
            have MM2 : Aside _ := M2
            have SS2 : Aside _ := S2
            clear M2 S2
            go_wp2_with fail
            refine (HIH.out mid en b d2 (by omega) (by omega) (by omega) (by omega) (Srt.congr T3.out fun t c1 _ => MM2.out.out t (Or.inr c1)) (Srt.congr T4.out fun t c1 _ => MM2.out.out t (Or.inr (by omega))) _ H2).mono ?_
            rintro e w3 ⟨rfl, d3, M3, S3, H3⟩
            go_wp2
            go_end0
            have hf := sym_fin (by omega) (by omega) K1.out MM2.out SS2.out M3 S3 CR.out
            exact ⟨rfl, d3, hf.1, hf.2, H3⟩
          · have f6 : ¬ (en : Int) < (b : Int) := by omega
            have HEB : Hid (en = b) := (by show en = b; omega)
            go_wp2_with fail
            refine (rotate_any w0 blk off cap N s m en d _ _ HS (by omega) (by omega) (by omega) hsz).mono ?_
            rintro e w1 ⟨rfl, d1, hrot, H1⟩
            obtain ⟨k1, _, k3, k4, k5, t1, t2, t3, t4, cr⟩ := CUT.out d1 hrot
            have K1 : Aside _ := k1
            have T1 : Aside _ := t1
            have T2 : Aside _ := t2
            have T3 : Aside _ := t3
            have T4 : Aside _ := t4
            have CR : Aside _ := cr
            clear k1 t1 t2 t3 t4 cr
            go_wp2_with fail
            refine (HIH.out a s mid d1 (by omega) (by omega) (by omega) (by omega) T1.out T2.out _ H1).mono ?_
            rintro e w2 ⟨rfl, d2, M2, S2, H2⟩
            have MM2 : Aside _ := M2
            have SS2 : Aside _ := S2
            clear M2 S2
            go_wp2
            go_end0
            have hf := sym_fin (by omega) (by omega) K1.out MM2.out SS2.out (Mgd.refl mid b d2) (by have := Srt.congr T3.out (d' := d2) fun t c1 _ => MM2.out.out t (Or.inr c1); rwa [HEB.out] at this) CR.out
            exact ⟨rfl, d2, hf.1, hf.2, H2⟩
        · have f3 : ¬ (a : Int) < (s : Int) := by omega
          have HAS : Hid (s = a) := (by show s = a; omega)
          by_cases hC : en < b
          · have f6 : (en : Int) < (b : Int) := by omega
            go_wp2_with fail
            refine (rotate_any w0 blk off cap N s m en d _ _ HS (by omega) (by omega) (by omega) hsz).mono ?_
            rintro e w1 ⟨rfl, d1, hrot, H1⟩
            obtain ⟨k1, _, k3, k4, k5, t1, t2, t3, t4, cr⟩ := CUT.out d1 hrot
            have K1 : Aside _ := k1
            have T1 : Aside _ := t1
            have T2 : Aside _ := t2
            have T3 : Aside _ := t3
            have T4 : Aside _ := t4
            have CR : Aside _ := cr
            clear k1 t1 t2 t3 t4 cr
            go_wp2_with fail
            refine (HIH.out mid en b d1 (by omega) (by omega) (by omega) (by omega) (Srt.congr T3.out fun t c1 _ => (Mgd.refl a mid d1).out t (Or.inr c1)) (Srt.congr T4.out fun t c1 _ => (Mgd.refl a mid d1).out t (Or.inr (by omega))) _ H1).mono ?_
            rintro e w3 ⟨rfl, d3, M3, S3, H3⟩
            go_wp2
            go_end0
            have hf := sym_fin (by omega) (by omega) K1.out (Mgd.refl a mid d1) (by have := T2.out; rwa [HAS.out] at this) M3 S3 CR.out
            exact ⟨rfl, d3, hf.1, hf.2, H3⟩
          · have f6 : ¬ (en : Int) < (b : Int) := by omega
            have HEB : Hid (en = b) := (by show en = b; omega)
            go_wp2_with fail
            refine (rotate_any w0 blk off cap N s m en d _ _ HS (by omega) (by omega) (by omega) hsz).mono ?_
            rintro e w1 ⟨rfl, d1, hrot, H1⟩
            obtain ⟨k1, _, k3, k4, k5, t1, t2, t3, t4, cr⟩ := CUT.out d1 hrot
            have K1 : Aside _ := k1
            have T1 : Aside _ := t1
            have T2 : Aside _ := t2
            have T3 : Aside _ := t3
            have T4 : Aside _ := t4
            have CR : Aside _ := cr
            clear k1 t1 t2 t3 t4 cr
            go_wp2
            go_end0
            have hf := sym_fin (by omega) (by omega) K1.out (Mgd.refl a mid d1) (by have := T2.out; rwa [HAS.out] at this) (Mgd.refl mid b d1) (by have := Srt.congr T3.out (d' := d1) fun t c1 _ => (Mgd.refl a mid d1).out t (Or.inr c1); rwa [HEB.out] at this) CR.out
            exact ⟨rfl, d1, hf.1, hf.2, H1⟩

set_option maxHeartbeats 8000000 in
set_option maxRecDepth 100000 in
theorem symMerge_small (w0 : World) (blk off cap N a m b mid : Nat) (d : Array (Int × Int))
    (ham : a + 1 < m) (hmb : m + 1 < b) (hb : b ≤ N) (hsz : N < 4611686018427387904) (hs1 : Srt a m d) (hs2 : Srt m b d) (hmid : mid = (a + b) / 2) (hcase : ¬ mid < m)
    (ih : ∀ a' m' b' d', b' - a' < b - a → a' < m' → m' < b' → b' ≤ N → Srt a' m' d' → Srt m' b' d' → SymSaid w0 blk off cap N a' m' b' d') : SymSaid w0 blk off cap N a m b d := by
  intro W h
  have HIH : Aside _ := ih
  have HS1 : Aside _ := hs1
  have HS2 : Aside _ := hs2
  have mixed : Tryd.prog.follows .mixedOrders = true := by kernel_rfl
  have q0 : ((m : Int) - (a : Int) == 1) = false := beq_eq_false_iff_ne.2 (by omega)
  have q1 : ((b : Int) - (m : Int) == 1) = false := beq_eq_false_iff_ne.2 (by omega)
  have e1 : ((a : Int) + (b : Int)) / 2 = (mid : Int) := by omega
  have m1 : a < mid := by omega
  have m2 : mid < b := by omega
  have m3 : a + b ≤ 2 * mid + 1 := by omega
  have m4 : 2 * mid ≤ a + b := by omega
  have HM : Hid _ := hmid
  clear ih hs1 hs2 hmid
  go_enter Tryd.func57, Tryd.ntmps57
  go_wp2
  go_loopg [20, 21] (b - a) (fun g vi vj wr => ∃ (s r : Nat), vi = .int .i64 s ∧ vj = .int .i64 r ∧ a ≤ s ∧ s ≤ r ∧ r ≤ m ∧ r - s ≤ g ∧ At w0 blk off N d wr ∧
    Aside ((∀ c, a ≤ c → c < s → d[c]!.1 ≤ d[mid + m - 1 - c]!.1) ∧ (∀ c, r ≤ c → c < m → d[mid + m - 1 - c]!.1 < d[c]!.1)))
  case atStart => exact ⟨a, m, by first | rfl | go_num, by first | rfl | go_num, by omega, by omega, by omega, by omega, h, (show Aside _ from ⟨fun t h1 h2 => by omega, fun t h1 h2 => by omega⟩)⟩
  case round =>
    obtain ⟨s, r, rfl, rfl, hs0s, hsr, hrr, hg, HS, HB⟩ := hrel
    by_cases hlt : s < r
    · obtain ⟨c, hc⟩ : ∃ c, c = (s + r) / 2 := ⟨_, rfl⟩
      have c1 : s ≤ c := by omega
      have c2 : c < r := by omega
      have e2 : ((s : Int) + (r : Int)) / 2 = (c : Int) := by omega
      obtain ⟨pc, hpc⟩ : ∃ pc, pc = mid + m - 1 - c := ⟨_, rfl⟩
      have e3 : IntKind.i64.wrap ((mid : Int) + (m : Int) - 1 - (c : Int)) = (pc : Int) := by rw [IntKind.wrap_i64]; omega
      have p1 : m ≤ pc := by omega
      have p2 : pc < b := by omega
      have b1 : (c : Int) < (N : Int) := by omega
      have b2 : (pc : Int) < (N : Int) := by omega
      obtain ⟨x, hx⟩ : ∃ x, d[pc]! = x := ⟨_, rfl⟩
      obtain ⟨y, hy⟩ : ∃ y, d[c]! = y := ⟨_, rfl⟩
      have cx0 := HS.cellG (i := pc) (by omega) hx
      have cx1 := HS.cellG1 (i := pc) (by omega) hx
      have cy0 := HS.cellG (i := c) (by omega) hy
      have cy1 := HS.cellG1 (i := c) (by omega) hy
      have HX : Hid _ := hx
      have HY : Hid _ := hy
      have HC : Hid _ := hc
      have HPC : Hid _ := hpc
      clear hx hy hc hpc
      have hcg := fun n os => byKey_any x y (grow (wr.drewN n) os)
      have hcn := cmpI_neg x.1 y.1
      generalize cmpI x.1 y.1 = r' at hcg hcn
      have HCN : Hid _ := hcn
      have HCG : Aside _ := hcg
      clear hcn hcg
      by_cases hr : r' < 0
      · have hd : decide (r' < 0) = true := decide_eq_true hr
        go_wp2_with fail
        go_quiet_grown (first | (go_at_call 43; refine Calls.grown_of (HCG.out _ _)))
        go_wp2
        go_roundg (c - s)
        case measure => omega
        case rel =>
          refine ⟨s, c, rfl, rfl, hs0s, c1, by omega, Nat.le_refl _, HS.grown _ _, (show Aside _ from ⟨HB.out.1, fun t t1 t2 => ?_⟩)⟩
          have k1 := HS1.out c t (by omega) t1 (by omega)
          have k2 := HS2.out (mid + m - 1 - t) pc (by omega) (by have := HPC.out; omega) p2
          rw [HY.out] at k1
          rw [HX.out] at k2
          have := HCN.out.1 hr
          omega
      · have hd : decide (r' < 0) = false := decide_eq_false hr
        go_wp2_with fail
        go_quiet_grown (first | (go_at_call 43; refine Calls.grown_of (HCG.out _ _)))
        go_wp2
        go_roundg (r - (c + 1))
        case measure => omega
        case rel =>
          refine ⟨c + 1, r, by go_num, rfl, by omega, by omega, hrr, Nat.le_refl _, HS.grown _ _, (show Aside _ from ⟨fun t t1 t2 => ?_, HB.out.2⟩)⟩
          have k1 := HS1.out t c (by omega) (by omega) (by omega)
          have k2 := HS2.out pc (mid + m - 1 - t) p1 (by have := HPC.out; omega) (by omega)
          rw [HY.out] at k1
          rw [HX.out] at k2
          have := mt HCN.out.2 (by omega)
          omega
    · obtain rfl : s = r := by omega
      obtain ⟨en, hen⟩ : ∃ en, en = mid + m - s := ⟨_, rfl⟩
      have e4 : (mid : Int) + (m : Int) - (s : Int) = (en : Int) := by omega
      have n1 : en + s = mid + m := by omega
      have n2 : m ≤ en := by omega
      have n3 : en ≤ b := by omega
      have n4 : a ≤ s := by omega
      have HEN : Hid _ := hen
      clear hen
      have cut : ∀ d1, Rot s m en d d1 → _ := fun d1 hrot => sym_cut (mid := mid) (s := s) (e := d1) (s0 := a) (r0 := m) (by omega) (by omega) (by have := h.size; omega) HS1.out HS2.out HM.out
        (by rw [if_neg (by omega)]) (by rw [if_neg (by omega)]) hs0s hrr HB.out.1 HB.out.2 (by rw [← HEN.out]; exact hrot)
      rw [← HEN.out] at cut
      have CUT : Aside _ := cut
      clear cut
      by_cases hsm : s = m
      · have f1 : ¬ (s : Int) < (m : Int) := by omega
        have f5 : ¬ (mid : Int) < (en : Int) := by omega
        have f3 : (a : Int) < (s : Int) := by omega
        have HSM : Hid _ := hsm
        clear hsm
        by_cases hB : s < mid
        · have f4 : (s : Int) < (mid : Int) := by omega
          obtain ⟨k1, _, k3, k4, k5, t1, t2, t3, t4, cr⟩ := CUT.out d (by rw [show en = mid by have := HSM.out; omega, HSM.out]; exact Rot.id_left m mid d)
          have K1 : Aside _ := k1
          have T1 : Aside _ := t1
          have T2 : Aside _ := t2
          have T3 : Aside _ := t3
          have T4 : Aside _ := t4
          have CR : Aside _ := cr
          clear k1 t1 t2 t3 t4 cr
          go_wp2_with fail
          refine (HIH.out a s mid d (by omega) (by omega) (by omega) (by omega) T1.out T2.out _ HS).mono ?_
          rintro e w2 ⟨rfl, d2, M2, S2, H2⟩
          have MM2 : Aside _ := M2
          have SS2 : Aside _ := S2
          clear M2 S2
          go_wp2
          go_end0
          have hf := sym_fin (by omega) (by omega) K1.out MM2.out SS2.out (Mgd.refl mid b d2) ((Srt.congr T4.out fun t c1 _ => MM2.out.out t (Or.inr (by omega))).sub (by have := HSM.out; omega) (Nat.le_refl _)) CR.out
          exact ⟨rfl, d2, hf.1, hf.2, H2⟩
        · have f4 : ¬ (s : Int) < (mid : Int) := by omega
          have HMM : Hid (s = mid) := (by have := HSM.out; show s = mid; omega)
          obtain ⟨k1, _, k3, k4, k5, t1, t2, t3, t4, cr⟩ := CUT.out d (by rw [show en = mid by have := HSM.out; omega, HSM.out]; exact Rot.id_left m mid d)
          have K1 : Aside _ := k1
          have T1 : Aside _ := t1
          have T2 : Aside _ := t2
          have T3 : Aside _ := t3
          have T4 : Aside _ := t4
          have CR : Aside _ := cr
          clear k1 t1 t2 t3 t4 cr
          go_wp2
          go_end0
          have hf := sym_fin (by omega) (by omega) K1.out (Mgd.refl a mid d) (by have := T1.out; rwa [HMM.out] at this) (Mgd.refl mid b d) ((Srt.congr T4.out fun t c1 _ => (Mgd.refl a mid d).out t (Or.inr (by omega))).sub (by have := HSM.out; omega) (Nat.le_refl _)) CR.out
          exact ⟨rfl, d, hf.1, hf.2, HS⟩
      · have f1 : (s : Int) < (m : Int) := by omega
        have f2 : (m : Int) < (en : Int) := by omega
        have f4 : (s : Int) < (mid : Int) := by omega
        have f5 : (mid : Int) < (en : Int) := by omega
        by_cases hB : a < s
        · have f3 : (a : Int) < (s : Int) := by omega
          by_cases hC : en < b
          · have f6 : (en : Int) < (b : Int) := by omega
            go_wp2_with fail
            refine (rotate_any w0 blk off cap N s m en d _ _ HS (by omega) (by omega) (by omega) hsz).mono ?_
            rintro e w1 ⟨rfl, d1, hrot, H1⟩
            obtain ⟨k1, _, k3, k4, k5, t1, t2, t3, t4, cr⟩ := CUT.out d1 hrot
            have K1 : Aside _ := k1
            have T1 : Aside _ := t1
            have T2 : Aside _ := t2
            have T3 : Aside _ := t3
            have T4 : Aside _ := t4
            have CR : Aside _ := cr
            clear k1 t1 t2 t3 t4 cr
            go_wp2_with fail
            refine (HIH.out a s mid d1 (by omega) (by omega) (by omega) (by omega) T1.out T2.out _ H1).mono ?_
            rintro e w2 ⟨rfl, d2, M2, S2, H2⟩
            have MM2 : Aside _ := M2
            have SS2 : Aside _ := S2
            clear M2 S2
            go_wp2_with fail
            refine (HIH.out mid en b d2 (by omega) (by omega) (by omega) (by omega) (Srt.congr T3.out fun t c1 _ => MM2.out.out t (Or.inr c1)) (Srt.congr T4.out fun t c1 _ => MM2.out.out t (Or.inr (by omega))) _ H2).mono ?_
            rintro e w3 ⟨rfl, d3, M3, S3, H3⟩
            go_wp2
            go_end0
            have hf := sym_fin (by omega) (by omega) K1.out MM2.out SS2.out M3 S3 CR.out
            exact ⟨rfl, d3, hf.1, hf.2, H3⟩
          · have f6 : ¬ (en : Int) < (b : Int) := by omega
            have HEB : Hid (en = b) := (by show en = b; omega)
            go_wp2_with fail
            refine (rotate_any w0 blk off cap N s m en d _ _ HS (by omega) (by omega) (by omega) hsz).mono ?_
            rintro e w1 ⟨rfl, d1, hrot, H1⟩
            obtain ⟨k1, _, k3, k4, k5, t1, t2, t3, t4, cr⟩ := CUT.out d1 hrot
            have K1 : Aside _ := k1
            have T1 : Aside _ := t1
            have T2 : Aside _ := t2
            have T3 : Aside _ := t3
            have T4 : Aside _ := t4
            have CR : Aside _ := cr
            clear k1 t1 t2 t3 t4 cr
            go_wp2_with fail
            refine (HIH.out a s mid d1 (by omega) (by omega) (by omega) (by omega) T1.out T2.out _ H1).mono ?_
            rintro e w2 ⟨rfl, d2, M2, S2, H2⟩
            have MM2 : Aside _ := M2
            have SS2 : Aside _ := S2
            clear M2 S2
            go_wp2
            go_end0
            have hf := sym_fin (by omega) (by omega) K1.out MM2.out SS2.out (Mgd.refl mid b d2) (by have := Srt.congr T3.out (d' := d2) fun t c1 _ => MM2.out.out t (Or.inr c1); rwa [HEB.out] at this) CR.out
            exact ⟨rfl, d2, hf.1, hf.2, H2⟩
        · have f3 : ¬ (a : Int) < (s : Int) := by omega
          have HAS : Hid (s = a) := (by show s = a; omega)
          by_cases hC : en < b
          · have f6 : (en : Int) < (b : Int) := by omega
            go_wp2_with fail
            refine (rotate_any w0 blk off cap N s m en d _ _ HS (by omega) (by omega) (by omega) hsz).mono ?_
            rintro e w1 ⟨rfl, d1, hrot, H1⟩
            obtain ⟨k1, _, k3, k4, k5, t1, t2, t3, t4, cr⟩ := CUT.out d1 hrot
            have K1 : Aside _ := k1
            have T1 : Aside _ := t1
            have T2 : Aside _ := t2
            have T3 : Aside _ := t3
            have T4 : Aside _ := t4
            have CR : Aside _ := cr
            clear k1 t1 t2 t3 t4 cr
            go_wp2_with fail
            refine (HIH.out mid en b d1 (by omega) (by omega) (by omega) (by omega) (Srt.congr T3.out fun t c1 _ => (Mgd.refl a mid d1).out t (Or.inr c1)) (Srt.congr T4.out fun t c1 _ => (Mgd.refl a mid d1).out t (Or.inr (by omega))) _ H1).mono ?_
            rintro e w3 ⟨rfl, d3, M3, S3, H3⟩
            go_wp2
            go_end0
            have hf := sym_fin (by omega) (by omega) K1.out (Mgd.refl a mid d1) (by have := T2.out; rwa [HAS.out] at this) M3 S3 CR.out
            exact ⟨rfl, d3, hf.1, hf.2, H3⟩
          · have f6 : ¬ (en : Int) < (b : Int) := by omega
            have HEB : Hid (en = b) := (by show en = b; omega)
            go_wp2_with fail
            refine (rotate_any w0 blk off cap N s m en d _ _ HS (by omega) (by omega) (by omega) hsz).mono ?_
            rintro e w1 ⟨rfl, d1, hrot, H1⟩
            obtain ⟨k1, _, k3, k4, k5, t1, t2, t3, t4, cr⟩ := CUT.out d1 hrot
            have K1 : Aside _ := k1
            have T1 : Aside _ := t1
            have T2 : Aside _ := t2
            have T3 : Aside _ := t3
            have T4 : Aside _ := t4
            have CR : Aside _ := cr
            clear k1 t1 t2 t3 t4 cr
            go_wp2
            go_end0
            have hf := sym_fin (by omega) (by omega) K1.out (Mgd.refl a mid d1) (by have := T2.out; rwa [HAS.out] at this) (Mgd.refl mid b d1) (by have := Srt.congr T3.out (d' := d1) fun t c1 _ => (Mgd.refl a mid d1).out t (Or.inr c1); rwa [HEB.out] at this) CR.out
            exact ⟨rfl, d1, hf.1, hf.2, H1⟩

theorem symMerge_any (w0 : World) (blk off cap N : Nat) (hsz : N < 4611686018427387904) : ∀ (n a m b : Nat) (d : Array (Int × Int)), b - a < n → a < m → m < b → b ≤ N → Srt a m d → Srt m b d → SymSaid w0 blk off cap N a m b d
  | 0, _, _, _, _, h, _, _, _, _, _ => absurd h (Nat.not_lt_zero _)
  | n + 1, a, m, b, d, hn, ham, hmb, hb, h1, h2 => by
    by_cases c1 : m = a + 1
    · subst c1
      exact fun W h => symMerge_left w0 blk off cap N a b d W h hmb hb hsz h2
    · by_cases c2 : b = m + 1
      · subst c2
        exact fun W h => symMerge_right w0 blk off cap N a m d W h (by omega) hb hsz h1
      · have ih : ∀ a' m' b' d', b' - a' < b - a → a' < m' → m' < b' → b' ≤ N → Srt a' m' d' → Srt m' b' d' → SymSaid w0 blk off cap N a' m' b' d' :=
          fun a' m' b' d' q1 q2 q3 q4 q5 q6 => symMerge_any w0 blk off cap N hsz n a' m' b' d' (by omega) q2 q3 q4 q5 q6
        by_cases c3 : (a + b) / 2 < m
        · exact symMerge_big w0 blk off cap N a m b _ d (by omega) (by omega) hb hsz h1 h2 rfl c3 ih
        · exact symMerge_small w0 blk off cap N a m b _ d (by omega) (by omega) hb hsz h1 h2 rfl c3 ih
#print axioms symMerge_any
end Go.Proofs.YtmkjalpgeljnkaaDoor

/-
  slices.insertionSortCmpFunc at items.
-/
namespace Go.Proofs.YtmkjalpgeljnkaaDoor
open Go.RowKit Go.Sort Go.Proofs

set_option maxHeartbeats 4000000 in
set_option maxRecDepth 100000 in
theorem insertion_any (w0 : World) (blk off cap N a b : Nat) (d : Array (Int × Int)) (W : World)
    (h : At w0 blk off N d W) (hab : a ≤ b) (hb : b ≤ N) (hsz : N < 4611686018427387904) :
    Calls Tryd.prog 56 #[.slice (some ⟨blk, off, none⟩) N cap, .int .i64 a, .int .i64 b, .func (.func 43) #[] #[]] W fun e w' =>
      e = .returned (.tuple #[]) ∧ ∃ d', Mgd a b d d' ∧ Srt a b d' ∧ At w0 blk off N d' w' := by
  have mixed : Tryd.prog.follows .mixedOrders = true := by kernel_rfl
  go_enter Tryd.func56, Tryd.ntmps56
  go_wp2
  go_loopg [8] (b - a) (fun g1 vi wr => ∃ (i : Nat) (dk : Array (Int × Int)), vi = .int .i64 i ∧ a < i ∧ i ≤ b + 1 ∧ b + 1 - i ≤ g1 + 1 ∧ At w0 blk off N dk wr ∧ Hid (insOuter ltK a b i dk = insOuter ltK a b (a + 1) d))
  case atStart => exact ⟨a + 1, d, by go_num, by omega, by omega, by omega, h, rfl⟩
  case round =>
    obtain ⟨i, dk, rfl, hai, hib, hg1, HS, HO⟩ := hrel
    by_cases hlt : i < b
    · have hltz : (i : Int) < (b : Int) := by omega
      go_wp2
      go_loopg [9] i (fun g2 vj wr2 => ∃ (j : Nat) (dj : Array (Int × Int)), vj = .int .i64 j ∧ a ≤ j ∧ j ≤ i ∧ j ≤ g2 ∧ At w0 blk off N dj wr2 ∧ Hid (insInner ltK a j dj = insInner ltK a i dk))
      case atStart => exact ⟨i, dk, rfl, by omega, Nat.le_refl _, Nat.le_refl _, HS, rfl⟩
      case round =>
        obtain ⟨j, dj, rfl, haj, hji, hg2, HJ, HI⟩ := hrel
        have out : (j ≤ a ∨ ltK dj[j]! dj[j - 1]! = false) → Hid (insOuter ltK a b (i + 1) dj = insOuter ltK a b (a + 1) d) := fun hs => by
          show _ = _
          rw [← HO.out, insOuter_go _ _ _ _ _ hlt, ← HI.out, insInner_stop _ _ _ _ hs]
        have OUT : Aside _ := out
        clear out
        by_cases hja : a < j
        · obtain ⟨jp, rfl⟩ : ∃ jp, j = jp + 1 := ⟨j - 1, by omega⟩
          have hjaz : (a : Int) < (jp : Int) + 1 := by omega
          obtain ⟨x, hx⟩ : ∃ x, dj[jp + 1]! = x := ⟨_, rfl⟩
          obtain ⟨y, hy⟩ : ∃ x, dj[jp]! = x := ⟨_, rfl⟩
          have hwp : IntKind.i64.wrap (jp : Int) = (jp : Int) := by rw [IntKind.wrap_i64]; omega
          have jz : (jp : Int) + 1 < (N : Int) := by omega
          have jz1 : (jp : Int) < (N : Int) := by omega
          have p0 : (0 : Int) ≤ (jp : Int) + 1 := by omega
          have e0 : ((jp : Int) + 1).toNat = jp + 1 := by omega
          have cx0 := HJ.cellG (i := jp + 1) (by omega) hx
          have cx1 := HJ.cellG1 (i := jp + 1) (by omega) hx
          have cy0 := HJ.cellG (i := jp) (by omega) hy
          have cy1 := HJ.cellG1 (i := jp) (by omega) hy
          have HX : Hid _ := hx
          have HY : Hid _ := hy
          clear hx hy
          have hcg := fun n os => byKey_any x y (grow (wr.drewN n) os)
          have hcn := cmpI_neg x.1 y.1
          generalize cmpI x.1 y.1 = r at hcg hcn
          have HCN : Hid _ := hcn
          have HCG : Aside _ := hcg
          clear hcn hcg
          by_cases hr : r < 0
          · go_wp2_with fail
            go_quiet_grown (first | (go_at_call 43; refine Calls.grown_of (HCG.out _ _)))
            have HJ2 := HJ.grown nq osq
            clear cx0 cx1 cy0 cy1 HCG
            generalize grow (wr.drewN nq) osq = wq2 at HJ2 ⊢
            obtain ⟨cx0, cx1, fx0, fx1⟩ := HJ2.drew.cell (i := jp + 1) (by omega)
            obtain ⟨cy0, cy1, fy0, fy1⟩ := HJ2.drew.cell (i := jp) (by omega)
            rw [HX.out] at cx0 cx1
            rw [HY.out] at cy0 cy1
            simp at cx0 cx1 cy0 cy1 fx0 fx1 fy0 fy1
            go_wp2_with fail
            go_region
            go_wp2
            go_roundg jp
            case measure => omega
            case rel =>
              refine ⟨jp, _, by go_num, by omega, by omega, Nat.le_refl _, HJ2.swap (by omega) (by omega) HX.out HY.out, (show Hid _ from ?_)⟩
              show _ = _
              have := insInner_go ltK a (jp + 1) dj hja (by simp only [Nat.add_sub_cancel]; rw [HX.out, HY.out]; exact decide_eq_true (HCN.out.1 hr))
              simp only [Nat.add_sub_cancel] at this
              rw [← HI.out, this]
          · go_wp2_with fail
            go_quiet_grown (first | (go_at_call 43; refine Calls.grown_of (HCG.out _ _)))
            go_wp2
            go_roundg (b - (i + 1))
            case measure => omega
            case rel => exact ⟨i + 1, dj, by go_num, by omega, by omega, by omega, HJ.grown _ _, OUT.out (Or.inr (by simp only [Nat.add_sub_cancel]; rw [HX.out, HY.out]; exact decide_eq_false (mt HCN.out.2 (by omega))))⟩
        · have hjaz : decide ((j : Int) > (a : Int)) = false := decide_eq_false (by omega)
          have hjaz' : ¬ (a : Int) < (j : Int) := by omega
          go_wp2_with fail
          go_region
          all_goals go_wp2
          go_roundg (b - (i + 1))
          case measure => omega
          case rel => exact ⟨i + 1, dj, by go_num, by omega, by omega, by omega, HJ.drew, OUT.out (Or.inl (by omega))⟩
    · have hltz : ¬ (i : Int) < (b : Int) := by omega
      go_wp2
      go_end0
      have e : dk = insertionSort ltK d a b := by unfold Sort.insertionSort; rw [← HO.out, insOuter_stop _ _ _ _ _ hlt]
      have g := insertion_good d a b hab (by rw [h.size]; exact hb)
      rw [← e] at g
      exact ⟨rfl, dk, g.1, g.2, HS⟩
#print axioms insertion_any
end Go.Proofs.YtmkjalpgeljnkaaDoor

/-
  slices.SortStableFunc at up to 60 items, by their keys: sorted, and what has one key stays in its order.
-/
namespace Go.Proofs.YtmkjalpgeljnkaaDoor
open Go.RowKit Go.Sort Go.Proofs

/-- Sorted block by block. -/
def Blk (c a b : Nat) (d : Array (Int × Int)) : Prop := ∀ i j, a ≤ i → i ≤ j → j < b → i / c = j / c → d[i]!.1 ≤ d[j]!.1
theorem Blk.kept {c a b x y : Nat} {d d' : Array (Int × Int)} (h : Blk c a b d) (m : Mgd x y d d') (hxy : b ≤ x ∨ y ≤ a) : Blk c a b d' := fun i j h1 h2 h3 h4 => by
  rw [m.out i (by omega), m.out j (by omega)]; exact h i j h1 h2 h3 h4

theorem blk20_step {a b k : Nat} {d d' : Array (Int × Int)} (ha : a = 20 * k) (hb : b = a + 20) (h : Blk 20 0 a d) (m : Mgd a b d d') (s : Srt a b d') : Blk 20 0 b d' := fun i j h1 h2 h3 h4 => by
  by_cases c : j < a
  · exact h.kept m (Or.inl (Nat.le_refl _)) i j h1 h2 c h4
  · exact s i j (by omega) h2 (by omega)
theorem blk20_end {a k n : Nat} {d d' : Array (Int × Int)} (ha : a = 20 * k) (h : Blk 20 0 a d) (m : Mgd a n d d') (s : Srt a n d') : Blk 20 0 n d' := fun i j h1 h2 h3 h4 => by
  by_cases c : j < a
  · exact h.kept m (Or.inl (Nat.le_refl _)) i j h1 h2 c h4
  · exact s i j (by omega) h2 (by omega)
theorem Blk.srt {c a b x y : Nat} {d : Array (Int × Int)} (h : Blk c a b d) (ha : a ≤ x) (hb : y ≤ b) (hc : ∀ i j, x ≤ i → i ≤ j → j < y → i / c = j / c) : Srt x y d := fun i j h1 h2 h3 =>
  h i j (by omega) h2 (by omega) (hc i j h1 h2 h3)
/-- Blocks of 40 up to a, of 20 from there on; one merge more. -/
theorem blk40_step {a b k n : Nat} {d d' : Array (Int × Int)} (ha : a = 40 * k) (hb : b = a + 40) (h : Blk 40 0 a d) (g : Blk 20 a n d) (m : Mgd a b d d') (s : Srt a b d') : Blk 40 0 b d' ∧ Blk 20 b n d' := by
  refine ⟨fun i j h1 h2 h3 h4 => ?_, fun i j h1 h2 h3 h4 => ?_⟩
  · by_cases c : j < a
    · exact h.kept m (Or.inl (Nat.le_refl _)) i j h1 h2 c h4
    · exact s i j (by omega) h2 (by omega)
  · rw [m.out i (by omega), m.out j (by omega)]; exact g i j (by omega) h2 h3 h4
theorem blk40_end {a k n : Nat} {d d' : Array (Int × Int)} (ha : a = 40 * k) (h : Blk 40 0 a d) (m : Mgd a n d d') (s : Srt a n d') : Blk 40 0 n d' := fun i j h1 h2 h3 h4 => by
  by_cases c : j < a
  · exact h.kept m (Or.inl (Nat.le_refl _)) i j h1 h2 c h4
  · exact s i j (by omega) h2 (by omega)

set_option maxHeartbeats 8000000 in
set_option maxRecDepth 100000 in
theorem stable_any (w0 : World) (blk off cap N : Nat) (d : Array (Int × Int)) (W : World) (h : At w0 blk off N d W) (hN : N ≤ 60) :
    Calls Tryd.prog 48 #[.slice (some ⟨blk, off, none⟩) N cap, .int .i64 N, .func (.func 43) #[] #[]] W fun e w' =>
      e = .returned (.tuple #[]) ∧ ∃ d', Mgd 0 N d d' ∧ Srt 0 N d' ∧ At w0 blk off N d' w' := by
  go_enter Tryd.func48, Tryd.ntmps48
  go_wp2
  go_loopg [7, 8] 4 (fun g va vb wr => ∃ (a b k : Nat) (dk : Array (Int × Int)), va = .int .i64 a ∧ vb = .int .i64 b ∧ a ≤ N ∧ b ≤ a + 20 ∧ a + 20 ≤ b ∧ Hid (a = 20 * k) ∧ k + g = 4 ∧ At w0 blk off N dk wr ∧ Aside (Mgd 0 N d dk) ∧ Aside (Blk 20 0 a dk))
  case atStart => exact ⟨0, 20, 0, d, rfl, rfl, by omega, by omega, by omega, rfl, by omega, h, (show Aside _ from Mgd.refl _ _ _), (show Aside _ from fun i j h1 h2 h3 => by omega)⟩
  case round =>
    obtain ⟨a, b, k, dk, rfl, rfl, hk, hb1, hb2, HK, hg, HS, HM, HB⟩ := hrel
    by_cases hlt : b ≤ N
    · have hlz : (b : Int) ≤ (N : Int) := by omega
      go_wp2_with fail
      refine (insertion_any w0 blk off cap N a b dk _ HS (by omega) hlt (by omega)).mono ?_
      rintro e w1 ⟨rfl, d1, M1, S1, H1⟩
      have MM1 : Aside _ := M1
      have SS1 : Aside _ := S1
      clear M1 S1
      go_wp2
      go_roundg (4 - (k + 1))
      case measure => have := HK.out; omega
      case rel =>
        have hk2 := HK.out
        exact ⟨b, b + 20, k + 1, d1, rfl, by go_num, hlt, by omega, by omega, (show Hid _ from by show _ = _; omega), by omega, H1, (show Aside _ from HM.out.trans (MM1.out.mono (by omega) hlt)), (show Aside _ from blk20_step hk2 (by omega) HB.out MM1.out SS1.out)⟩
    · have hlz : ¬ (b : Int) ≤ (N : Int) := by omega
      go_wp2_with fail
      refine (insertion_any w0 blk off cap N a N dk _ HS hk (Nat.le_refl _) (by omega)).mono ?_
      rintro e w1 ⟨rfl, d1, M1, S1, H1⟩
      have HM1 : Aside (Mgd 0 N d d1) := HM.out.trans (M1.mono (by omega) (Nat.le_refl _))
      have HB1 : Aside (Blk 20 0 N d1) := blk20_end HK.out HB.out M1 S1
      clear M1 S1 HM HB HS HK
      go_wp2
      go_loopg [6] 3 (fun g vs wr2 => ∃ dk : Array (Int × Int), At w0 blk off N dk wr2 ∧ Aside (Mgd 0 N d dk) ∧
        ((g = 3 ∧ vs = .int .i64 20 ∧ Aside (Blk 20 0 N dk)) ∨ (g = 2 ∧ vs = .int .i64 40 ∧ Aside (Blk 40 0 N dk)) ∨ (g = 1 ∧ vs = .int .i64 80 ∧ Aside (Srt 0 N dk))))
      case atStart => exact ⟨d1, H1, HM1, Or.inl ⟨rfl, rfl, HB1⟩⟩
      case round =>
        clear HM1 HB1 H1
        obtain ⟨d2, H2, HM2, ⟨rfl, rfl, HB2⟩ | ⟨rfl, rfl, HB2⟩ | ⟨rfl, rfl, HB2⟩⟩ := hrel
        · by_cases hn : 20 < N
          · have hnz : (20 : Int) < (N : Int) := by omega
            go_wp2
            go_loopg [7, 8] 2 (fun g va vb wr3 => ∃ (a b k : Nat) (dk : Array (Int × Int)), va = .int .i64 a ∧ vb = .int .i64 b ∧ a ≤ N ∧ b ≤ a + 40 ∧ a + 40 ≤ b ∧ Hid (a = 40 * k) ∧ k + g = 2 ∧ At w0 blk off N dk wr3 ∧ Aside (Mgd 0 N d dk) ∧ Aside (Blk 40 0 a dk) ∧ Aside (Blk 20 a N dk))
            case atStart => exact ⟨0, 40, 0, d2, rfl, rfl, by omega, by omega, by omega, rfl, by omega, H2, HM2, (show Aside _ from fun i j h1 h2 h3 => by omega), HB2⟩
            case round =>
              clear H2 HM2 HB2
              obtain ⟨a2, b2, k2, d3, rfl, rfl, hk2, hc1, hc2, HK2, hg2, H3, HM3, HB3, HB4⟩ := hrel
              have s1 : a2 + 20 ≤ N → Srt a2 (a2 + 20) d3 := fun q => Blk.srt HB4.out (Nat.le_refl _) q (by have := HK2.out; intro i j; omega)
              have s2 : ∀ y, y ≤ b2 → y ≤ N → Srt (a2 + 20) y d3 := fun y q1 q2 => Blk.srt HB4.out (by omega) q2 (by have := HK2.out; intro i j; omega)
              have S1 : Aside _ := s1
              have S2 : Aside _ := s2
              clear s1 s2
              by_cases hlt2 : b2 ≤ N
              · have hlz2 : (b2 : Int) ≤ (N : Int) := by omega
                go_wp2_with fail
                rw [show (a2 : Int) + 20 = ((a2 + 20 : Nat) : Int) by omega]
                refine (symMerge_any w0 blk off cap N (by omega) 100 a2 (a2 + 20) b2 d3 (by omega) (by omega) (by omega) hlt2 (S1.out (by omega)) (S2.out b2 (Nat.le_refl _) hlt2) _ H3).mono ?_
                rintro e w2 ⟨rfl, d4, M4, S4, H4⟩
                have HM4 : Aside (Mgd 0 N d d4) := HM3.out.trans (M4.mono (by omega) hlt2)
                have hst := blk40_step HK2.out (by omega : b2 = a2 + 40) HB3.out HB4.out M4 S4
                have HB5 : Aside (Blk 40 0 b2 d4) := hst.1
                have HB6 : Aside (Blk 20 b2 N d4) := hst.2
                clear M4 S4 hst
                go_wp2
                go_roundg (2 - (k2 + 1))
                case measure => have := HK2.out; omega
                case rel =>
                  have hk3 := HK2.out
                  exact ⟨b2, b2 + 40, k2 + 1, d4, rfl, by go_num, hlt2, by omega, by omega, (show Hid _ from by show _ = _; omega), by omega, H4, HM4, HB5, HB6⟩
              · have hlz2 : ¬ (b2 : Int) ≤ (N : Int) := by omega
                by_cases hm : a2 + 20 < N
                · have hmz : (a2 : Int) + 20 < (N : Int) := by omega
                  go_wp2_with fail
                  rw [show (a2 : Int) + 20 = ((a2 + 20 : Nat) : Int) by omega]
                  refine (symMerge_any w0 blk off cap N (by omega) 100 a2 (a2 + 20) N d3 (by omega) (by omega) (by omega) (Nat.le_refl _) (S1.out (by omega)) (S2.out N (by omega) (Nat.le_refl _)) _ H3).mono ?_
                  rintro e w2 ⟨rfl, d4, M4, S4, H4⟩
                  have HM4 : Aside (Mgd 0 N d d4) := HM3.out.trans (M4.mono (by omega) (Nat.le_refl _))
                  have HB5 : Aside (Blk 40 0 N d4) := blk40_end HK2.out HB3.out M4 S4
                  clear M4 S4
                  go_wp2
                  go_roundg 2
                  case measure => omega
                  case rel => exact ⟨d4, H4, HM4, Or.inr (Or.inl ⟨rfl, rfl, HB5⟩)⟩
                · have hmz : ¬ (a2 : Int) + 20 < (N : Int) := by omega
                  have HB5 : Aside (Blk 40 0 N d3) := blk40_end HK2.out HB3.out (Mgd.refl _ _ _) (Blk.srt HB4.out (Nat.le_refl _) (Nat.le_refl _) (by have := HK2.out; intro i j; omega))
                  go_wp2
                  go_roundg 2
                  case measure => omega
                  case rel => exact ⟨d3, H3, HM3, Or.inr (Or.inl ⟨rfl, rfl, HB5⟩)⟩
          · have hnz : ¬ (20 : Int) < (N : Int) := by omega
            go_wp2
            go_end0
            exact ⟨rfl, d2, HM2.out, Blk.srt HB2.out (Nat.le_refl _) (Nat.le_refl _) (by intro i j; omega), H2⟩
        · by_cases hn : 40 < N
          · have hnz : (40 : Int) < (N : Int) := by omega
            have hnz2 : ¬ (80 : Int) ≤ (N : Int) := by omega
            go_wp2
            go_loopg [7, 8] 0 (fun g va vb wr3 => va = .int .i64 0 ∧ vb = .int .i64 80 ∧ At w0 blk off N d2 wr3)
            case atStart => exact ⟨rfl, rfl, H2⟩
            case round =>
              obtain ⟨rfl, rfl, H3⟩ := hrel
              go_wp2_with fail
              refine (symMerge_any w0 blk off cap N (by omega) 100 0 40 N d2 (by omega) (by omega) (by omega) (Nat.le_refl _) (Blk.srt HB2.out (by omega) (by omega) (by intro i j; omega)) (Blk.srt HB2.out (by omega) (by omega) (by intro i j; omega)) _ H3).mono ?_
              rintro e w2 ⟨rfl, d4, M4, S4, H4⟩
              have HM4 : Aside (Mgd 0 N d d4) := HM2.out.trans M4
              have HB5 : Aside (Srt 0 N d4) := S4
              clear M4 S4
              go_wp2
              go_roundg 1
              case measure => omega
              case rel => exact ⟨d4, H4, HM4, Or.inr (Or.inr ⟨rfl, rfl, HB5⟩)⟩
          · have hnz : ¬ (40 : Int) < (N : Int) := by omega
            go_wp2
            go_end0
            exact ⟨rfl, d2, HM2.out, Blk.srt HB2.out (Nat.le_refl _) (Nat.le_refl _) (by intro i j; omega), H2⟩
        · have hnz : ¬ (80 : Int) < (N : Int) := by omega
          go_wp2
          go_end0
          exact ⟨rfl, d2, HM2.out, HB2.out, H2⟩
#print axioms stable_any

theorem sortStable_any (w0 : World) (blk off cap N : Nat) (d : Array (Int × Int)) (W : World) (h : At w0 blk off N d W) (hN : N ≤ 60) :
    Calls Tryd.prog 42 #[.slice (some ⟨blk, off, none⟩) N cap, .func (.func 43) #[] #[]] W fun e w' =>
      e = .returned (.tuple #[]) ∧ ∃ d', Mgd 0 N d d' ∧ Srt 0 N d' ∧ At w0 blk off N d' w' := by
  go_enter Tryd.func42, Tryd.ntmps42
  go_wp2_with fail
  refine (stable_any w0 blk off cap N d _ h hN).mono ?_
  rintro e w1 ⟨rfl, d1, M1, S1, H1⟩
  go_wp2
  go_end0
  exact ⟨rfl, d1, M1, S1, H1⟩
end Go.Proofs.YtmkjalpgeljnkaaDoor

/-
  order.Sort: the items by their keys, and what has one key stays in its order; nothing that was there is changed.
-/
namespace Go.Proofs.YtmkjalpgeljnkaaDoor
open Go.RowKit Go.Sort Go.Proofs

theorem At.below {w0 W : World} {blk off N B : Nat} {d : Array (Int × Int)} (h : At w0 blk off N d W) (hB : B ≤ blk) : Below B w0 W := by
  obtain ⟨n, os, rfl⟩ := h.sw
  refine ⟨rfl, rfl, rfl, by unfold sortWorldK; rw [size_grow, size_putRowK]; exact Nat.le_add_right _ _, fun k hk => ?_⟩
  have hk2 : k < w0.heap.size := by have := h.hblk; omega
  unfold sortWorldK
  show ((putRowK encI 2 (Sort.ahead w0 n) blk off d).heap ++ os)[k]? = _
  rw [Array.getElem?_append_left (by rw [size_putRowK]; exact hk2)]
  simp only [putRowK, putRow, mapBlock, Array.getElem?_modify]
  rw [if_neg (by omega)]
  rfl

/-- ys is xs by keys, and what has one key stays in its order. -/
structure Sorts (xs ys : Array (Int × Int)) : Prop where
  size : ys.size = xs.size
  st : StEq xs.toList ys.toList
  srt : Srt 0 ys.size ys

set_option maxHeartbeats 2000000 in
theorem sort_bad (v : Value) (xs : Array (Int × Int)) (w : World) (h : Sl w v xs) (hbig : xs.size ≤ 9223372036854775807) (k : Nat) (hk : wrong xs = k) (h0 : k ≠ 0) :
    Calls Tryd.prog 24 #[v] w fun e w' => e = .returned (.tuple #[.slice none 0 0, .iface 56 (.int .i64 k)]) ∧ Below w.heap.size w w' := by
  have hcon := check_any v xs w h hbig
  rw [hk, errV_pos h0] at hcon
  obtain ⟨p, cap, rfl, _⟩ := h
  clear hk h0
  go_enter Tryd.func24, Tryd.ntmps24
  go_wp2_with (go_at_call 31; refine hcon.mono ?_; rintro e w' ⟨rfl, hb⟩)
  go_ret2
  exact ⟨rfl, hb⟩
/-- make and copy: a row of one's own that holds the items. -/
theorem copied (w w1 w2 : World) (N cap blk off : Nat) (xs : Array (Int × Int)) (L : List Value) (hb : Below w.heap.size w w1) (hr : RdAt w blk off xs) (hN : xs.size = N)
    (hown : w2.ownsRow w.heap.size 24 2 (.slice (some ⟨w1.heap.size, 0, none⟩) N N) N L) (hgr : w1.grownBy w2 none) :
    ∃ w3, (Builtin.copy_ #[35, 35] 3 #[.slice (some ⟨w1.heap.size, 0, none⟩) N N, .slice (some ⟨blk, off, none⟩) N cap]).run Tryd.prog w2 = .ok (.int .i64 N) w3 ∧
      At w3 w1.heap.size 0 N xs w3 ∧ Below w.heap.size w w3 := by
  subst hN
  obtain ⟨hg2, hce, hfr⟩ := owned_cells hown
  have hb2 : Below w.heap.size w w2 := hb.grown hgr hb.size (fun k e => by cases e)
  have hrd := hr.below hb2 hr.1
  refine ⟨w2.setCells w1.heap.size 0 (flatK encI 2 xs).toList, ?_, At.start (holdsK_of_copy hce hfr) (by rw [size_setCells]; exact hg2), below_setCells hb.size _ _ _ hb2⟩
  have := run_copyK (P := Tryd.prog) w2 35 35 3 24 2 w1.heap.size 0 xs.size xs.size ⟨blk, off, none⟩ xs.size cap (flatK encI 2 xs).toList Tryd.underlying35 size_item (by simp)
    (fun j v hv => by
      obtain ⟨hj, rfl⟩ := List.getElem?_eq_some_iff.1 hv
      have hj' : j < xs.size * 2 := by simpa using hj
      rw [show ((⟨blk, off, none⟩ : Addr).add j) = ⟨blk, off + j, none⟩ by unfold Addr.add; split <;> simp_all, hrd.flat j hj', Array.getElem_toList, getElem!_pos _ j (by simpa using hj')])
    (fun j hj => by simpa using hce j (by simpa using hj)) (fun j hj => by simpa using hfr j (by simpa using hj)) (flatI_one xs)
  simpa [goInt] using this
theorem copied_none (w w1 w2 : World) (cap : Nat) (p : Option Addr) (L : List Value) (hb : Below w.heap.size w w1)
    (hown : w2.ownsRow w.heap.size 24 2 (.slice (some ⟨w1.heap.size, 0, none⟩) 0 0) 0 L) (hgr : w1.grownBy w2 none) :
    (Builtin.copy_ #[35, 35] 3 #[.slice (some ⟨w1.heap.size, 0, none⟩) 0 0, .slice p 0 cap]).run Tryd.prog w2 = .ok (.int .i64 0) w2 ∧
      At w2 w1.heap.size 0 0 #[] w2 ∧ Below w.heap.size w w2 := by
  obtain ⟨hg2, _, _⟩ := owned_cells hown
  refine ⟨?_, At.start (d := #[]) (fun j hj => by simp at hj) hg2, hb.grown hgr hb.size (fun k e => by cases e)⟩
  have := run_copyK_none (P := Tryd.prog) w2 35 35 3 24 2 (some ⟨w1.heap.size, 0, none⟩) p 0 0 0 cap Tryd.underlying35 size_item rfl
  simpa [goInt] using this

set_option maxHeartbeats 4000000 in
theorem sort_good (v : Value) (xs : Array (Int × Int)) (w : World) (h : Sl w v xs) (hk : wrong xs = 0) :
    Calls Tryd.prog 24 #[v] w fun e w' => ∃ g ys, e = .returned (.tuple #[.slice (some ⟨g, 0, none⟩) xs.size xs.size, .nilIface]) ∧ RdAt w' g 0 ys ∧ Sorts xs ys ∧ Below w.heap.size w w' := by
  have h60 := wrong_le hk
  have hcon := check_any v xs w h (by omega)
  rw [hk, errV_zero] at hcon
  obtain ⟨p, cap, rfl, hcap, hpp⟩ := h
  clear hk hcap
  obtain ⟨N, hN⟩ : ∃ N, xs.size = N := ⟨_, rfl⟩
  rw [hN] at hcon h60 hpp ⊢
  have HN : Hid _ := hN
  clear hN
  obtain ⟨i0, hi, hz0, hz1, hz2⟩ := info_parts info_item
  have hmax : N ≤ maxLen := by unfold maxLen; omega
  rcases hpp with rfl | ⟨blk, off, rfl, hr⟩
  · go_enter Tryd.func24, Tryd.ntmps24
    go_wp2_with (first
      | (go_at_call 31; refine hcon.mono ?_; rintro e w1 ⟨rfl, hb⟩)
      | (at_make; refine wpList_make_full _ rfl (.tmp 12) (.tmp 12) 35 rfl w.heap.size 24 i0 (.agg #[.int .i64 0, .int .i64 0]) 2 Tryd.underlying35 hi hz0 hz1 .i64 .i64 _ _ 0 rfl rfl rfl rfl (by rw [hz2]; omega) hmax hb.size ?_; intro w2 hown hgr; obtain ⟨hrun, HA, hb3⟩ := copied_none w w1 w2 cap p _ hb hown hgr; clear hown hgr))
    refine (sortStable_any _ _ 0 0 0 #[] _ HA (by omega)).mono ?_
    rintro e w3 ⟨rfl, d', M, S, H3⟩
    go_wp2
    go_ret2
    have e0 : xs = #[] := Array.eq_empty_of_size_eq_zero HN.out
    refine ⟨_, #[], rfl, ⟨H3.lt, fun i hi => absurd hi (Nat.not_lt_zero _)⟩, ⟨by rw [e0], fun k => by rw [e0], fun i j _ _ h3 => absurd h3 (Nat.not_lt_zero _)⟩, hb3.trans (H3.below hb.size)⟩
  · have HR : Aside _ := hr
    clear hr
    go_enter Tryd.func24, Tryd.ntmps24
    go_wp2_with (first
      | (go_at_call 31; refine hcon.mono ?_; rintro e w1 ⟨rfl, hb⟩)
      | (at_make; refine wpList_make_full _ rfl (.tmp 12) (.tmp 12) 35 rfl w.heap.size 24 i0 (.agg #[.int .i64 0, .int .i64 0]) 2 Tryd.underlying35 hi hz0 hz1 .i64 .i64 _ _ N rfl rfl rfl rfl (by rw [hz2]; omega) hmax hb.size ?_; intro w2 hown hgr; obtain ⟨w3, hrun, HA, hb3⟩ := copied w w1 w2 N cap blk off xs _ hb HR.out HN.out hown hgr; clear hown hgr))
    refine (sortStable_any _ _ 0 N N xs _ HA h60).mono ?_
    rintro e w4 ⟨rfl, d', M, S, H4⟩
    have MM : Aside _ := M
    have SS : Aside _ := S
    clear M S
    go_wp2
    go_ret2
    exact ⟨_, d', rfl, H4.rd, ⟨MM.out.size, MM.out.st, by rw [H4.size]; exact SS.out⟩, hb3.trans (H4.below hb.size)⟩
#print axioms sort_good
end Go.Proofs.YtmkjalpgeljnkaaDoor

/-
  order.Sorted: do keys not fall? order.Inversions: how many pairs stand the wrong way round.
-/
namespace Go.Proofs.YtmkjalpgeljnkaaDoor
open Go.RowKit Go.Sort Go.Proofs

theorem below_grown (B : Nat) (w : World) (n : Nat) (os : Array Obj) (hB : B ≤ w.heap.size) : Below B w (grow (w.drewN n) os) :=
  ⟨rfl, rfl, rfl, by rw [size_grow]; exact Nat.le_add_right _ _, fun k hk => by show (w.heap ++ os)[k]? = _; rw [Array.getElem?_append_left (by omega)]⟩

/-- Do keys not fall? -/
def srtB (xs : Array (Int × Int)) : Bool := (List.range (xs.size - 1)).all fun i => decide (xs[i]!.1 ≤ xs[i + 1]!.1)
theorem srtB_false {xs : Array (Int × Int)} {i : Nat} (hi : i + 1 < xs.size) (h : xs[i + 1]!.1 < xs[i]!.1) : srtB xs = false := by
  unfold srtB
  rw [List.all_eq_false]
  exact ⟨i, List.mem_range.2 (by omega), by simp; exact h⟩
theorem srtB_true {xs : Array (Int × Int)} (h : ∀ i, i + 1 < xs.size → xs[i]!.1 ≤ xs[i + 1]!.1) : srtB xs = true := by
  unfold srtB
  rw [List.all_eq_true]
  intro i hi
  exact decide_eq_true (h i (by have := List.mem_range.1 hi; omega))
theorem srtB_step {xs : Array (Int × Int)} (h : srtB xs = true) {i : Nat} (hi : i + 1 < xs.size) : xs[i]!.1 ≤ xs[i + 1]!.1 := by
  unfold srtB at h
  rw [List.all_eq_true] at h
  exact of_decide_eq_true (h i (List.mem_range.2 (by omega)))
theorem srtB_srt {xs : Array (Int × Int)} (h : srtB xs = true) : Srt 0 xs.size xs := by
  have key : ∀ n i, i + n < xs.size → xs[i]!.1 ≤ xs[i + n]!.1 := by
    intro n
    induction n with
    | zero => intro i _; exact Int.le_refl _
    | succ n ih => intro i hi; have := ih i (by omega); have := srtB_step h (i := i + n) (by omega); rw [show i + (n + 1) = i + n + 1 by omega]; omega
  intro i j _ h2 h3
  have := key (j - i) i (by omega)
  rwa [show i + (j - i) = j by omega] at this
theorem srt_srtB {xs : Array (Int × Int)} (h : Srt 0 xs.size xs) : srtB xs = true := srtB_true fun i hi => h i (i + 1) (by omega) (by omega) hi

theorem ret_b {a b : Bool} (h : a = b) : Ending.returned (.bool b) = .returned (.bool a) := by rw [h]

end Go.Proofs.YtmkjalpgeljnkaaDoor

/-
  Plain facts: there is just one such order; what a sort keeps.
-/
namespace Go.Proofs.YtmkjalpgeljnkaaDoor
open Go.RowKit Go.Sort Go.Proofs

theorem stEq_unique : ∀ (l l' : List (Int × Int)), l.Pairwise (fun x y => x.1 ≤ y.1) → l'.Pairwise (fun x y => x.1 ≤ y.1) → StEq l l' → l = l'
  | [], [], _, _, _ => rfl
  | [], y :: s, _, _, h => by have := h y.1; simp at this
  | x :: r, [], _, _, h => by have := h x.1; simp at this
  | x :: r, y :: s, h1, h2, h => by
    have k1 : x.1 = y.1 := by
      have a1 : ∃ z ∈ (y :: s), z.1 = x.1 := by
        have := h x.1
        have hm : x ∈ (x :: r).filter (fun z => z.1 == x.1) := by simp
        rw [this, List.mem_filter] at hm
        exact ⟨x, hm.1, rfl⟩
      have a2 : ∃ z ∈ (x :: r), z.1 = y.1 := by
        have := h y.1
        have hm : y ∈ (y :: s).filter (fun z => z.1 == y.1) := by simp
        rw [← this, List.mem_filter] at hm
        exact ⟨y, hm.1, rfl⟩
      obtain ⟨z1, m1, e1⟩ := a1
      obtain ⟨z2, m2, e2⟩ := a2
      have b1 : y.1 ≤ z1.1 := by
        rcases List.mem_cons.1 m1 with rfl | m
        · exact Int.le_refl _
        · exact (List.pairwise_cons.1 h2).1 z1 m
      have b2 : x.1 ≤ z2.1 := by
        rcases List.mem_cons.1 m2 with rfl | m
        · exact Int.le_refl _
        · exact (List.pairwise_cons.1 h1).1 z2 m
      omega
    have k2 : x = y := by
      have := h x.1
      rw [List.filter_cons_of_pos (by simp), List.filter_cons_of_pos (by simp [k1])] at this
      exact (List.cons.inj this).1
    subst k2
    rw [stEq_unique r s (List.pairwise_cons.1 h1).2 (List.pairwise_cons.1 h2).2 fun k => by
      have := h k
      rw [List.filter_cons, List.filter_cons] at this
      split at this
      · exact (List.cons.inj this).2
      · exact this]

theorem srt_pairwise {xs : Array (Int × Int)} (h : Srt 0 xs.size xs) : xs.toList.Pairwise (fun x y => x.1 ≤ y.1) := by
  rw [List.pairwise_iff_getElem]
  intro i j hi hj hij
  rw [getD_toList, getD_toList]
  exact h i j (Nat.zero_le _) (by omega) (by simpa using hj)
theorem sorted_unique {ys zs : Array (Int × Int)} (h1 : Srt 0 ys.size ys) (h2 : Srt 0 zs.size zs) (h : StEq ys.toList zs.toList) : ys = zs := by
  have := stEq_unique _ _ (srt_pairwise h1) (srt_pairwise h2) h
  exact Array.toList_inj.1 this
theorem StEq.symm {l l' : List (Int × Int)} (h : StEq l l') : StEq l' l := fun k => (h k).symm
theorem StEq.trans {l l' l'' : List (Int × Int)} (h : StEq l l') (g : StEq l' l'') : StEq l l'' := fun k => (h k).trans (g k)
theorem Sorts.unique {xs ys zs : Array (Int × Int)} (h1 : Sorts xs ys) (h2 : Sorts xs zs) : ys = zs := sorted_unique h1.srt h2.srt (h1.st.symm.trans h2.st)
theorem StEq.count {l l' : List (Int × Int)} (h : StEq l l') (z : Int × Int) : l.count z = l'.count z := by
  have e : ∀ m : List (Int × Int), m.count z = (m.filter (fun x => x.1 == z.1)).count z := fun m => by rw [List.count_filter (by simp)]
  rw [e l, e l', h z.1]
theorem StEq.perm {l l' : List (Int × Int)} (h : StEq l l') : l.Perm l' := List.perm_iff_count.2 h.count
theorem any_perm {l l' : List (Int × Int)} (h : l.Perm l') (f : Int × Int → Bool) : l.any f = l'.any f := by
  rw [Bool.eq_iff_iff, List.any_eq_true, List.any_eq_true]
  exact ⟨fun ⟨x, m, e⟩ => ⟨x, h.mem_iff.1 m, e⟩, fun ⟨x, m, e⟩ => ⟨x, h.mem_iff.2 m, e⟩⟩
theorem Sorts.wrong {xs ys : Array (Int × Int)} (h : Sorts xs ys) : wrong ys = wrong xs := by
  have : anyOut ys = anyOut xs := any_perm h.st.perm.symm outB
  simp only [YtmkjalpgeljnkaaDoor.wrong, h.size, this]
theorem Sorts.bag {xs ys : Array (Int × Int)} (h : Sorts xs ys) : bagB ys xs = true := bagB_intro h.size fun z => (h.st.count z).symm
end Go.Proofs.YtmkjalpgeljnkaaDoor

/-
  errors.As at a target that is an Errno, plain.Told and the statements' own Error: which number an error tells.
-/
namespace Go.Proofs.YtmkjalpgeljnkaaDoor
open Go.RowKit Go.Extern.Stop Go.Stop Go.Extern

/-! ### Closed facts on the entries for internal/reflectlite, at this program's numbers -/
theorem as_valueOfP (t : Addr) (w : World) : (ReflectliteValue.unpack (.iface 73 (.pointer (some t)))).run Tryd.prog w = .ok (.agg #[.pointer (some ⟨1, 73, none⟩), .pointer (some ⟨w.heap.size, 0, none⟩), .int .u64 150]) (w.alloc (.cells #[.pointer (some t)] 73)) := by kernel_rfl
theorem as_typeP (a : Addr) (w : World) : (ReflectliteValue.methodAny (ReflectliteValue.valueError "reflectlite.Value.Type" 0) (fun t _ _ _ => ReflectliteType.toType t) #[.agg #[.pointer (some ⟨1, 73, none⟩), .pointer (some a), .int .u64 150]]).run Tryd.prog w = .ok (.iface 95 (.agg #[.pointer (some ⟨1, 73, none⟩)])) w := by kernel_rfl
theorem as_methodKind (h : Value) (w : World) : (Go.method 239 95 (.agg #[h]) "Kind").run Tryd.prog w = .ok (77, h) w := by kernel_rfl
theorem as_kindP (w : World) : ((ReflectliteType.abiMethod fun t => (fun a : Nat => Value.int IntKind.u8 (a : Int)) <$> Rtype.kind t) #[.pointer (some ⟨1, 73, none⟩)]).run Tryd.prog w = .ok (.int .u8 22) w := by kernel_rfl
theorem as_kindE (w : World) : ((ReflectliteType.abiMethod fun t => (fun a : Nat => Value.int IntKind.u8 (a : Int)) <$> Rtype.kind t) #[.pointer (some ⟨1, 56, none⟩)]).run Tryd.prog w = .ok (.int .u8 2) w := by kernel_rfl
theorem as_rlm (z : Sem Value) (f : TypeId → Addr → Nat → Nat → Sem Value) (v : Value) :
    ReflectliteValue.method z f #[v] = (do match ← ReflectliteValue.parts v with | none => z | some (t, a, fl) => f t a fl (fl % 32)) := rfl
theorem as_partsP (a : Addr) (w : World) : (ReflectliteValue.parts (.agg #[.pointer (some ⟨1, 73, none⟩), .pointer (some a), .int .u64 150])).run Tryd.prog w = .ok (some (73, a, 150)) w := by kernel_rfl
theorem as_isNilP (a p : Addr) (W : World) (ha : W.cell? a = some (.pointer (some p))) :
    (ReflectliteValue.method (ReflectliteValue.valueError "reflectlite.Value.IsNil" 0) ReflectliteValue.isNil #[.agg #[.pointer (some ⟨1, 73, none⟩), .pointer (some a), .int .u64 150]]).run Tryd.prog W = .ok (.bool false) W := by
  rw [as_rlm]
  simp only [Sem.run_bind, as_partsP, Result.andThen]
  simp [ReflectliteValue.isNil, loadVar, isAgg, underlying, Tryd.underlying73, ha, Result.andThen]
theorem as_methodElem (h : Value) (w : World) : (Go.method 239 95 (.agg #[h]) "Elem").run Tryd.prog w = .ok (87, .agg #[h]) w := by kernel_rfl
theorem as_methodImplements (h : Value) (w : World) : (Go.method 239 95 (.agg #[h]) "Implements").run Tryd.prog w = .ok (88, .agg #[h]) w := by kernel_rfl
theorem as_methodAssignableTo (h : Value) (w : World) : (Go.method 239 95 (.agg #[h]) "AssignableTo").run Tryd.prog w = .ok (85, .agg #[h]) w := by kernel_rfl
theorem as_elemT (w : World) : (ReflectliteType.method ReflectliteType.elem #[.agg #[.pointer (some ⟨1, 73, none⟩)]]).run Tryd.prog w = .ok (.iface 95 (.agg #[.pointer (some ⟨1, 56, none⟩)])) w := by kernel_rfl
theorem as_implements (w : World) : (ReflectliteType.relation "Implements" ReflectliteType.implements_ #[.agg #[.pointer (some ⟨1, 56, none⟩)], .iface 95 (.agg #[.pointer (some ⟨1, 28, none⟩)])]).run Tryd.prog w = .ok (.bool true) w := by kernel_rfl
theorem as_typeOf (n : Int) (w : World) : (ReflectliteType.typeOf #[.iface 56 (.int .i64 n)]).run Tryd.prog w = .ok (.iface 95 (.agg #[.pointer (some ⟨1, 56, none⟩)])) w := by kernel_rfl
theorem as_assignable (w : World) : (ReflectliteType.relation "AssignableTo" ReflectliteType.assignableTo #[.agg #[.pointer (some ⟨1, 56, none⟩)], .iface 95 (.agg #[.pointer (some ⟨1, 56, none⟩)])]).run Tryd.prog w = .ok (.bool true) w := by kernel_rfl
theorem as_valueOfE (n : Int) (w : World) : (ReflectliteValue.unpack (.iface 56 (.int .i64 n))).run Tryd.prog w = .ok (.agg #[.pointer (some ⟨1, 56, none⟩), .pointer (some ⟨w.heap.size, 0, none⟩), .int .u64 130]) (w.alloc (.cells #[.int .i64 n] 56)) := by kernel_rfl
theorem as_elemOf (w : World) : (Rtype.elem? 73).run Tryd.prog w = .ok (some 56) w := by kernel_rfl
theorem as_mk (p : Addr) (w : World) : (ReflectliteValue.mk 56 p ReflectliteValue.flagAddr).run Tryd.prog w = .ok (.agg #[.pointer (some ⟨1, 56, none⟩), .pointer (some p), .int .u64 386]) w := by kernel_rfl
theorem as_elemV (a p : Addr) (W : World) (ha : W.cell? a = some (.pointer (some p))) :
    (ReflectliteValue.method (ReflectliteValue.valueError "reflectlite.Value.Elem" 0) ReflectliteValue.elem #[.agg #[.pointer (some ⟨1, 73, none⟩), .pointer (some a), .int .u64 150]]).run Tryd.prog W = .ok (.agg #[.pointer (some ⟨1, 56, none⟩), .pointer (some p), .int .u64 386]) W := by
  rw [as_rlm]
  simp only [Sem.run_bind, as_partsP, Result.andThen]
  simp [ReflectliteValue.elem, loadVar, isAgg, underlying, Tryd.underlying73, ha, Result.andThen, as_elemOf, as_mk]
theorem as_partsA (a : Addr) (w : World) : (ReflectliteValue.parts (.agg #[.pointer (some ⟨1, 56, none⟩), .pointer (some a), .int .u64 386])).run Tryd.prog w = .ok (some (56, a, 386)) w := by kernel_rfl
theorem as_partsB (a : Addr) (w : World) : (ReflectliteValue.parts (.agg #[.pointer (some ⟨1, 56, none⟩), .pointer (some a), .int .u64 130])).run Tryd.prog w = .ok (some (56, a, 130)) w := by kernel_rfl
theorem as_direct (w : World) : (Rtype.directlyAssignable 56 56).run Tryd.prog w = .ok true w := by kernel_rfl
theorem as_m3 {M : Array Value → Sort _} (v x : Value) (h1 : (v x : Value) → M #[v, x]) (h2 : (y : Array Value) → M y) : ReflectliteValue.set.match_3 M #[v, x] h1 h2 = h1 v x := rfl
theorem as_set (ta b : Addr) (n : Int) (old : Value) (W : World) (hb : W.cell? b = some (.int .i64 n)) (ht : W.cell? ta = some old) (hf : W.frozen? ta = false) :
    (ReflectliteValue.set #[.agg #[.pointer (some ⟨1, 56, none⟩), .pointer (some ta), .int .u64 386], .agg #[.pointer (some ⟨1, 56, none⟩), .pointer (some b), .int .u64 130]]).run Tryd.prog W = .ok (.tuple #[]) (W.setCell ta (.int .i64 n)) := by
  delta ReflectliteValue.set
  rw [as_m3]
  simp only [Sem.run_bind, as_partsA, as_partsB, Result.andThen]
  simp [ReflectliteValue.flagAddr, loadVar, isAgg, underlying, Tryd.underlying56, hb, Result.andThen, as_direct, storeVar, Value.cells, storeCells, Addr.add]
  rw [run_store Tryd.prog W ta _ _ (by rfl)]
  simp [ht, hf]

set_option maxHeartbeats 4000000 in
theorem as_hit (n : Int) (t : Addr) (old : Value) (w : World) (hg : w.cell? ⟨0, 0, none⟩ = some (.iface 95 (.agg #[.pointer (some ⟨1, 28, none⟩)]))) (ht0 : w.cell? t = some old) (hf0 : w.frozen? t = false) :
    Calls Tryd.prog 44 #[.iface 56 (.int .i64 n), .iface 73 (.pointer (some t))] w fun ev w' => ev = .returned (.bool true) ∧ w' = ((((w.alloc (.cells #[.pointer (some t)] 73)).alloc (.cells #[.pointer (some ⟨1, 73, none⟩), .pointer (some ⟨w.heap.size, 0, none⟩), .int .u64 150] 82)).alloc (.cells #[.pointer (some ⟨1, 73, none⟩), .pointer (some ⟨w.heap.size, 0, none⟩), .int .u64 150] 82)).alloc (.cells #[.int .i64 n] 56)).setCell t (.int .i64 n) := by
  have h6 := @run_callFunc_extern Tryd.prog 50 _ (fun args => ReflectliteValue.unpack (args.getD 0 (.tuple #[]))) Tryd.func50 (by kernel_rfl) (by kernel_rfl) (by kernel_rfl) (by kernel_rfl)
  have h7 := @run_callFunc_extern Tryd.prog 51 _ (ReflectliteValue.methodAny (ReflectliteValue.valueError "reflectlite.Value.Type" 0) (fun t _ _ _ => ReflectliteType.toType t)) Tryd.func51 (by kernel_rfl) (by kernel_rfl) (by kernel_rfl) (by kernel_rfl)
  have h8 := @run_callFunc_extern Tryd.prog 52 _ (ReflectliteValue.method (ReflectliteValue.valueError "reflectlite.Value.IsNil" 0) ReflectliteValue.isNil) Tryd.func52 (by kernel_rfl) (by kernel_rfl) (by kernel_rfl) (by kernel_rfl)
  have h27 := @run_callFunc_extern Tryd.prog 77 _ (ReflectliteType.abiMethod fun t => do pure (.int .u8 (← Rtype.kind t))) Tryd.func77 (by kernel_rfl) (by kernel_rfl) (by kernel_rfl) (by kernel_rfl)
  have h37 := @run_callFunc_extern Tryd.prog 87 _ (ReflectliteType.method ReflectliteType.elem) Tryd.func87 (by kernel_rfl) (by kernel_rfl) (by kernel_rfl) (by kernel_rfl)
  have h38 := @run_callFunc_extern Tryd.prog 88 _ (ReflectliteType.relation "Implements" ReflectliteType.implements_) Tryd.func88 (by kernel_rfl) (by kernel_rfl) (by kernel_rfl) (by kernel_rfl)
  have h10 := @run_callFunc_extern Tryd.prog 58 _ ReflectliteType.typeOf Tryd.func58 (by kernel_rfl) (by kernel_rfl) (by kernel_rfl) (by kernel_rfl)
  have h35 := @run_callFunc_extern Tryd.prog 85 _ (ReflectliteType.relation "AssignableTo" ReflectliteType.assignableTo) Tryd.func85 (by kernel_rfl) (by kernel_rfl) (by kernel_rfl) (by kernel_rfl)
  have h11 := @run_callFunc_extern Tryd.prog 59 _ (ReflectliteValue.method (ReflectliteValue.valueError "reflectlite.Value.Elem" 0) ReflectliteValue.elem) Tryd.func59 (by kernel_rfl) (by kernel_rfl) (by kernel_rfl) (by kernel_rfl)
  have h12 := @run_callFunc_extern Tryd.prog 60 _ ReflectliteValue.set Tryd.func60 (by kernel_rfl) (by kernel_rfl) (by kernel_rfl) (by kernel_rfl)
  have tO := as_typeOf
  have mA := as_methodAssignableTo
  have a25 := as_assignable
  have v25 := as_valueOfE
  have f6 := as_valueOfP
  have f7 := as_typeP
  have mK := as_methodKind
  have mE := as_methodElem
  have mI := as_methodImplements
  have k27 := as_kindP
  have k25 := as_kindE
  have e27 := as_elemT
  have i25 := as_implements
  have n8 := as_isNilP ⟨w.heap.size, 0, none⟩ t ((w.alloc (.cells #[.pointer (some t)] 73)).alloc (.cells #[.pointer (some ⟨1, 73, none⟩), .pointer (some ⟨w.heap.size, 0, none⟩), .int .u64 150] 82)) (by simp)
  have hlt : 0 < w.heap.size := by
    rcases Nat.eq_zero_or_pos w.heap.size with h0 | h
    · simp [World.cell?, h0] at hg
    · exact h
  have hg2 : ((w.alloc (.cells #[.pointer (some t)] 73)).alloc (.cells #[.pointer (some ⟨1, 73, none⟩), .pointer (some ⟨w.heap.size, 0, none⟩), .int .u64 150] 82)).cell? ⟨0, 0, none⟩ = some (.iface 95 (.agg #[.pointer (some ⟨1, 28, none⟩)])) := by
    rw [World.cell?_alloc_lt _ _ ⟨0, 0, none⟩ (by simp), World.cell?_alloc_lt _ _ ⟨0, 0, none⟩ hlt]; exact hg
  have htl : t.block < w.heap.size := by
    rcases Nat.lt_or_ge t.block w.heap.size with h | h
    · exact h
    · simp [World.cell?, Array.getElem?_eq_none h] at ht0
  have el := as_elemV ⟨w.heap.size, 0, none⟩ t (((w.alloc (.cells #[.pointer (some t)] 73)).alloc (.cells #[.pointer (some ⟨1, 73, none⟩), .pointer (some ⟨w.heap.size, 0, none⟩), .int .u64 150] 82)).alloc (.cells #[.pointer (some ⟨1, 73, none⟩), .pointer (some ⟨w.heap.size, 0, none⟩), .int .u64 150] 82)) (by rw [World.cell?_alloc_lt _ _ ⟨w.heap.size, 0, none⟩ (by simp; omega)]; simp)
  have st := as_set t ⟨w.heap.size + 1 + 1 + 1, 0, none⟩ n old ((((w.alloc (.cells #[.pointer (some t)] 73)).alloc (.cells #[.pointer (some ⟨1, 73, none⟩), .pointer (some ⟨w.heap.size, 0, none⟩), .int .u64 150] 82)).alloc (.cells #[.pointer (some ⟨1, 73, none⟩), .pointer (some ⟨w.heap.size, 0, none⟩), .int .u64 150] 82)).alloc (.cells #[.int .i64 n] 56))
    (by rw [World.cell?_alloc_at _ _ _ _ (by simp)]; rfl)
    (by rw [World.cell?_alloc_lt _ _ t (by simp; omega), World.cell?_alloc_lt _ _ t (by simp; omega), World.cell?_alloc_lt _ _ t (by simp; omega), World.cell?_alloc_lt _ _ t htl]; exact ht0)
    (by rw [World.frozen?_alloc_old _ _ t (by simp; omega), World.frozen?_alloc_old _ _ t (by simp; omega), World.frozen?_alloc_old _ _ t (by simp; omega), World.frozen?_alloc_old _ _ t (Nat.ne_of_lt htl)]; exact hf0)
  go_enter Tryd.func44, Tryd.ntmps44
  go_wp2
  refine wp_loop_rounds 1 ?_
  rw [rounds_succ]
  go_wp2
  go_ret
  exact ⟨rfl, rfl⟩
end Go.Proofs.YtmkjalpgeljnkaaDoor

/-
  plain.Told and the statements' own Error: which number an error tells.
-/
namespace Go.Proofs.YtmkjalpgeljnkaaDoor
open Go.RowKit Go.Sort Go.Proofs

/-- The one package-level variable that errors.As reads holds the handle of the type error. -/
def Glob (w : World) : Prop := 0 < w.heap.size ∧ w.cell? ⟨0, 0, none⟩ = some (.iface 95 (.agg #[.pointer (some ⟨1, 28, none⟩)]))
theorem Glob.below {w w' : World} (h : Glob w) (hb : Below w.heap.size w w') : Glob w' :=
  ⟨Nat.lt_of_lt_of_le h.1 hb.size, (hb.cell (p := ⟨0, 0, none⟩) h.1).trans h.2⟩

theorem told_nil (w : World) : Calls Tryd.prog 29 #[.nilIface] w fun e w' => e = .returned (.int .i64 0) ∧ Below w.heap.size w w' := by
  go_enter Tryd.func29, Tryd.ntmps29
  go_wp2
  go_ret
  exact ⟨rfl, Below.refl _ _⟩
set_option maxHeartbeats 2000000 in
theorem told_hit (n : Int) (w : World) (hg : Glob w) : Calls Tryd.prog 29 #[.iface 56 (.int .i64 n)] w fun e w' => e = .returned (.int .i64 n) ∧ Below w.heap.size w w' := by
  have hg1 : (w.alloc (.cells #[.int .i64 0] 56)).cell? ⟨0, 0, none⟩ = some (.iface 95 (.agg #[.pointer (some ⟨1, 28, none⟩)])) := by
    rw [World.cell?_alloc_lt _ _ ⟨0, 0, none⟩ hg.1]; exact hg.2
  have c := as_hit n ⟨w.heap.size, 0, none⟩ (.int .i64 0) (w.alloc (.cells #[.int .i64 0] 56)) hg1 (by simp) (by simp)
  have hz : w.heap.size < (w.alloc (.cells #[.int .i64 0] 56)).heap.size := by simp
  have C : Hid (Calls Tryd.prog 44 #[.iface 56 (.int .i64 n), .iface 73 (.pointer (some ⟨w.heap.size, 0, none⟩))] (w.alloc (.cells #[.int .i64 0] 56)) fun ev w' => ev = .returned (.bool true) ∧ w'.cell? ⟨w.heap.size, 0, none⟩ = some (.int .i64 n) ∧ Below w.heap.size w w') :=
    c.mono fun ev w' ⟨h1, h2⟩ => by
      refine ⟨h1, ?_, ?_⟩
      · rw [h2]
        refine World.cell?_setCell_same' _ _ _ ?_
        rw [World.cell?_alloc_lt _ _ ⟨w.heap.size, 0, none⟩ (by simp; omega), World.cell?_alloc_lt _ _ ⟨w.heap.size, 0, none⟩ (by simp; omega), World.cell?_alloc_lt _ _ ⟨w.heap.size, 0, none⟩ (by simp; omega), World.cell?_alloc_lt _ _ ⟨w.heap.size, 0, none⟩ hz]
        simp
      · rw [h2]
        exact ((((((Below.refl w.heap.size w).alloc (Nat.le_refl _) _).alloc (by simp) _).alloc (by simp; omega) _).alloc (by simp; omega) _).alloc (by simp; omega) _).setCell (p := ⟨w.heap.size, 0, none⟩) (Nat.le_refl _) _
  clear c hg1 hg hz
  go_enter Tryd.func29, Tryd.ntmps29
  go_wp2_with fail
  refine C.out.mono ?_
  rintro e w1 ⟨rfl, hc, hb⟩
  go_wp2
  go_ret
  exact ⟨rfl, hb⟩

theorem told_any (k : Nat) (w : World) (hg : Glob w) : Calls Tryd.prog 29 #[errV k] w fun e w' => e = .returned (.int .i64 k) ∧ Below w.heap.size w w' := by
  unfold errV
  by_cases h : k = 0
  · rw [if_pos h, h]; exact told_nil w
  · rw [if_neg h]; exact told_hit k w hg
theorem error_any (k m : Nat) (w : World) (hg : Glob w) : Calls Tryd.prog 8 #[errV k, .int .i64 m] w fun e w' => e = .returned (.bool ((k : Int) == (m : Int))) ∧ Below w.heap.size w w' := by
  have c := told_any k w hg
  generalize errV k = v at c ⊢
  go_enter Tryd.func8, Tryd.ntmps8
  go_wp2_with fail
  refine c.mono ?_
  rintro e w1 ⟨rfl, hb⟩
  go_wp2
  go_ret
  exact ⟨rfl, hb⟩
end Go.Proofs.YtmkjalpgeljnkaaDoor

/-
  The law BinoSorts, walked: popped one by one all come sorted.
-/
namespace Go.Proofs.YtmkjalpgeljnkaaDoor
open Go.RowKit Go.Sort Go.Proofs

/-- Of xs the items os were popped, one by one, and the heap g is left. -/
structure PopsB (xs : List (Int × Int)) (os : List (Int × Int)) (g : List TrL) : Prop where
  perm : (os ++ itemsH g).Perm xs
  ok : OkH g
  srt : os.Pairwise (fun x y => x.1 ≤ y.1)
  le : ∀ o ∈ os, ∀ d ∈ itemsH g, o.1 ≤ d.1
theorem PopsB.start {xs : List (Int × Int)} {g : List TrL} (h : (itemsH g).Perm xs) (hg : OkH g) : PopsB xs [] g := ⟨by simpa using h, hg, List.Pairwise.nil, fun _ h => by cases h⟩
theorem PopsB.pop {xs os : List (Int × Int)} {g g' : List TrL} {x : Int × Int} (h : PopsB xs os g) (ho : OkH g') (hp : (x :: itemsH g').Perm (itemsH g)) (hl : ∀ y ∈ itemsH g, x.1 ≤ y.1) : PopsB xs (os ++ [x]) g' := by
  have sub : ∀ d, d ∈ itemsH g' → d ∈ itemsH g := fun d hd => hp.mem_iff.1 (List.mem_cons_of_mem _ hd)
  refine ⟨?_, ho, ?_, ?_⟩
  · rw [List.append_assoc]
    exact (List.Perm.append_left os hp).trans h.perm
  · rw [List.pairwise_append]
    exact ⟨h.srt, List.pairwise_singleton _ _, fun a ha y hy => by rw [List.mem_singleton.1 hy]; exact h.le a ha _ (hp.mem_iff.1 List.mem_cons_self)⟩
  · intro o hq d hd
    rcases List.mem_append.1 hq with q | q
    · exact h.le o q d (sub d hd)
    · rw [List.mem_singleton.1 q]
      exact hl d (sub d hd)
/-- What is popped has the keys that a sort has. -/
theorem keys_poppedB {xs zs : Array (Int × Int)} {os : List (Int × Int)} (hp : os.Perm xs.toList) (hs : os.Pairwise (fun x y => x.1 ≤ y.1)) (h : Sorts xs zs) : ∀ i, i < os.toArray.size → os.toArray[i]!.1 = zs[i]!.1 := by
  have e : os.map (·.1) = zs.toList.map (·.1) :=
    perm_sorted_eq _ _ (List.pairwise_map.2 hs) (List.pairwise_map.2 (srt_pairwise h.srt)) ((hp.trans h.st.perm).map _)
  intro i hi
  have hi1 : i < os.length := by simpa using hi
  have hl : os.length = zs.size := by simpa using congrArg List.length e
  have hi2 : i < zs.size := by omega
  have q : (os.map (·.1))[i]? = (zs.toList.map (·.1))[i]? := by rw [e]
  rw [List.getElem?_map, List.getElem?_map, List.getElem?_eq_getElem hi1, List.getElem?_eq_getElem (by simpa using hi2)] at q
  rw [getElem!_pos _ i hi, getElem!_pos zs i hi2]
  simpa using q
theorem wrong_bothB {xs ys : Array (Int × Int)} (h : wrong xs = 0) (h' : wrong ys = 0) (h60 : xs.size + ys.size ≤ 60) : wrong (xs.toList ++ ys.toList).toArray = 0 := by
  have key : ∀ {xs : Array (Int × Int)}, wrong xs = 0 → anyOut xs = false := fun {xs} h => by
    have := wrong_le h
    unfold wrong at h
    rw [if_neg (by omega)] at h
    cases e : anyOut xs
    · rfl
    · rw [e] at h; simp at h
  have a1 := key h
  have a2 := key h'
  unfold wrong
  rw [if_neg (by simp; omega)]
  unfold anyOut at a1 a2 ⊢
  simp only [List.any_append, a1, a2]
  rfl

set_option maxHeartbeats 4000000 in
theorem binoSorts_A (p p' : Option Addr) (n cap n' cap' : Nat) (w : World)
    (C1 : Hid (∀ w1, Below w.heap.size w w1 → Calls Tryd.prog 19 #[.slice p n cap] w1 fun e w' => ∃ q m c, e = .returned (.tuple #[.slice q m c, .bool false]) ∧ Below w1.heap.size w1 w'))
    (C2 : Hid (∀ w1, Below w.heap.size w w1 → Calls Tryd.prog 19 #[.slice p' n' cap'] w1 fun e w' => ∃ q m c b, e = .returned (.tuple #[.slice q m c, .bool b]) ∧ Below w1.heap.size w1 w')) :
    Calls Tryd.prog 6 #[.slice p n cap, .slice p' n' cap'] w fun e w' => e = .returned (.bool true) ∧ Below w.heap.size w w' := by
  have c0 := binoFact_any w
  go_enter Tryd.func6, Tryd.ntmps6
  go_wp2_with fail
  refine c0.mono ?_
  rintro e w1 ⟨rfl, hb1⟩
  clear c0
  go_wp2_with fail
  refine (C1.out w1 hb1).mono ?_
  rintro e w2 ⟨q1, m1, c1, rfl, hb2'⟩
  have hb2 := hb1.trans (hb2'.mono hb1.size)
  clear hb2' hb1
  go_wp2_with fail
  refine (C2.out w2 hb2).mono ?_
  rintro e w3 ⟨q2, m2, c2, b, rfl, hb3'⟩
  have hb3 := hb2.trans (hb3'.mono hb2.size)
  clear hb3' hb2
  go_wp2
  go_ret
  exact ⟨rfl, hb3⟩
set_option maxHeartbeats 4000000 in
theorem binoSorts_B (p p' : Option Addr) (n cap n' cap' : Nat) (w : World)
    (C1 : Hid (∀ w1, Below w.heap.size w w1 → Calls Tryd.prog 19 #[.slice p n cap] w1 fun e w' => ∃ q m c, e = .returned (.tuple #[.slice q m c, .bool true]) ∧ Below w1.heap.size w1 w'))
    (C2 : Hid (∀ w1, Below w.heap.size w w1 → Calls Tryd.prog 19 #[.slice p' n' cap'] w1 fun e w' => ∃ q m c, e = .returned (.tuple #[.slice q m c, .bool false]) ∧ Below w1.heap.size w1 w')) :
    Calls Tryd.prog 6 #[.slice p n cap, .slice p' n' cap'] w fun e w' => e = .returned (.bool true) ∧ Below w.heap.size w w' := by
  have c0 := binoFact_any w
  go_enter Tryd.func6, Tryd.ntmps6
  go_wp2_with fail
  refine c0.mono ?_
  rintro e w1 ⟨rfl, hb1⟩
  clear c0
  go_wp2_with fail
  refine (C1.out w1 hb1).mono ?_
  rintro e w2 ⟨q1, m1, c1, rfl, hb2'⟩
  have hb2 := hb1.trans (hb2'.mono hb1.size)
  clear hb2' hb1
  go_wp2_with fail
  refine (C2.out w2 hb2).mono ?_
  rintro e w3 ⟨q2, m2, c2, rfl, hb3'⟩
  have hb3 := hb2.trans (hb3'.mono hb2.size)
  clear hb3' hb2
  go_wp2
  go_ret
  exact ⟨rfl, hb3⟩
set_option maxHeartbeats 8000000 in
set_option maxRecDepth 4000 in
theorem binoSorts_C (p p' : Option Addr) (n cap n' cap' : Nat) (xs ys : Array (Int × Int)) (w : World) (_hn : n ≤ 60) (_hn' : n' ≤ 60) (HN : Hid (xs.size = n)) (HN' : Hid (ys.size = n')) (HS : Hid (Sl w (.slice p n cap) xs)) (HS' : Hid (Sl w (.slice p' n' cap') ys)) (HW : Hid (wrong xs = 0)) (HW' : Hid (wrong ys = 0)) (hgl : Glob w) (h60 : 60 < n + n') :
    Calls Tryd.prog 6 #[.slice p n cap, .slice p' n' cap'] w fun e w' => e = .returned (.bool true) ∧ Below w.heap.size w w' := by
  have c0 := binoFact_any w
  go_enter Tryd.func6, Tryd.ntmps6
  go_wp2_with fail
  refine c0.mono ?_
  rintro e w1 ⟨rfl, hb1⟩
  clear c0
  go_wp2_with fail
  refine (planted_good _ xs w1 (HS.out.below hb1) HW.out).mono ?_
  rintro e w2 ⟨q1, l1, c1, g1, rfl, hs1, hg1, hb2'⟩
  rw [HN.out] at hg1
  have hb2 := hb1.trans (hb2'.mono hb1.size)
  have HS1 : Hid (HpAt w2 (.slice q1 l1 c1) (zH g1)) := hs1
  have HG1 : Hid (Plants xs n g1) := hg1
  clear hb2' hb1 hs1 hg1
  go_wp2_with fail
  refine (planted_good _ ys w2 (HS'.out.below hb2) HW'.out).mono ?_
  rintro e w3 ⟨q2, l2, c2, g2, rfl, hs2, hg2, hb3'⟩
  rw [HN'.out] at hg2
  have hb3 := hb2.trans (hb3'.mono hb2.size)
  have HA3 : Hid (HpAt w3 (.slice q1 l1 c1) (zH g1)) := HS1.out.below hb3'
  have HB3 : Hid (HpAt w3 (.slice q2 l2 c2) (zH g2)) := hs2
  have HG2 : Hid (Plants ys n' g2) := hg2
  clear hb3' hb2 hs2 hg2 HS1
  have cM := dMeld_bad _ _ _ _ 4 w3 HA3.out HB3.out HG1.out.ok.fit HG2.out.ok.fit (by unfold meldE; rw [if_pos (binoE_ok HG1.out.ok), if_pos (binoE_ok HG2.out.ok), if_pos (by rw [sizeZ_zH, sizeZ_zH, HG1.out.size, HG2.out.size]; exact h60)]) (by decide)
  go_wp2_with fail
  refine cM.mono ?_
  rintro e w4 ⟨rfl, hb4'⟩
  have hb4 := hb3.trans (hb4'.mono hb3.size)
  have cE := error_any 4 4 w4 (hgl.below hb4)
  clear hb4' cM
  go_wp2_with fail
  refine cE.mono ?_
  rintro e w5 ⟨rfl, hb5'⟩
  have hb5 := hb4.trans (hb5'.mono hb4.size)
  go_wp2
  go_ret
  exact ⟨rfl, hb5⟩
set_option maxHeartbeats 16000000 in
set_option maxRecDepth 4000 in
theorem binoSorts_D (p p' : Option Addr) (n cap n' cap' : Nat) (xs ys : Array (Int × Int)) (w : World) (_hn : n ≤ 60) (_hn' : n' ≤ 60) (HN : Hid (xs.size = n)) (HN' : Hid (ys.size = n')) (HS : Hid (Sl w (.slice p n cap) xs)) (HS' : Hid (Sl w (.slice p' n' cap') ys)) (HW : Hid (wrong xs = 0)) (HW' : Hid (wrong ys = 0)) (_hgl : Glob w) (h60 : n + n' ≤ 60) :
    Calls Tryd.prog 6 #[.slice p n cap, .slice p' n' cap'] w fun e w' => e = .returned (.bool true) ∧ Below w.heap.size w w' := by
  have c0 := binoFact_any w
  go_enter Tryd.func6, Tryd.ntmps6
  go_wp2_with fail
  refine c0.mono ?_
  rintro e w1 ⟨rfl, hb1⟩
  clear c0
  go_wp2_with fail
  refine (planted_good _ xs w1 (HS.out.below hb1) HW.out).mono ?_
  rintro e w2 ⟨q1, l1, c1, g1, rfl, hs1, hg1, hb2'⟩
  rw [HN.out] at hg1
  have hb2 := hb1.trans (hb2'.mono hb1.size)
  have HS1 : Hid (HpAt w2 (.slice q1 l1 c1) (zH g1)) := hs1
  have HG1 : Hid (Plants xs n g1) := hg1
  clear hb2' hb1 hs1 hg1
  go_wp2_with fail
  refine (planted_good _ ys w2 (HS'.out.below hb2) HW'.out).mono ?_
  rintro e w3 ⟨q2, l2, c2, g2, rfl, hs2, hg2, hb3'⟩
  rw [HN'.out] at hg2
  have hb3 := hb2.trans (hb3'.mono hb2.size)
  have HA3 : Hid (HpAt w3 (.slice q1 l1 c1) (zH g1)) := HS1.out.below hb3'
  have HB3 : Hid (HpAt w3 (.slice q2 l2 c2) (zH g2)) := hs2
  have HG2 : Hid (Plants ys n' g2) := hg2
  clear hb3' hb2 hs2 hg2 HS1
  have cM := dMeld_good _ _ g1 g2 w3 HA3.out HB3.out HG1.out.ok HG2.out.ok (by rw [HG1.out.size, HG2.out.size]; exact h60)
  have hmm := HG1.out.ok.meld HG2.out.ok (by rw [HG1.out.size, HG2.out.size]; exact h60)
  have HOK : Hid (OkH (meldH g1 g2)) := hmm.1
  have HZ : Hid ((itemsH (meldH g1 g2)).length = n + n') := by show _ = _; rw [hmm.2.length_eq, List.length_append, HG1.out.size, HG2.out.size]
  have HP : Hid ((itemsH (meldH g1 g2)).Perm (xs.toList ++ ys.toList)) := hmm.2.trans (List.Perm.append (HG1.out.items HN.out) (HG2.out.items HN'.out))
  clear hmm
  go_wp2_with fail
  refine cM.mono ?_
  rintro e w4 ⟨v4, rfl, ho4, hb4'⟩
  have hb4 := hb3.trans (hb4'.mono hb3.size)
  generalize meldH g1 g2 = M at HOK HZ HP ho4
  have HM0 : Hid (HpAt w4 v4 (zH M)) := ho4.heap
  obtain ⟨pm, cm, hv4⟩ := HM0.out.form
  rw [zH_len] at hv4
  subst hv4
  obtain ⟨NM, hNM⟩ : ∃ NM, M.length = NM := ⟨_, rfl⟩
  have HM : Hid (HpAt w4 (.slice pm NM cm) (zH M)) := by show HpAt _ _ _; rw [← hNM]; exact HM0.out
  have HNM : Hid (M.length = NM) := hNM
  have hNM60 : NM ≤ 60 := by rw [← hNM]; exact HOK.out.len_le
  rw [hNM]
  clear ho4 hb4' cM HA3 HB3 HG1 HG2 HM0 hNM
  obtain ⟨BB, hBB⟩ : ∃ BB, xs.toList ++ ys.toList = BB := ⟨_, rfl⟩
  have cB := (both_any p p' cap cap' n n' xs ys w4 (HS.out.below hb4) (HS'.out.below hb4) (by rw [HN.out, HN'.out]; omega))
  have HWB : Hid (wrong BB.toArray = 0) := by show _ = _; rw [← hBB]; exact wrong_bothB HW.out HW'.out (by rw [HN.out, HN'.out]; exact h60)
  rw [hBB] at cB
  have HPB : Hid ((itemsH M).Perm BB) := by show List.Perm _ _; rw [← hBB]; exact HP.out
  obtain ⟨N, hN⟩ : ∃ N, n + n' = N := ⟨_, rfl⟩
  have HBN : Hid (BB.length = N) := by show _ = _; rw [← hBB, ← hN]; simp [HN.out, HN'.out]
  rw [hN] at HZ h60
  clear HP hBB hN
  go_wp2_with fail
  refine cB.mono ?_
  rintro e w5 ⟨u5, rfl, ho5, hb5'⟩
  have hb5 := hb4.trans (hb5'.mono hb4.size)
  have HM5 : Hid (HpAt w5 (.slice pm NM cm) (zH M)) := HM.out.below hb5'
  have cS := sort_good u5 BB.toArray w5 ho5.sl HWB.out
  rw [List.size_toArray, HBN.out] at cS
  clear cB ho5 hb5' HM hb4
  go_wp2_with fail
  refine cS.mono ?_
  rintro e wl ⟨gs, zs, rfl, hrs, hso, hbl'⟩
  have hbl := hb5.trans (hbl'.mono hb5.size)
  have HMl : Hid (HpAt wl (.slice pm NM cm) (zH M)) := HM5.out.below hbl'
  have HRS : Hid (RdAt wl gs 0 zs) := hrs
  have HSO : Hid (Sorts BB.toArray zs) := hso
  clear cS hrs hso hbl' HM5 hb5
  go_wp2
  go_loopg [10, 14] N (fun gg vm vo wr => ∃ (k j lm cm co : Nat) (pm po : Option Addr), vm = .slice pm lm cm ∧ vo = .slice po j co ∧ j + k = N ∧ k ≤ gg ∧ ∃ (os : List (Int × Int)) (t : List TrL), Hid (os.length = j) ∧ Hid ((itemsH t).length = k) ∧ Hid (t.length = lm) ∧ Hid (OwnI wr wl.heap.size (.slice po j co) os) ∧ Hid (HpAt wr (.slice pm lm cm) (zH t)) ∧ Hid (PopsB BB os t) ∧ Hid (Below wl.heap.size wl wr))
  case atStart => exact ⟨N, 0, NM, cm, 0, pm, none, rfl, rfl, by omega, Nat.le_refl _, [], M, rfl, HZ, HNM, OwnI.nil _ _, HMl, PopsB.start HPB.out HOK.out, Below.refl _ _⟩
  case round =>
    obtain ⟨k, j, lm, cm, co, pm, po, rfl, rfl, hjk, hkg, os, t, HJ, HK, HLM, HO, HD, HPP, HB⟩ := hrel
    by_cases hlt : j < N
    · have hlz : (j : Int) < (N : Int) := by omega
      have htn : t ≠ [] := fun e => by have := HK.out; rw [e] at this; simp [itemsH] at this; omega
      obtain ⟨⟨x0, x1⟩, hRO, hRP, hRL, c⟩ := dPop_ok _ t wr HD.out HPP.out.ok htn
      have HP2 : Hid (PopsB BB (os ++ [(x0, x1)]) (popH t)) := HPP.out.pop hRO hRP hRL
      obtain ⟨m, rfl⟩ : ∃ m, k = m + 1 := ⟨k - 1, by omega⟩
      have HTZ : Hid ((itemsH (popH t)).length = m) := by show _ = _; have := hRP.length_eq; rw [List.length_cons, HK.out] at this; omega
      have hol : os.length ≤ 60 := by rw [HJ.out]; omega
      clear htn hRO hRP hRL
      go_wp2_with fail
      refine c.mono ?_
      rintro e w3 ⟨v3, rfl, ho3, hb3'⟩
      have hb3 := HB.out.trans (hb3'.mono HB.out.size)
      obtain ⟨p3, c3, hv3⟩ := ho3.heap.form
      obtain ⟨l3, hl3⟩ : ∃ l3, (zH (popH t)).length = l3 := ⟨_, rfl⟩
      rw [hl3] at hv3
      subst hv3
      have HL3 : Hid ((popH t).length = l3) := by show _ = _; rw [← zH_len]; exact hl3
      have HO3 : Hid (OwnI w3 wl.heap.size (.slice po j co) os) := HO.out.below hb3'
      have HE3 : Hid (NewH wr.heap.size w3 (.slice p3 l3 c3) (popH t)) := ho3
      have HLT : Hid (∀ q, (Value.slice po j co).ownBlock = some q → q < wr.heap.size) := fun q e => (World.ownsRow.lt HO.out q e).2
      have hB3 : wl.heap.size ≤ w3.heap.size := hb3.size
      clear c ho3 hb3' HO HD hl3
      go_wp2_with (first | (at_builtin; refine wpList_append_item rfl (.tmp 69) (.tmp 71) rfl wl.heap.size (.slice po j co) os (x0, x1) ⟨w3.heap.size + 1, 0, none⟩ 1 rfl ((HO3.out.alloc _).alloc _) rfl (by simp) (by simp [Addr.add]) (by omega) (by simp; omega) ?_; intro v' wa hA' hgA hkA))
      have hal : Below w3.heap.size w3 ((w3.alloc (.cells #[.int .i64 x0, .int .i64 x1] 24)).alloc (.cells #[.int .i64 x0, .int .i64 x1] 24)) := ((Below.refl _ _).alloc (Nat.le_refl _) _).alloc (by simp) _
      have hbq : Below wl.heap.size wl ((w3.alloc (.cells #[.int .i64 x0, .int .i64 x1] 24)).alloc (.cells #[.int .i64 x0, .int .i64 x1] 24)) := hb3.trans (hal.mono hB3)
      have HBA : Hid (Below wl.heap.size wl wa) := hbq.trans (below_of_grown ((HO3.out.alloc _).alloc _) hgA (Nat.le_refl _) (by simp; omega))
      have HEA : Hid (HpAt wa (.slice p3 l3 c3) (zH (popH t))) := ((HE3.out.below hal).kept hgA HLT.out).heap
      have HOA : Hid (OwnI wa wl.heap.size v' (os ++ [(x0, x1)])) := hA'
      obtain ⟨po', co', hv', _⟩ := hA'.sl
      rw [List.size_toArray, List.length_append, HJ.out] at hv'
      have hv2 : v' = .slice po' (j + 1) co' := hv'
      clear hv' hkA hgA hA' hbq HE3 HLT HO3 hb3 hal
      subst hv2
      go_roundg m
      case measure => omega
      case rel => exact ⟨m, j + 1, l3, c3, co', p3, po', rfl, rfl, by omega, Nat.le_refl _, os ++ [(x0, x1)], _, (show _ = _ by rw [List.length_append, HJ.out]; rfl), HTZ, HL3, HOA, HEA, HP2, HBA⟩
    · have hlz : ¬ (j : Int) < (N : Int) := by omega
      obtain rfl : k = 0 := by omega
      obtain rfl : j = N := by omega
      have HT0 : Hid (t = []) := by
        show t = []
        have h1 := HPP.out.ok.isH.len_le
        rw [HK.out] at h1
        exact List.eq_nil_of_length_eq_zero (by omega)
      obtain rfl : lm = 0 := by have := HLM.out; rw [HT0.out] at this; exact this.symm
      have HPE : Hid (os.Perm BB) := by show List.Perm _ _; have := HPP.out.perm; rw [HT0.out] at this; simpa [itemsH] using this
      have hzsz : zs.size = j := by rw [HSO.out.size, List.size_toArray]; exact HBN.out
      have hosz : os.toArray.size = j := by simpa using HJ.out
      have hrs := HRS.out.below HB.out HRS.out.1
      have hss : Sl wr (.slice (some ⟨gs, 0, none⟩) j j) zs := by have := Sl.of_rd (cap := j) hrs (by omega); rw [hzsz] at this; exact this
      have ck := keys_same (.slice po j co) (.slice (some ⟨gs, 0, none⟩) j j) os.toArray zs wr HO.out.sl hss (by rw [hosz, hzsz]) (by omega) (keys_poppedB (by simpa using HPE.out) HPP.out.srt HSO.out)
      have cb := fun q => bag_any (.slice po j co) (.slice (some ⟨gs, 0, none⟩) j j) os.toArray zs (wr.drewN q) (OwnI.sl (HO.out.drewN q)) (hss.below (below_drewN (Below.refl _ _) q)) (by rw [hosz]; omega)
      rw [bagB_intro (by rw [hosz, hzsz]) (fun z => by have h1 := HPE.out.count_eq z; have h2 := HSO.out.st.perm.count_eq z; simp at h1 h2 ⊢; omega)] at cb
      clear hss hrs
      go_wp2_with fail
      refine ck.mono ?_
      rintro e w5 ⟨rfl, q, rfl⟩
      go_wp2_with fail
      refine (cb q).mono ?_
      rintro e w6 ⟨rfl, q6, hw6⟩
      have hb6 : Below wl.heap.size wl w6 := by rw [hw6]; exact below_drewN (below_drewN HB.out q) q6
      clear hw6
      go_wp2
      go_ret
      exact ⟨rfl, hbl.trans (hb6.mono hbl.size)⟩

theorem binoSorts_any (v v' : Value) (xs ys : Array (Int × Int)) (w : World) (h : Sl w v xs) (h' : Sl w v' ys) (hbig : xs.size ≤ 9223372036854775807) (hbig' : ys.size ≤ 9223372036854775807) (hgl : Glob w) :
    Calls Tryd.prog 6 #[v, v'] w fun e w' => e = .returned (.bool true) ∧ Below w.heap.size w w' := by
  obtain ⟨p, cap, rfl, hcap, hp⟩ := id h
  obtain ⟨p', cap', rfl, hcap', hp'⟩ := id h'
  by_cases h0 : wrong xs = 0
  · by_cases h0' : wrong ys = 0
    · by_cases h60 : 60 < xs.size + ys.size
      · exact binoSorts_C p p' _ cap _ cap' xs ys w (wrong_le h0) (wrong_le h0') rfl rfl h h' h0 h0' hgl h60
      · exact binoSorts_D p p' _ cap _ cap' xs ys w (wrong_le h0) (wrong_le h0') rfl rfl h h' h0 h0' hgl (by omega)
    · exact binoSorts_B p p' _ cap _ cap' w (fun w1 hb => (planted_good _ xs w1 (h.below hb) h0).mono fun e w' ⟨a, m, b, _, c, _, _, d⟩ => ⟨a, m, b, c, d⟩) (fun w1 hb => (planted_bad _ ys w1 (h'.below hb) hbig' h0').mono fun e w' ⟨a, b, c, d, e⟩ => ⟨a, b, c, d, e⟩)
  · refine binoSorts_A p p' _ cap _ cap' w (fun w1 hb => (planted_bad _ xs w1 (h.below hb) hbig h0).mono fun e w' ⟨a, b, c, d, e⟩ => ⟨a, b, c, d, e⟩) (fun w1 hb => ?_)
    by_cases h0' : wrong ys = 0
    · exact (planted_good _ ys w1 (h'.below hb) h0').mono fun e w' ⟨a, m, b, _, c, _, _, d⟩ => ⟨a, m, b, true, c, d⟩
    · exact (planted_bad _ ys w1 (h'.below hb) hbig' h0').mono fun e w' ⟨a, b, c, d, e⟩ => ⟨a, b, c, false, d, e⟩
#print axioms binoSorts_any
end Go.Proofs.YtmkjalpgeljnkaaDoor
