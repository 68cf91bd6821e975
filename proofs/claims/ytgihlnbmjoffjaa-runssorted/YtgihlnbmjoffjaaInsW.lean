/-
  slices.insertionSortCmpFunc at items.
-/
import Derived.Test.YtgihlnbmjoffjaaEnc
import Derived.Test.YtgihlnbmjoffjaaByKey
namespace Go.Proofs.Ytgihlnbmjoffjaa
open Go.RowKit Go.Sort Go.Proofs

set_option maxHeartbeats 4000000 in
set_option maxRecDepth 100000 in
theorem insertion_any (w0 : World) (blk off cap N a b : Nat) (d : Array (Int × Int)) (W : World)
    (h : At w0 blk off N d W) (hab : a ≤ b) (hb : b ≤ N) (hsz : N < 4611686018427387904) :
    Calls Try.prog 45 #[.slice (some ⟨blk, off, none⟩) N cap, .int .i64 a, .int .i64 b, .func (.func 17) #[] #[]] W fun e w' =>
      e = .returned (.tuple #[]) ∧ ∃ d', Mgd a b d d' ∧ Srt a b d' ∧ At w0 blk off N d' w' := by
  have mixed : Try.prog.follows .mixedOrders = true := by kernel_rfl
  go_enter Try.func45, Try.ntmps45
  go_wp2
  go_loopg [8] (b - a) (fun g1 vi wr => ∃ (i : Nat) (dk : Array (Int × Int)), vi = .int .i64 i ∧ a < i ∧ i ≤ b + 1 ∧ b + 1 - i ≤ g1 + 1 ∧ At w0 blk off N dk wr ∧ Hid (insOuter ltK a b i dk = insOuter ltK a b (a + 1) d))
  case atStart => exact ⟨a + 1, d, by go_num, by omega, by omega, by omega, h, rfl⟩
  case round =>
    obtain ⟨i, dk, rfl, hai, hib, hg1, HS, HO⟩ := hrel
    by_cases hlt : i < b
    · have hltz : (i : Int) < (b : Int) := by omega
      go_wp2
      go_loopg [9] i (fun g2 vj wr2 => ∃ (j : Nat) (dj : Array (Int × Int)), vj = .int .i64 j ∧ a ≤ j ∧ j ≤ i ∧ j ≤ g2 ∧ At w0 blk off N dj wr2 ∧ Hid (insInner ltK a j dj = insInner ltK a i dk))
      case atStart => exact ⟨i, dk, rfl, by omega, Nat.le_refl _, Nat.le_refl _, HS, rfl⟩
      case round =>
        obtain ⟨j, dj, rfl, haj, hji, hg2, HJ, HI⟩ := hrel
        have out : (j ≤ a ∨ ltK dj[j]! dj[j - 1]! = false) → Hid (insOuter ltK a b (i + 1) dj = insOuter ltK a b (a + 1) d) := fun hs => by
          show _ = _
          rw [← HO.out, insOuter_go _ _ _ _ _ hlt, ← HI.out, insInner_stop _ _ _ _ hs]
        have OUT : Aside _ := out
        clear out
        by_cases hja : a < j
        · obtain ⟨jp, rfl⟩ : ∃ jp, j = jp + 1 := ⟨j - 1, by omega⟩
          have hjaz : (a : Int) < (jp : Int) + 1 := by omega
          obtain ⟨x, hx⟩ : ∃ x, dj[jp + 1]! = x := ⟨_, rfl⟩
          obtain ⟨y, hy⟩ : ∃ x, dj[jp]! = x := ⟨_, rfl⟩
          have hwp : IntKind.i64.wrap (jp : Int) = (jp : Int) := by rw [IntKind.wrap_i64]; omega
          have jz : (jp : Int) + 1 < (N : Int) := by omega
          have jz1 : (jp : Int) < (N : Int) := by omega
          have p0 : (0 : Int) ≤ (jp : Int) + 1 := by omega
          have e0 : ((jp : Int) + 1).toNat = jp + 1 := by omega
          have cx0 := HJ.cellG (i := jp + 1) (by omega) hx
          have cx1 := HJ.cellG1 (i := jp + 1) (by omega) hx
          have cy0 := HJ.cellG (i := jp) (by omega) hy
          have cy1 := HJ.cellG1 (i := jp) (by omega) hy
          have HX : Hid _ := hx
          have HY : Hid _ := hy
          clear hx hy
          have hcg := fun n os => byKey_any x y (grow (wr.drewN n) os)
          have hcn := cmpI_neg x.1 y.1
          generalize cmpI x.1 y.1 = r at hcg hcn
          have HCN : Hid _ := hcn
          have HCG : Aside _ := hcg
          clear hcn hcg
          by_cases hr : r < 0
          · go_wp2_with fail
            go_quiet_grown (first | (go_at_call 17; refine Calls.grown_of (HCG.out _ _)))
            have HJ2 := HJ.grown nq osq
            clear cx0 cx1 cy0 cy1 HCG
            generalize grow (wr.drewN nq) osq = wq2 at HJ2 ⊢
            obtain ⟨cx0, cx1, fx0, fx1⟩ := HJ2.drew.cell (i := jp + 1) (by omega)
            obtain ⟨cy0, cy1, fy0, fy1⟩ := HJ2.drew.cell (i := jp) (by omega)
            rw [HX.out] at cx0 cx1
            rw [HY.out] at cy0 cy1
            simp at cx0 cx1 cy0 cy1 fx0 fx1 fy0 fy1
            go_wp2_with fail
            go_region
            go_wp2
            go_roundg jp
            case measure => omega
            case rel =>
              refine ⟨jp, _, by go_num, by omega, by omega, Nat.le_refl _, HJ2.swap (by omega) (by omega) HX.out HY.out, (show Hid _ from ?_)⟩
              show _ = _
              have := insInner_go ltK a (jp + 1) dj hja (by simp only [Nat.add_sub_cancel]; rw [HX.out, HY.out]; exact decide_eq_true (HCN.out.1 hr))
              simp only [Nat.add_sub_cancel] at this
              rw [← HI.out, this]
          · go_wp2_with fail
            go_quiet_grown (first | (go_at_call 17; refine Calls.grown_of (HCG.out _ _)))
            go_wp2
            go_roundg (b - (i + 1))
            case measure => omega
            case rel => exact ⟨i + 1, dj, by go_num, by omega, by omega, by omega, HJ.grown _ _, OUT.out (Or.inr (by simp only [Nat.add_sub_cancel]; rw [HX.out, HY.out]; exact decide_eq_false (mt HCN.out.2 (by omega))))⟩
        · have hjaz : decide ((j : Int) > (a : Int)) = false := decide_eq_false (by omega)
          have hjaz' : ¬ (a : Int) < (j : Int) := by omega
          go_wp2_with fail
          go_region
          all_goals go_wp2
          go_roundg (b - (i + 1))
          case measure => omega
          case rel => exact ⟨i + 1, dj, by go_num, by omega, by omega, by omega, HJ.drew, OUT.out (Or.inl (by omega))⟩
    · have hltz : ¬ (i : Int) < (b : Int) := by omega
      go_wp2
      go_end0
      have e : dk = insertionSort ltK d a b := by unfold Sort.insertionSort; rw [← HO.out, insOuter_stop _ _ _ _ _ hlt]
      have g := insertion_good d a b hab (by rw [h.size]; exact hb)
      rw [← e] at g
      exact ⟨rfl, dk, g.1, g.2, HS⟩
#print axioms insertion_any
end Go.Proofs.Ytgihlnbmjoffjaa
