/-
  slices.SortStableFunc at up to 60 items, by their keys: sorted, and what has one key stays in its order.
-/
import Derived.Test.YtgihlnbmjoffjaaSymG
import Derived.Test.YtgihlnbmjoffjaaInsW
namespace Go.Proofs.Ytgihlnbmjoffjaa
open Go.RowKit Go.Sort Go.Proofs

/-- Sorted block by block. -/
def Blk (c a b : Nat) (d : Array (Int × Int)) : Prop := ∀ i j, a ≤ i → i ≤ j → j < b → i / c = j / c → d[i]!.1 ≤ d[j]!.1
theorem Blk.kept {c a b x y : Nat} {d d' : Array (Int × Int)} (h : Blk c a b d) (m : Mgd x y d d') (hxy : b ≤ x ∨ y ≤ a) : Blk c a b d' := fun i j h1 h2 h3 h4 => by
  rw [m.out i (by omega), m.out j (by omega)]; exact h i j h1 h2 h3 h4

theorem blk20_step {a b k : Nat} {d d' : Array (Int × Int)} (ha : a = 20 * k) (hb : b = a + 20) (h : Blk 20 0 a d) (m : Mgd a b d d') (s : Srt a b d') : Blk 20 0 b d' := fun i j h1 h2 h3 h4 => by
  by_cases c : j < a
  · exact h.kept m (Or.inl (Nat.le_refl _)) i j h1 h2 c h4
  · exact s i j (by omega) h2 (by omega)
theorem blk20_end {a k n : Nat} {d d' : Array (Int × Int)} (ha : a = 20 * k) (h : Blk 20 0 a d) (m : Mgd a n d d') (s : Srt a n d') : Blk 20 0 n d' := fun i j h1 h2 h3 h4 => by
  by_cases c : j < a
  · exact h.kept m (Or.inl (Nat.le_refl _)) i j h1 h2 c h4
  · exact s i j (by omega) h2 (by omega)
theorem Blk.srt {c a b x y : Nat} {d : Array (Int × Int)} (h : Blk c a b d) (ha : a ≤ x) (hb : y ≤ b) (hc : ∀ i j, x ≤ i → i ≤ j → j < y → i / c = j / c) : Srt x y d := fun i j h1 h2 h3 =>
  h i j (by omega) h2 (by omega) (hc i j h1 h2 h3)
/-- Blocks of 40 up to a, of 20 from there on; one merge more. -/
theorem blk40_step {a b k n : Nat} {d d' : Array (Int × Int)} (ha : a = 40 * k) (hb : b = a + 40) (h : Blk 40 0 a d) (g : Blk 20 a n d) (m : Mgd a b d d') (s : Srt a b d') : Blk 40 0 b d' ∧ Blk 20 b n d' := by
  refine ⟨fun i j h1 h2 h3 h4 => ?_, fun i j h1 h2 h3 h4 => ?_⟩
  · by_cases c : j < a
    · exact h.kept m (Or.inl (Nat.le_refl _)) i j h1 h2 c h4
    · exact s i j (by omega) h2 (by omega)
  · rw [m.out i (by omega), m.out j (by omega)]; exact g i j (by omega) h2 h3 h4
theorem blk40_end {a k n : Nat} {d d' : Array (Int × Int)} (ha : a = 40 * k) (h : Blk 40 0 a d) (m : Mgd a n d d') (s : Srt a n d') : Blk 40 0 n d' := fun i j h1 h2 h3 h4 => by
  by_cases c : j < a
  · exact h.kept m (Or.inl (Nat.le_refl _)) i j h1 h2 c h4
  · exact s i j (by omega) h2 (by omega)

set_option maxHeartbeats 8000000 in
set_option maxRecDepth 100000 in
theorem stable_any (w0 : World) (blk off cap N : Nat) (d : Array (Int × Int)) (W : World) (h : At w0 blk off N d W) (hN : N ≤ 60) :
    Calls Try.prog 34 #[.slice (some ⟨blk, off, none⟩) N cap, .int .i64 N, .func (.func 17) #[] #[]] W fun e w' =>
      e = .returned (.tuple #[]) ∧ ∃ d', Mgd 0 N d d' ∧ Srt 0 N d' ∧ At w0 blk off N d' w' := by
  go_enter Try.func34, Try.ntmps34
  go_wp2
  go_loopg [7, 8] 4 (fun g va vb wr => ∃ (a b k : Nat) (dk : Array (Int × Int)), va = .int .i64 a ∧ vb = .int .i64 b ∧ a ≤ N ∧ b ≤ a + 20 ∧ a + 20 ≤ b ∧ Hid (a = 20 * k) ∧ k + g = 4 ∧ At w0 blk off N dk wr ∧ Aside (Mgd 0 N d dk) ∧ Aside (Blk 20 0 a dk))
  case atStart => exact ⟨0, 20, 0, d, rfl, rfl, by omega, by omega, by omega, rfl, by omega, h, (show Aside _ from Mgd.refl _ _ _), (show Aside _ from fun i j h1 h2 h3 => by omega)⟩
  case round =>
    obtain ⟨a, b, k, dk, rfl, rfl, hk, hb1, hb2, HK, hg, HS, HM, HB⟩ := hrel
    by_cases hlt : b ≤ N
    · have hlz : (b : Int) ≤ (N : Int) := by omega
      go_wp2_with fail
      refine (insertion_any w0 blk off cap N a b dk _ HS (by omega) hlt (by omega)).mono ?_
      rintro e w1 ⟨rfl, d1, M1, S1, H1⟩
      have MM1 : Aside _ := M1
      have SS1 : Aside _ := S1
      clear M1 S1
      go_wp2
      go_roundg (4 - (k + 1))
      case measure => have := HK.out; omega
      case rel =>
        have hk2 := HK.out
        exact ⟨b, b + 20, k + 1, d1, rfl, by go_num, hlt, by omega, by omega, (show Hid _ from by show _ = _; omega), by omega, H1, (show Aside _ from HM.out.trans (MM1.out.mono (by omega) hlt)), (show Aside _ from blk20_step hk2 (by omega) HB.out MM1.out SS1.out)⟩
    · have hlz : ¬ (b : Int) ≤ (N : Int) := by omega
      go_wp2_with fail
      refine (insertion_any w0 blk off cap N a N dk _ HS hk (Nat.le_refl _) (by omega)).mono ?_
      rintro e w1 ⟨rfl, d1, M1, S1, H1⟩
      have HM1 : Aside (Mgd 0 N d d1) := HM.out.trans (M1.mono (by omega) (Nat.le_refl _))
      have HB1 : Aside (Blk 20 0 N d1) := blk20_end HK.out HB.out M1 S1
      clear M1 S1 HM HB HS HK
      go_wp2
      go_loopg [6] 3 (fun g vs wr2 => ∃ dk : Array (Int × Int), At w0 blk off N dk wr2 ∧ Aside (Mgd 0 N d dk) ∧
        ((g = 3 ∧ vs = .int .i64 20 ∧ Aside (Blk 20 0 N dk)) ∨ (g = 2 ∧ vs = .int .i64 40 ∧ Aside (Blk 40 0 N dk)) ∨ (g = 1 ∧ vs = .int .i64 80 ∧ Aside (Srt 0 N dk))))
      case atStart => exact ⟨d1, H1, HM1, Or.inl ⟨rfl, rfl, HB1⟩⟩
      case round =>
        clear HM1 HB1 H1
        obtain ⟨d2, H2, HM2, ⟨rfl, rfl, HB2⟩ | ⟨rfl, rfl, HB2⟩ | ⟨rfl, rfl, HB2⟩⟩ := hrel
        · by_cases hn : 20 < N
          · have hnz : (20 : Int) < (N : Int) := by omega
            go_wp2
            go_loopg [7, 8] 2 (fun g va vb wr3 => ∃ (a b k : Nat) (dk : Array (Int × Int)), va = .int .i64 a ∧ vb = .int .i64 b ∧ a ≤ N ∧ b ≤ a + 40 ∧ a + 40 ≤ b ∧ Hid (a = 40 * k) ∧ k + g = 2 ∧ At w0 blk off N dk wr3 ∧ Aside (Mgd 0 N d dk) ∧ Aside (Blk 40 0 a dk) ∧ Aside (Blk 20 a N dk))
            case atStart => exact ⟨0, 40, 0, d2, rfl, rfl, by omega, by omega, by omega, rfl, by omega, H2, HM2, (show Aside _ from fun i j h1 h2 h3 => by omega), HB2⟩
            case round =>
              clear H2 HM2 HB2
              obtain ⟨a2, b2, k2, d3, rfl, rfl, hk2, hc1, hc2, HK2, hg2, H3, HM3, HB3, HB4⟩ := hrel
              have s1 : a2 + 20 ≤ N → Srt a2 (a2 + 20) d3 := fun q => Blk.srt HB4.out (Nat.le_refl _) q (by have := HK2.out; intro i j; omega)
              have s2 : ∀ y, y ≤ b2 → y ≤ N → Srt (a2 + 20) y d3 := fun y q1 q2 => Blk.srt HB4.out (by omega) q2 (by have := HK2.out; intro i j; omega)
              have S1 : Aside _ := s1
              have S2 : Aside _ := s2
              clear s1 s2
              by_cases hlt2 : b2 ≤ N
              · have hlz2 : (b2 : Int) ≤ (N : Int) := by omega
                go_wp2_with fail
                rw [show (a2 : Int) + 20 = ((a2 + 20 : Nat) : Int) by omega]
                refine (symMerge_any w0 blk off cap N (by omega) 100 a2 (a2 + 20) b2 d3 (by omega) (by omega) (by omega) hlt2 (S1.out (by omega)) (S2.out b2 (Nat.le_refl _) hlt2) _ H3).mono ?_
                rintro e w2 ⟨rfl, d4, M4, S4, H4⟩
                have HM4 : Aside (Mgd 0 N d d4) := HM3.out.trans (M4.mono (by omega) hlt2)
                have hst := blk40_step HK2.out (by omega : b2 = a2 + 40) HB3.out HB4.out M4 S4
                have HB5 : Aside (Blk 40 0 b2 d4) := hst.1
                have HB6 : Aside (Blk 20 b2 N d4) := hst.2
                clear M4 S4 hst
                go_wp2
                go_roundg (2 - (k2 + 1))
                case measure => have := HK2.out; omega
                case rel =>
                  have hk3 := HK2.out
                  exact ⟨b2, b2 + 40, k2 + 1, d4, rfl, by go_num, hlt2, by omega, by omega, (show Hid _ from by show _ = _; omega), by omega, H4, HM4, HB5, HB6⟩
              · have hlz2 : ¬ (b2 : Int) ≤ (N : Int) := by omega
                by_cases hm : a2 + 20 < N
                · have hmz : (a2 : Int) + 20 < (N : Int) := by omega
                  go_wp2_with fail
                  rw [show (a2 : Int) + 20 = ((a2 + 20 : Nat) : Int) by omega]
                  refine (symMerge_any w0 blk off cap N (by omega) 100 a2 (a2 + 20) N d3 (by omega) (by omega) (by omega) (Nat.le_refl _) (S1.out (by omega)) (S2.out N (by omega) (Nat.le_refl _)) _ H3).mono ?_
                  rintro e w2 ⟨rfl, d4, M4, S4, H4⟩
                  have HM4 : Aside (Mgd 0 N d d4) := HM3.out.trans (M4.mono (by omega) (Nat.le_refl _))
                  have HB5 : Aside (Blk 40 0 N d4) := blk40_end HK2.out HB3.out M4 S4
                  clear M4 S4
                  go_wp2
                  go_roundg 2
                  case measure => omega
                  case rel => exact ⟨d4, H4, HM4, Or.inr (Or.inl ⟨rfl, rfl, HB5⟩)⟩
                · have hmz : ¬ (a2 : Int) + 20 < (N : Int) := by omega
                  have HB5 : Aside (Blk 40 0 N d3) := blk40_end HK2.out HB3.out (Mgd.refl _ _ _) (Blk.srt HB4.out (Nat.le_refl _) (Nat.le_refl _) (by have := HK2.out; intro i j; omega))
                  go_wp2
                  go_roundg 2
                  case measure => omega
                  case rel => exact ⟨d3, H3, HM3, Or.inr (Or.inl ⟨rfl, rfl, HB5⟩)⟩
          · have hnz : ¬ (20 : Int) < (N : Int) := by omega
            go_wp2
            go_end0
            exact ⟨rfl, d2, HM2.out, Blk.srt HB2.out (Nat.le_refl _) (Nat.le_refl _) (by intro i j; omega), H2⟩
        · by_cases hn : 40 < N
          · have hnz : (40 : Int) < (N : Int) := by omega
            have hnz2 : ¬ (80 : Int) ≤ (N : Int) := by omega
            go_wp2
            go_loopg [7, 8] 0 (fun g va vb wr3 => va = .int .i64 0 ∧ vb = .int .i64 80 ∧ At w0 blk off N d2 wr3)
            case atStart => exact ⟨rfl, rfl, H2⟩
            case round =>
              obtain ⟨rfl, rfl, H3⟩ := hrel
              go_wp2_with fail
              refine (symMerge_any w0 blk off cap N (by omega) 100 0 40 N d2 (by omega) (by omega) (by omega) (Nat.le_refl _) (Blk.srt HB2.out (by omega) (by omega) (by intro i j; omega)) (Blk.srt HB2.out (by omega) (by omega) (by intro i j; omega)) _ H3).mono ?_
              rintro e w2 ⟨rfl, d4, M4, S4, H4⟩
              have HM4 : Aside (Mgd 0 N d d4) := HM2.out.trans M4
              have HB5 : Aside (Srt 0 N d4) := S4
              clear M4 S4
              go_wp2
              go_roundg 1
              case measure => omega
              case rel => exact ⟨d4, H4, HM4, Or.inr (Or.inr ⟨rfl, rfl, HB5⟩)⟩
          · have hnz : ¬ (40 : Int) < (N : Int) := by omega
            go_wp2
            go_end0
            exact ⟨rfl, d2, HM2.out, Blk.srt HB2.out (Nat.le_refl _) (Nat.le_refl _) (by intro i j; omega), H2⟩
        · have hnz : ¬ (80 : Int) < (N : Int) := by omega
          go_wp2
          go_end0
          exact ⟨rfl, d2, HM2.out, HB2.out, H2⟩
#print axioms stable_any

theorem sortStable_any (w0 : World) (blk off cap N : Nat) (d : Array (Int × Int)) (W : World) (h : At w0 blk off N d W) (hN : N ≤ 60) :
    Calls Try.prog 16 #[.slice (some ⟨blk, off, none⟩) N cap, .func (.func 17) #[] #[]] W fun e w' =>
      e = .returned (.tuple #[]) ∧ ∃ d', Mgd 0 N d d' ∧ Srt 0 N d' ∧ At w0 blk off N d' w' := by
  go_enter Try.func16, Try.ntmps16
  go_wp2_with fail
  refine (stable_any w0 blk off cap N d _ h hN).mono ?_
  rintro e w1 ⟨rfl, d1, M1, S1, H1⟩
  go_wp2
  go_end0
  exact ⟨rfl, d1, M1, S1, H1⟩
end Go.Proofs.Ytgihlnbmjoffjaa
