/-
  The document's SoftMany, walked.
-/
import Derived.Test.YtdpfijhkbhmkgaaDoorRefS1
import Derived.Test.YtdpfijhkbhmkgaaDoorSoW
namespace Go.Proofs.YtdpfijhkbhmkgaaDoor
open Go.RowKit Go.Sort Go.Proofs Go.Lib

theorem manyA_take {A : List SC} {i : Nat} {c : SC} (e : A[i]? = some c) : manyA (A.take (i + 1)) = manyA (A.take i) + c.items.length := by
  obtain ⟨hi, rfl⟩ := List.getElem?_eq_some_iff.1 e
  unfold manyA
  rw [List.take_succ_eq_append_getElem hi, List.map_append, List.sum_append_nat]
  simp [SC.many]
theorem wrongA_take {A : List SC} {i : Nat} {c : SC} (e : A[i]? = some c) : wrongA (A.take (i + 1)) = wrongA (A.take i) + wrK c.key c.items := by
  obtain ⟨hi, rfl⟩ := List.getElem?_eq_some_iff.1 e
  unfold wrongA
  rw [List.take_succ_eq_append_getElem hi, List.map_append, List.sum_append_nat]
  simp [SC.wrong, wrK]
theorem sum_take_le (l : List Nat) (i : Nat) : (l.take i).sum ≤ l.sum := by
  conv => rhs; rw [← List.take_append_drop i l]
  rw [List.sum_append_nat]; omega
theorem manyA_le (A : List SC) (i : Nat) : manyA (A.take i) ≤ manyA A := by unfold manyA; rw [List.map_take]; exact sum_take_le _ _
theorem wrongA_many (A : List SC) : wrongA A ≤ manyA A := by
  unfold wrongA manyA
  induction A with
  | nil => exact Nat.le_refl _
  | cons c A ih => simp only [List.map_cons, List.sum_cons]; have := wrK_le c.key c.items; unfold SC.wrong SC.many; unfold wrK at this; unfold SC.wrong SC.many at ih; omega
theorem manyA_nil (Q : List (SC × SlW)) : manyA ((plainQ Q).take 0) = 0 ∧ wrongA ((plainQ Q).take 0) = 0 := ⟨rfl, rfl⟩
set_option maxHeartbeats 8000000 in
set_option maxRecDepth 4000 in
theorem softMany_any {w : World} {base N cap : Nat} {p : Option Addr} {F : Nat → Prop} {Q : List (SC × SlW)} {rk n : Int} {tp : Option Addr} {tl tc : Nat} (hC : CellsAt EC w base (.slice p N cap) F Q) (hlen : Q.length = N) (hN : N ≤ 1000) (hm : manyA (plainQ Q) ≤ 1000) :
    Calls Tryd.prog 15 #[.agg #[.int .i64 rk, .int .i64 n, .slice p N cap, .slice tp tl tc]] w fun e w' => e = .returned (.tuple #[.int .i64 (manyA (plainQ Q) : Nat), .int .i64 (wrongA (plainQ Q) : Nat)]) ∧ Below w.heap.size w w' := by
  have HCELL : Hid (∀ i, i < N → ∃ (g : Nat) (c : SC) (q : Option Addr) (sl sc : Nat), p = some ⟨g, 0, none⟩ ∧ g < w.heap.size ∧ (plainQ Q)[i]? = some c ∧ sl = c.items.length ∧ (∀ w1, Below w.heap.size w w1 → w1.cell? ⟨g, i * 6, none⟩ = some (.int .i64 c.key) ∧ w1.cell? ⟨g, i * 6 + 5, none⟩ = some (.slice q sl sc)) ∧
      ∀ j, j < sl → ∃ blk off x0 x1, q = some ⟨blk, off, none⟩ ∧ c.items[j]? = some (x0, x1) ∧ ∀ w1, Below w.heap.size w w1 → w1.cell? ⟨blk, off + j * 2, none⟩ = some (.int .i64 x0) ∧ w1.cell? ⟨blk, off + j * 2 + 1, none⟩ = some (.int .i64 x1)) := by
    intro i hi
    obtain ⟨⟨c, q, sl, sc⟩, hq⟩ : ∃ x, Q[i]? = some x := ⟨_, List.getElem?_eq_getElem (by rw [hlen]; exact hi)⟩
    obtain ⟨g, cap', e, _⟩ := OwnE.some hC.own hlen (by omega)
    simp only [Value.slice.injEq] at e
    obtain ⟨rfl, _, _⟩ := e
    have hg := hC.lt
    obtain ⟨c0, _, _, _, _, c5⟩ := hC.words hq
    have hits := hC.its hq
    have hsl : sl = c.items.length := hits.1
    refine ⟨g, c, q, sl, sc, rfl, hg, by unfold plainQ; rw [List.getElem?_map, hq]; rfl, hsl, fun w1 hb => ⟨(hb.cell (p := ⟨g, i * 6, none⟩) hg).trans c0, (hb.cell (p := ⟨g, i * 6 + 5, none⟩) hg).trans c5⟩, fun j hj => ?_⟩
    have hs := hits.sl
    obtain ⟨_, _, h0 | ⟨blk, off, e, hn, hr⟩⟩ := hits
    · rw [h0] at hsl; simp at hsl; omega
    · have hr2 := hr.2 j (by simp; omega)
      have hjl : j < c.items.length := by omega
      refine ⟨blk, off, c.items[j].1, c.items[j].2, e, by rw [List.getElem?_eq_getElem hjl], fun w1 hb => ⟨(hb.cell (p := ⟨blk, off + j * 2, none⟩) hr.1).trans ?_, (hb.cell (p := ⟨blk, off + j * 2 + 1, none⟩) hr.1).trans ?_⟩⟩
      · rw [hr2.1, getElem!_pos _ j (by simpa using hjl)]; simp
      · rw [hr2.2, getElem!_pos _ j (by simpa using hjl)]; simp
  obtain ⟨A, hA⟩ : ∃ A, plainQ Q = A := ⟨_, rfl⟩
  have hAl : A.length = N := by rw [← hA, plainQ_length]; exact hlen
  rw [hA] at HCELL hm ⊢
  have HAL := hid hAl
  have HM := hid hm
  clear hC hlen hA hm hAl
  have hal := heap_alloc_new w (.cells #[.int .i64 rk, .int .i64 n, .slice p N cap, .slice tp tl tc] 40)
  have hba : Below w.heap.size w (w.alloc (.cells #[.int .i64 rk, .int .i64 n, .slice p N cap, .slice tp tl tc] 40)) := (Below.refl _ w).alloc (Nat.le_refl _) _
  have b2 : (w.alloc (.cells #[.int .i64 rk, .int .i64 n, .slice p N cap, .slice tp tl tc] 40)).cell? ⟨w.heap.size, 2, none⟩ = some (.slice p N cap) := by simp only [World.cell?]; rw [hal]; rfl
  have HBA := hid hba
  obtain ⟨M, hM⟩ : ∃ M, w.heap.size = M := ⟨_, rfl⟩
  clear hal hba
  go_enter Tryd.func15, Tryd.ntmps15
  go_wp2_with fail
  obtain ⟨W0, hW0⟩ : ∃ W0, w.alloc (.cells #[.int .i64 rk, .int .i64 n, .slice p N cap, .slice tp tl tc] 40) = W0 := ⟨_, rfl⟩
  rw [hW0] at b2 HBA ⊢
  rw [hM] at b2
  clear hW0
  go_loopg [4, 5, 6] N (fun gg v4 v5 v6 wr => ∃ i q : Nat, v4 = .int .i64 (manyA (A.take i) : Nat) ∧ v5 = .int .i64 (wrongA (A.take i) : Nat) ∧ v6 = .int .i64 i ∧ i ≤ N ∧ N - i ≤ gg ∧ wr = W0.drewN q)
  case atStart => exact ⟨0, 0, rfl, rfl, rfl, Nat.zero_le _, by omega, rfl⟩
  case round =>
    obtain ⟨i, q, rfl, rfl, rfl, hi, hgg, rfl⟩ := hrel
    have hm1 : manyA (A.take i) ≤ 1000 := Nat.le_trans (manyA_le A i) HM.out
    have hw1 : wrongA (A.take i) ≤ 1000 := Nat.le_trans (wrongA_many _) hm1
    rcases Nat.lt_or_ge i N with hlt | hge
    · have hz : (i : Int) < (N : Int) := by omega
      obtain ⟨g, c, qq, sl, sc, rfl, hg, hAi, hsl, hcw, hit⟩ := HCELL.out i hlt
      obtain ⟨c0, c5⟩ := hcw W0 HBA.out
      have hs1 : manyA (A.take (i + 1)) ≤ 1000 := Nat.le_trans (manyA_le A _) HM.out
      rw [manyA_take hAi] at hs1
      have HMS := hid (manyA_take hAi)
      have HWS := hid (wrongA_take hAi)
      have HIT := hid hit
      have HSL := hid hsl
      obtain ⟨ma, hma⟩ : ∃ ma, manyA (A.take i) = ma := ⟨_, rfl⟩
      obtain ⟨wr0, hwr⟩ : ∃ wr0, wrongA (A.take i) = wr0 := ⟨_, rfl⟩
      rw [hma] at hm1 hs1 HMS ⊢
      rw [hwr] at hw1 HWS ⊢
      rw [← hsl] at hs1
      clear hAi hcw hit hsl hma hwr
      go_wp2_with fail
      go_loopg [4, 5, 7] sl (fun gg v4 v5 v7 wr => ∃ j q2 : Nat, v4 = .int .i64 ((ma + j : Nat) : Int) ∧ v5 = .int .i64 ((wr0 + wrK c.key (c.items.take j) : Nat) : Int) ∧ v7 = .int .i64 j ∧ j ≤ sl ∧ sl - j ≤ gg ∧ wr = W0.drewN q2)
      case atStart => exact ⟨0, q, rfl, rfl, rfl, Nat.zero_le _, by omega, rfl⟩
      case round =>
        obtain ⟨j, q2, rfl, rfl, rfl, hj, hgg2, rfl⟩ := hrel
        have hK := wrK_take c.key c.items j
        rcases Nat.lt_or_ge j sl with hjt | hjt
        · have hjz : (j : Int) < (sl : Int) := by omega
          obtain ⟨blk, off, x0, x1, rfl, hx, hxc⟩ := HIT.out j hjt
          obtain ⟨d0, d1⟩ := hxc W0 HBA.out
          have HST := hid (wrK_step (k := c.key) hx)
          obtain ⟨Wk, hWk⟩ : ∃ Wk, wrK c.key (c.items.take j) = Wk := ⟨_, rfl⟩
          rw [hWk] at hK HST ⊢
          clear hx hxc hWk
          obtain ⟨ck, hck⟩ : ∃ ck, c.key = ck := ⟨_, rfl⟩
          rw [hck] at c0
          have HCK := hid hck
          clear hck
          by_cases hk : x0 = ck
          · have hkn : (x0 != ck) = false := by simp [hk]
            go_wp2_with fail
            go_quiet (fail)
            go_wp2
            go_roundg (sl - (j + 1))
            case measure => omega
            case rel => exact ⟨j + 1, _, by go_num, int_eqS (by rw [HST.out, HCK.out]; simp [hk]), by go_num, by omega, Nat.le_refl _, by first | rfl | rw [World.drewN_drewN]⟩
          · have hkn : (x0 != ck) = true := by simp [hk]
            go_wp2_with fail
            go_quiet (fail)
            go_wp2
            go_roundg (sl - (j + 1))
            case measure => omega
            case rel => exact ⟨j + 1, _, by go_num, int_eqS (by rw [HST.out, HCK.out]; simp [hk]; omega), by go_num, by omega, Nat.le_refl _, by first | rfl | rw [World.drewN_drewN]⟩
        · obtain rfl : j = sl := by omega
          have hjz : ¬ ((j : Int) < (j : Int)) := by omega
          have hfull : c.items.take j = c.items := List.take_of_length_le (by rw [← HSL.out]; exact Nat.le_refl _)
          rw [hfull]
          have HFF := hid hfull
          clear hfull
          go_wp2
          go_roundg (N - (i + 1))
          case measure => omega
          case rel => exact ⟨i + 1, q2, int_eqS (by rw [HMS.out, ← HSL.out]; omega), int_eqS (by rw [HWS.out]; omega), by go_num, by omega, Nat.le_refl _, rfl⟩
    · obtain rfl : i = N := by omega
      have hz : ¬ ((i : Int) < (i : Int)) := by omega
      rw [List.take_of_length_le (by rw [HAL.out]; exact Nat.le_refl _)]
      go_wp2
      go_ret2
      exact ⟨rfl, by rw [← hM]; exact below_drewN' HBA.out q⟩
#print axioms softMany_any
end Go.Proofs.YtdpfijhkbhmkgaaDoor
