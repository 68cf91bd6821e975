/-
  Queues of package heap at lists of numbers: Drain, whatever is done with what comes. (Written by wip/gen/hq.py.)
-/
import Derived.Test.YtlaeaeciomkababDoorHQV
import Derived.Test.YtlaeaeciomkababDoorRgF
import Derived.Shelf.RegionOpen
import Derived.OwnWalkIn
import Derived.TacticsInMore
namespace Go.Proofs.YtlaeaeciomkababDoor
open Go.RowKit Go.Sort Go.Proofs
attribute [local go_sem] Oper.semAt_some

theorem own_cellsV {w : World} {v : Value} {vs : List Sv} (h : OwnE EV w 0 v vs) : ∀ j ∈ v.ownBlock.toList, ∃ o, w.heap[j]? = some o ∧ o.isCells = true := by
  intro j hj
  obtain ⟨e1, h0 | ⟨g, cap, cur, rfl, q1, q2, q3⟩⟩ := h
  · rw [h0.1] at hj; simp [Value.ownBlock] at hj
  · simp [Value.ownBlock] at hj
    subst hj
    exact ⟨_, q2, rfl⟩
theorem qe_cellsV {T : TypeId} {w : World} {qb K : Nat} {vs : List Sv} {f : List Nat} (h : QE EV T w qb K vs f) : ∀ j ∈ f, ∃ o, w.heap[j]? = some o ∧ o.isCells = true := by
  obtain ⟨v, h1, h2, rfl⟩ := h
  intro j hj
  rcases List.mem_cons.1 hj with rfl | z
  · exact ⟨_, h1, rfl⟩
  · exact own_cellsV h2 j z
theorem others_belowV {w w' : World} (h : Below w.heap.size w w') : KeepsOthers w w' := ⟨h.size, fun k _ hk _ => (h.block k (Array.getElem?_eq_some_iff.1 hk).1).trans hk⟩
theorem others_chgV {w w' : World} {F : Nat → Prop} (h : Chg F w w') (hF : ∀ j, F j → ∃ o, w.heap[j]? = some o ∧ o.isCells = true) : KeepsOthers w w' :=
  ⟨h.size, fun k o hk ho => (h.block k (Array.getElem?_eq_some_iff.1 hk).1 fun q => by
    obtain ⟨o', e1, e2⟩ := hF k q
    rw [hk] at e1; cases e1
    rw [ho] at e2; cases e2).trans hk⟩
set_option maxHeartbeats 8000000 in
set_option maxRecDepth 100000 in
theorem drainV {σ : Type} (tb : Int → Sv) (l : Nat) (Bk : World → Prop) (hBk : ∀ W W', Bk W → KeepsOthers W W' → Bk W') (qb : Nat) (J J2 JE : σ → World → Prop) (dq : σ → Array (Int × Int)) (μ : σ → Nat)
    (hq : ∀ s W, J s W → ∃ f, f.Nodup ∧ QE EV 140 W qb 61 ((dq s).toList.map (valV tb)) f ∧ (dq s).size ≤ 500 ∧ (0 < (dq s).size → (∀ (w2 : World) (g : Nat), g ∈ f → Chg (· ∈ f) W w2 → ∃ P : Int × Int → Prop, AllP P (dq s) ∧ CmpV tb P w2 g) ∧
      ∀ f' W', QE EV 140 W' qb 61 ((hpop (dq s)).toList.map (valV tb)) f' → Step f f' W W' → J2 s W'))
    (hE : ∀ s W W', J s W → (dq s).size = 0 → Below W.heap.size W W' → JE s W')
    (hY : ∀ s W1, J2 s W1 → Bk W1 → YieldAt Fence.wide 0 Tryd.prog l #[vV tb (dq s)[0]!] W1 fun e W' => e = .returned (.bool true) ∧ ∃ s', μ s' < μ s ∧ J s' W' ∧ Bk W')
    (s0 : σ) (w : World) (h0 : J s0 w) (hb0 : Bk w) :
    CallsIn Fence.wide 1 Tryd.prog 63 #[.pointer (some ⟨qb, 0, none⟩), .func (.yield l) #[] #[]] w fun e W' => (∃ v, e = .returned v) ∧ ∃ s, JE s W' ∧ Bk W' := by
  have H0 := hidp h0
  have HB0 := hidp hb0
  have HBK : Aside (∀ W W', Bk W → KeepsOthers W W' → Bk W') := hBk
  have HQ : Aside (∀ s W, J s W → ∃ f, f.Nodup ∧ QE EV 140 W qb 61 ((dq s).toList.map (valV tb)) f ∧ (dq s).size ≤ 500 ∧ (0 < (dq s).size → (∀ (w2 : World) (g : Nat), g ∈ f → Chg (· ∈ f) W w2 → ∃ P : Int × Int → Prop, AllP P (dq s) ∧ CmpV tb P w2 g) ∧
      ∀ f' W', QE EV 140 W' qb 61 ((hpop (dq s)).toList.map (valV tb)) f' → Step f f' W W' → J2 s W')) := hq
  have HE : Aside (∀ s W W', J s W → (dq s).size = 0 → Below W.heap.size W W' → JE s W') := hE
  have HY : Aside (∀ s W1, J2 s W1 → Bk W1 → YieldAt Fence.wide 0 Tryd.prog l #[vV tb (dq s)[0]!] W1 fun e W' => e = .returned (.bool true) ∧ ∃ s', μ s' < μ s ∧ J s' W' ∧ Bk W') := hY
  clear h0 hb0 hBk hq hE hY
  refine callsIn_of_wp Tryd.func63 rfl trivial ?_ rfl
  refine wpIn_wide.2 ?_
  simp only [Tryd.ntmps63, List.size_toArray, List.length_cons, List.length_nil, Nat.reduceAdd, Nat.reduceSub, Array.replicate_succ, Array.replicate_zero, List.push_toArray, List.append_toArray, List.nil_append, List.cons_append]
  go_wp2
  go_loopg [] (μ s0) (fun gg wr => ∃ s : σ, μ s ≤ gg ∧ Hid (J s wr) ∧ Hid (Bk wr))
  case atStart => exact ⟨s0, Nat.le_refl _, H0, HB0⟩
  case round =>
    obtain ⟨s, hg, HJ, HB⟩ := hrel
    obtain ⟨f, hnd, hqe, h500, hpop⟩ := HQ.out s wr HJ.out
    rcases Nat.eq_zero_or_pos (dq s).size with hz | hz
    · have e0 : dq s = #[] := Array.eq_empty_of_size_eq_zero hz
      have C := hidp (qPopV_none (by rw [e0] at hqe; exact hqe))
      have HZ := hidp hz
      clear hqe hpop h500 hnd hz e0
      go_wp2_with (go_at_call 83; refine C.out.mono ?_; rintro e w1 ⟨rfl, hb⟩; have HB1 := hidp hb; clear hb)
      refine bodyPost_ret (results_none rfl _ _ _) rfl ?_
      have hb2 := HB1.out
      exact ⟨⟨_, rfl⟩, s, HE.out s _ _ HJ.out HZ.out hb2, HBK.out _ _ HB.out (others_belowV hb2)⟩
    · obtain ⟨hc, hj2⟩ := hpop hz
      have C := hidp (qPopV hqe hnd hz h500 hc)
      obtain ⟨x0, x1, x2, hx⟩ : ∃ a0 a1 a2, valV tb (dq s)[0]! = (a0, a1, a2) := ⟨_, _, _, rfl⟩
      have hv : vV tb (dq s)[0]! = .slice x0 x1 x2 := by unfold vV; rw [hx]
      rw [hv] at C
      have HJ2 := hidp hj2
      have HQE := hidp hqe
      have HV := hidp hv
      clear hqe hpop h500 hnd hz hc hj2 hx hv
      refine (wpIn_wide (n := 1)).1 ?_
      gi_wp2_with (refine ⟨trivial, ?_⟩; gi_at_call 83; refine (callsIn_wide.2 C.out).mono ?_; rintro e w1 ⟨rfl, f', q1, s1⟩; have HQ1 := hidp q1; have HS1 := hidp s1; clear q1 s1)
      have HBA : Hid (Below w1.heap.size w1 w1) := Below.refl _ _
      obtain ⟨w2, hw2⟩ : ∃ w2, w2 = w1 := ⟨_, rfl⟩
      have HBA' := HBA
      rw [← hw2] at HBA' ⊢
      clear HBA
      have HBA : Hid (Below w1.heap.size w1 w2) := by rw [hw2]; exact Below.refl _ _
      clear HBA' hw2
      have hst : Step f f' wr w2 := HS1.out.trans (Step.below HS1.out.nodup HBA.out)
      have HY2 := HY.out s w2 (HJ2.out f' w2 (HQ1.out.below HBA.out) hst) (HBK.out _ _ HB.out (others_chgV hst.chg fun j hj => qe_cellsV HQE.out j hj))
      rw [HV.out] at HY2
      obtain ⟨fn, tmps, assign, body, hy, hR⟩ := HY2
      clear hst HJ2 HQ1 HS1 HBA C
      gi_wp2
      rw [hy]
      gi_wp2
      refine hR.mono ?_
      rintro e W' ⟨rfl, s', hlt, hj, hbk⟩
      have HJ' := hidp hj
      have HBK' := hidp hbk
      clear hj hbk
      gi_wp2
      go_roundg (μ s')
      case measure => omega
      case rel => exact ⟨s', Nat.le_refl _, HJ', HBK'⟩
#print axioms drainV
end Go.Proofs.YtlaeaeciomkababDoor
