/-
  The law PickParts, walked: cut by a key it is all there.
-/
import Derived.Test.YtdpfijhkbhmkgaaHide
import Derived.Test.YtdpfijhkbhmkgaaPkParts
import Derived.Test.YtdpfijhkbhmkgaaPkNth
import Derived.Test.YtdpfijhkbhmkgaaBothW
import Derived.Test.YtdpfijhkbhmkgaaBag
namespace Go.Proofs.Ytdpfijhkbhmkgaa
open Go.RowKit Go.Sort Go.Proofs

theorem tri_perm (key : Int) : ∀ l : List (Int × Int), ((l.filter (blwB key) ++ l.filter (smeB key)) ++ l.filter (abvB key)).Perm l
  | [] => by simp
  | x :: l => by
    have ih := tri_perm key l
    rcases Int.lt_trichotomy x.1 key with h | h | h
    · obtain ⟨a, b, c⟩ := tri_lt (x1 := x.2) h
      rw [List.filter_cons_of_pos a, List.filter_cons_of_neg (by rw [b]; decide), List.filter_cons_of_neg (by rw [c]; decide)]
      exact ih.cons x
    · obtain ⟨a, b, c⟩ := tri_eq (x1 := x.2) h
      rw [List.filter_cons_of_neg (by rw [a]; decide), List.filter_cons_of_pos b, List.filter_cons_of_neg (by rw [c]; decide)]
      exact (List.perm_middle.append_right _).trans (ih.cons x)
    · obtain ⟨a, b, c⟩ := tri_gt (x1 := x.2) h
      rw [List.filter_cons_of_neg (by rw [a]; decide), List.filter_cons_of_neg (by rw [b]; decide), List.filter_cons_of_pos c]
      exact List.perm_middle.trans (ih.cons x)
/-- What is read of a list at a place, if all have it. -/
theorem Sl.each {w : World} {p : Option Addr} {n cap : Nat} {xs : Array (Int × Int)} {Q : Int → Prop} (h : Sl w (.slice p n cap) xs) (hq : ∀ x ∈ xs.toList, Q x.1) : ∀ i, i < n → ∃ blk off x0, p = some ⟨blk, off, none⟩ ∧ w.cell? ⟨blk, off + i * 2, none⟩ = some (.int .i64 x0) ∧ Q x0 := by
  obtain ⟨p', cap', e, _, h⟩ := h
  simp only [Value.slice.injEq] at e
  obtain ⟨rfl, rfl, rfl⟩ := e
  intro i hi
  rcases h with h | ⟨blk, off, rfl, h1, h2⟩
  · omega
  · obtain ⟨c0, c1⟩ := h2 i hi
    refine ⟨blk, off, _, rfl, c0, ?_⟩
    rw [getElem!_pos xs i hi]
    exact hq _ (by rw [← Array.getElem_toList]; exact List.getElem_mem _)
theorem own_sl {w : World} {b : Nat} {v : Value} {l : List (Int × Int)} {n : Nat} (hn : l.length = n) (h : OwnI w b v l) : ∃ p c, v = .slice p n c ∧ OwnI w b (.slice p n c) l := by
  obtain ⟨p, c, e, _⟩ := h.sl
  rw [List.size_toArray, hn] at e
  exact ⟨p, c, e, by rw [← e]; exact h⟩

set_option maxHeartbeats 4000000 in
theorem pickParts_bad (v : Value) (key : Int) (xs : Array (Int × Int)) (w : World) (h : Sl w v xs) (hbig : xs.size ≤ 9223372036854775807) (h0 : wrong xs ≠ 0) :
    Calls Try.prog 5 #[v, .int .i64 key] w fun e w' => e = .returned (.bool true) ∧ Below w.heap.size w w' := by
  have c1 := pickFact_any w
  have c2 := fun w1 (hb : Below w.heap.size w w1) => parts_bad v key xs w1 (h.below hb) hbig _ rfl h0
  obtain ⟨p, cap, rfl, _⟩ := h
  generalize wrong xs = k at c2
  generalize xs.size = N at c2 ⊢
  have C2 := hidp (c2)
  clear c2 h0
  go_enter Try.func5, Try.ntmps5
  go_wp2_with fail
  refine c1.mono ?_
  rintro e w1 ⟨rfl, hb1⟩
  clear c1
  go_wp2_with fail
  refine (C2.out w1 hb1).mono ?_
  rintro e w2 ⟨rfl, hb2'⟩
  have hb2 := hb1.trans (hb2'.mono hb1.size)
  clear C2
  go_wp2
  go_ret
  exact ⟨rfl, hb2⟩

set_option maxHeartbeats 8000000 in
theorem pickParts_good (v : Value) (key : Int) (xs : Array (Int × Int)) (w : World) (h : Sl w v xs) (h0 : wrong xs = 0) :
    Calls Try.prog 5 #[v, .int .i64 key] w fun e w' => e = .returned (.bool true) ∧ Below w.heap.size w w' := by
  have h60 := wrong_le h0
  have c1 := pickFact_any w
  have c2 := fun w1 (hb : Below w.heap.size w w1) => parts_good v key xs w1 (h.below hb) h0
  have hp := tri_perm key xs.toList
  have HL : Hid (Sl w v xs) := h
  obtain ⟨p, cap, rfl, _⟩ := h
  obtain ⟨la, hla⟩ : ∃ l, xs.toList.filter (blwB key) = l := ⟨_, rfl⟩
  obtain ⟨lb, hlb⟩ : ∃ l, xs.toList.filter (smeB key) = l := ⟨_, rfl⟩
  obtain ⟨lc, hlc⟩ : ∃ l, xs.toList.filter (abvB key) = l := ⟨_, rfl⟩
  have qa : ∀ x ∈ la, x.1 < key := fun x hx => by rw [← hla] at hx; exact of_decide_eq_true (List.mem_filter.1 hx).2
  have qb : ∀ x ∈ lb, x.1 = key := fun x hx => by rw [← hlb] at hx; exact of_decide_eq_true (List.mem_filter.1 hx).2
  have qc : ∀ x ∈ lc, key < x.1 := fun x hx => by rw [← hlc] at hx; exact of_decide_eq_true (List.mem_filter.1 hx).2
  rw [hla, hlb, hlc] at c2 hp
  clear hla hlb hlc h0
  obtain ⟨A, hA⟩ : ∃ A, la.length = A := ⟨_, rfl⟩
  obtain ⟨B, hB⟩ : ∃ B, lb.length = B := ⟨_, rfl⟩
  obtain ⟨C, hC⟩ : ∃ C, lc.length = C := ⟨_, rfl⟩
  have hABC : A + B + C = xs.size := by
    have := hp.length_eq
    rw [List.length_append, List.length_append, hA, hB, hC] at this
    simpa using this
  have HA := hidp (hA)
  have HB := hidp (hB)
  have HC := hidp (hC)
  have HP := hidp (hp)
  have QA := hidp (qa)
  have QB := hidp (qb)
  have QC := hidp (qc)
  have C2 := hidp (c2)
  clear hA hB hC hp qa qb qc c2
  obtain ⟨N, hN⟩ : ∃ N, xs.size = N := ⟨_, rfl⟩
  rw [hN] at HL C2 h60 hABC ⊢
  have HN := hidp (hN)
  clear hN
  go_enter Try.func5, Try.ntmps5
  go_wp2_with fail
  refine c1.mono ?_
  rintro e w1 ⟨rfl, hb1⟩
  clear c1
  go_wp2_with fail
  refine (C2.out w1 hb1).mono ?_
  rintro e w2 ⟨va, vb, vc, rfl, oa, ob, oc, hb2'⟩
  have hb2 := hb1.trans (hb2'.mono hb1.size)
  obtain ⟨pa, ca, rfl, oa⟩ := own_sl HA.out oa
  obtain ⟨pb, cb, rfl, ob⟩ := own_sl HB.out ob
  obtain ⟨pc, cc, rfl, oc⟩ := own_sl HC.out oc
  have OA := hidp (oa)
  have OB := hidp (ob)
  have OC := hidp (oc)
  clear oa ob oc C2
  have c3 := both_any pa pb ca cb A B la.toArray lb.toArray w2 OA.out.sl OB.out.sl (by rw [List.size_toArray, List.size_toArray, HA.out, HB.out]; omega)
  go_wp2_with fail
  refine c3.mono ?_
  rintro e w3 ⟨u1, rfl, o1, hb3'⟩
  clear c3
  obtain ⟨p1, k1, rfl, o1⟩ := own_sl (show (la ++ lb).length = A + B by rw [List.length_append, HA.out, HB.out]) o1
  have hb3 := hb2.trans (hb3'.mono hb2.size)
  have OA3 := hidp (OA.out.below hb3')
  have OB3 := hidp (OB.out.below hb3')
  have OC3 := hidp (OC.out.below hb3')
  have O1 := hidp (o1)
  clear o1 OA OB OC
  have c4 := both_any p1 pc k1 cc (A + B) C (la ++ lb).toArray lc.toArray w3 O1.out.sl OC3.out.sl (by rw [List.size_toArray, List.size_toArray, List.length_append, HC.out, HA.out, HB.out]; omega)
  go_wp2_with fail
  refine c4.mono ?_
  rintro e w4 ⟨u2, rfl, o2, hb4'⟩
  clear c4
  have hb4 := hb3.trans (hb4'.mono hb3.size)
  have OA4 := hidp (OA3.out.below hb4')
  have OB4 := hidp (OB3.out.below hb4')
  have OC4 := hidp (OC3.out.below hb4')
  clear OA3 OB3 OC3 O1
  have c5 := bag_any u2 _ (la ++ lb ++ lc).toArray xs w4 o2.sl (HL.out.below hb4) (by rw [List.size_toArray, HP.out.length_eq, Array.length_toList, HN.out]; omega)
  rw [bagB_intro (by have := HP.out.length_eq; simpa using this) fun z => by have := HP.out.count_eq z; simpa using this] at c5
  clear o2
  go_wp2_with fail
  refine c5.mono ?_
  rintro e w5 ⟨rfl, q5, hw5⟩
  clear c5
  have hb5 : Below w.heap.size w w5 := by rw [hw5]; exact below_drewN hb4 q5
  have RA := hidp ((OA4.out.drewN q5).sl.each (Q := fun x => x < key) (by simpa using QA.out))
  have RB := hidp ((OB4.out.drewN q5).sl.each (Q := fun x => x = key) (by simpa using QB.out))
  have RC := hidp ((OC4.out.drewN q5).sl.each (Q := fun x => key < x) (by simpa using QC.out))
  rw [← hw5] at RA RB RC
  clear OA4 OB4 OC4 hw5 hb4 hb4' hb3 hb3' hb2 hb2' hb1 HL QA QB QC HP HN HA HB HC
  go_wp2
  go_loop [10] (fun vi => ∃ i : Nat, vi = .int .i64 i ∧ i ≤ A) (fun vi => A - (intOf vi).toNat)
  case atStart => exact ⟨0, rfl, Nat.zero_le _⟩
  case round =>
    obtain ⟨i, rfl, hi⟩ := hrel
    by_cases hlt : i < A
    · have hlz : (i : Int) < (A : Int) := by omega
      obtain ⟨blk, off, x0, rfl, cx, hx⟩ := RA.out i hlt
      have hx' : ¬ key ≤ x0 := by omega
      clear hx
      go_wp2
      go_round
      case rel => exact ⟨i + 1, by go_num, by omega⟩
      case measure => simp [intOf]; omega
    · have hlz : ¬ (i : Int) < (A : Int) := by omega
      clear RA
      go_wp2
      go_loop [11] (fun vi => ∃ i : Nat, vi = .int .i64 i ∧ i ≤ B) (fun vi => B - (intOf vi).toNat)
      case atStart => exact ⟨0, rfl, Nat.zero_le _⟩
      case round =>
        obtain ⟨j, rfl, hj⟩ := hrel
        by_cases hlt2 : j < B
        · have hlz2 : (j : Int) < (B : Int) := by omega
          obtain ⟨blk, off, x0, rfl, cx, hx⟩ := RB.out j hlt2
          have hx' : (x0 == key) = true := beq_iff_eq.2 hx
          have hx'' : (x0 != key) = false := by rw [bne, hx']; rfl
          clear hx
          go_wp2
          go_round
          case rel => exact ⟨j + 1, by go_num, by omega⟩
          case measure => simp [intOf]; omega
        · have hlz2 : ¬ (j : Int) < (B : Int) := by omega
          clear RB
          go_wp2
          go_loop [12] (fun vi => ∃ i : Nat, vi = .int .i64 i ∧ i ≤ C) (fun vi => C - (intOf vi).toNat)
          case atStart => exact ⟨0, rfl, Nat.zero_le _⟩
          case round =>
            obtain ⟨k, rfl, hk⟩ := hrel
            by_cases hlt3 : k < C
            · have hlz3 : (k : Int) < (C : Int) := by omega
              obtain ⟨blk, off, x0, rfl, cx, hx⟩ := RC.out k hlt3
              have hx' : ¬ x0 ≤ key := by omega
              clear hx
              go_wp2
              go_round
              case rel => exact ⟨k + 1, by go_num, by omega⟩
              case measure => simp [intOf]; omega
            · have hlz3 : ¬ (k : Int) < (C : Int) := by omega
              clear RC
              go_wp2
              go_ret
              exact ⟨rfl, hb5⟩
theorem pickParts_any (v : Value) (key : Int) (xs : Array (Int × Int)) (w : World) (h : Sl w v xs) (hbig : xs.size ≤ 9223372036854775807) :
    Calls Try.prog 5 #[v, .int .i64 key] w fun e w' => e = .returned (.bool true) ∧ Below w.heap.size w w' := by
  by_cases h0 : wrong xs = 0
  · exact pickParts_good v key xs w h h0
  · exact pickParts_bad v key xs w h hbig h0
#print axioms pickParts_any
end Go.Proofs.Ytdpfijhkbhmkgaa
