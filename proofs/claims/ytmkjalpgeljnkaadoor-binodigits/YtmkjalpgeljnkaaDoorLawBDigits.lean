/-
  The law BinoDigits, walked: a heap has the digits of its size; melded, as numbers are added.
-/
import Derived.Test.YtmkjalpgeljnkaaDoorPBag
import Derived.Test.YtmkjalpgeljnkaaDoorTold
namespace Go.Proofs.YtmkjalpgeljnkaaDoor
open Go.RowKit Go.Sort Go.Proofs

/-- Of the heap M the first a trees have ranks below r; the others are the digits of m. -/
structure Digs (M : List TrL) (r a m : Nat) : Prop where
  size : (itemsH (M.drop a)).length = m * 2 ^ r
  low : ∀ t ∈ M.drop a, r ≤ t.1
  le : a ≤ M.length
theorem IsH.drop {M : List TrL} (h : IsH M) (a : Nat) : IsH (M.drop a) := ⟨fun t ht => h.trees t (List.mem_of_mem_drop ht), h.rise.sublist (List.drop_sublist a M)⟩
theorem Digs.start {M : List TrL} {n : Nat} (h : (itemsH M).length = n) : Digs M 0 0 n := ⟨by rw [List.drop_zero, h]; simp, fun _ _ => Nat.zero_le _, Nat.zero_le _⟩
theorem Digs.odd {M : List TrL} {r a m : Nat} (h : IsH M) (H : Digs M r a m) (ho : m % 2 = 1) : ∃ l, M[a]? = some (r, l) ∧ l.length = 2 ^ r ∧ Digs M (r + 1) (a + 1) (m / 2) := by
  obtain ⟨l, t, e, hT, hl, hs⟩ := (digits_cons (h.drop a) H.low H.size).1 ho
  have ha : a < M.length := by
    rcases Nat.lt_or_ge a M.length with q | q
    · exact q
    · rw [List.drop_eq_nil_of_le q] at e; cases e
  rw [List.drop_eq_getElem_cons ha] at e
  simp only [List.cons.injEq] at e
  refine ⟨l, by rw [List.getElem?_eq_getElem ha, e.1], hT.len, ?_, ?_, ha⟩
  · rw [e.2]; exact hs
  · rw [e.2]; exact hl
theorem Digs.even {M : List TrL} {r a m : Nat} (h : IsH M) (H : Digs M r a m) (ho : m % 2 = 0) : Digs M (r + 1) a (m / 2) := by
  obtain ⟨h1, h2⟩ := (digits_cons (h.drop a) H.low H.size).2 ho
  exact ⟨h2, h1, H.le⟩
theorem Digs.done {M : List TrL} {r a : Nat} (h : IsH M) (H : Digs M r a 0) : a = M.length := by
  have h1 := (h.drop a).len_le
  rw [H.size, Nat.zero_mul, List.length_drop] at h1
  have := H.le
  omega

set_option maxHeartbeats 4000000 in
theorem binoDigits_A (p p' : Option Addr) (n cap n' cap' : Nat) (w : World)
    (C1 : Hid (∀ w1, Below w.heap.size w w1 → Calls Tryd.prog 19 #[.slice p n cap] w1 fun e w' => ∃ q m c, e = .returned (.tuple #[.slice q m c, .bool false]) ∧ Below w1.heap.size w1 w'))
    (C2 : Hid (∀ w1, Below w.heap.size w w1 → Calls Tryd.prog 19 #[.slice p' n' cap'] w1 fun e w' => ∃ q m c b, e = .returned (.tuple #[.slice q m c, .bool b]) ∧ Below w1.heap.size w1 w')) :
    Calls Tryd.prog 5 #[.slice p n cap, .slice p' n' cap'] w fun e w' => e = .returned (.bool true) ∧ Below w.heap.size w w' := by
  have c0 := binoFact_any w
  go_enter Tryd.func5, Tryd.ntmps5
  go_wp2_with fail
  refine c0.mono ?_
  rintro e w1 ⟨rfl, hb1⟩
  clear c0
  go_wp2_with fail
  refine (C1.out w1 hb1).mono ?_
  rintro e w2 ⟨q1, m1, c1, rfl, hb2'⟩
  have hb2 := hb1.trans (hb2'.mono hb1.size)
  clear hb2' hb1
  go_wp2_with fail
  refine (C2.out w2 hb2).mono ?_
  rintro e w3 ⟨q2, m2, c2, b, rfl, hb3'⟩
  have hb3 := hb2.trans (hb3'.mono hb2.size)
  clear hb3' hb2
  go_wp2
  go_ret
  exact ⟨rfl, hb3⟩
set_option maxHeartbeats 4000000 in
theorem binoDigits_B (p p' : Option Addr) (n cap n' cap' : Nat) (w : World)
    (C1 : Hid (∀ w1, Below w.heap.size w w1 → Calls Tryd.prog 19 #[.slice p n cap] w1 fun e w' => ∃ q m c, e = .returned (.tuple #[.slice q m c, .bool true]) ∧ Below w1.heap.size w1 w'))
    (C2 : Hid (∀ w1, Below w.heap.size w w1 → Calls Tryd.prog 19 #[.slice p' n' cap'] w1 fun e w' => ∃ q m c, e = .returned (.tuple #[.slice q m c, .bool false]) ∧ Below w1.heap.size w1 w')) :
    Calls Tryd.prog 5 #[.slice p n cap, .slice p' n' cap'] w fun e w' => e = .returned (.bool true) ∧ Below w.heap.size w w' := by
  have c0 := binoFact_any w
  go_enter Tryd.func5, Tryd.ntmps5
  go_wp2_with fail
  refine c0.mono ?_
  rintro e w1 ⟨rfl, hb1⟩
  clear c0
  go_wp2_with fail
  refine (C1.out w1 hb1).mono ?_
  rintro e w2 ⟨q1, m1, c1, rfl, hb2'⟩
  have hb2 := hb1.trans (hb2'.mono hb1.size)
  clear hb2' hb1
  go_wp2_with fail
  refine (C2.out w2 hb2).mono ?_
  rintro e w3 ⟨q2, m2, c2, rfl, hb3'⟩
  have hb3 := hb2.trans (hb3'.mono hb2.size)
  clear hb3' hb2
  go_wp2
  go_ret
  exact ⟨rfl, hb3⟩
set_option maxHeartbeats 8000000 in
set_option maxRecDepth 4000 in
theorem binoDigits_C (p p' : Option Addr) (n cap n' cap' : Nat) (xs ys : Array (Int × Int)) (w : World) (_hn : n ≤ 60) (_hn' : n' ≤ 60) (HN : Hid (xs.size = n)) (HN' : Hid (ys.size = n')) (HS : Hid (Sl w (.slice p n cap) xs)) (HS' : Hid (Sl w (.slice p' n' cap') ys)) (HW : Hid (wrong xs = 0)) (HW' : Hid (wrong ys = 0)) (hgl : Glob w) (h60 : 60 < n + n') :
    Calls Tryd.prog 5 #[.slice p n cap, .slice p' n' cap'] w fun e w' => e = .returned (.bool true) ∧ Below w.heap.size w w' := by
  have c0 := binoFact_any w
  go_enter Tryd.func5, Tryd.ntmps5
  go_wp2_with fail
  refine c0.mono ?_
  rintro e w1 ⟨rfl, hb1⟩
  clear c0
  go_wp2_with fail
  refine (planted_good _ xs w1 (HS.out.below hb1) HW.out).mono ?_
  rintro e w2 ⟨q1, l1, c1, g1, rfl, hs1, hg1, hb2'⟩
  rw [HN.out] at hg1
  have hb2 := hb1.trans (hb2'.mono hb1.size)
  have HS1 : Hid (HpAt w2 (.slice q1 l1 c1) (zH g1)) := hs1
  have HG1 : Hid (Plants xs n g1) := hg1
  clear hb2' hb1 hs1 hg1
  go_wp2_with fail
  refine (planted_good _ ys w2 (HS'.out.below hb2) HW'.out).mono ?_
  rintro e w3 ⟨q2, l2, c2, g2, rfl, hs2, hg2, hb3'⟩
  rw [HN'.out] at hg2
  have hb3 := hb2.trans (hb3'.mono hb2.size)
  have HA3 : Hid (HpAt w3 (.slice q1 l1 c1) (zH g1)) := HS1.out.below hb3'
  have HB3 : Hid (HpAt w3 (.slice q2 l2 c2) (zH g2)) := hs2
  have HG2 : Hid (Plants ys n' g2) := hg2
  clear hb3' hb2 hs2 hg2 HS1
  have cM := dMeld_bad _ _ _ _ 4 w3 HA3.out HB3.out HG1.out.ok.fit HG2.out.ok.fit (by unfold meldE; rw [if_pos (binoE_ok HG1.out.ok), if_pos (binoE_ok HG2.out.ok), if_pos (by rw [sizeZ_zH, sizeZ_zH, HG1.out.size, HG2.out.size]; exact h60)]) (by decide)
  go_wp2_with fail
  refine cM.mono ?_
  rintro e w4 ⟨rfl, hb4'⟩
  have hb4 := hb3.trans (hb4'.mono hb3.size)
  have cE := error_any 4 4 w4 (hgl.below hb4)
  clear hb4' cM
  go_wp2_with fail
  refine cE.mono ?_
  rintro e w5 ⟨rfl, hb5'⟩
  have hb5 := hb4.trans (hb5'.mono hb4.size)
  go_wp2
  go_ret
  exact ⟨rfl, hb5⟩
set_option maxHeartbeats 32000000 in
set_option maxRecDepth 4000 in
theorem binoDigits_D (p p' : Option Addr) (n cap n' cap' : Nat) (xs ys : Array (Int × Int)) (w : World) (_hn : n ≤ 60) (_hn' : n' ≤ 60) (HN : Hid (xs.size = n)) (HN' : Hid (ys.size = n')) (HS : Hid (Sl w (.slice p n cap) xs)) (HS' : Hid (Sl w (.slice p' n' cap') ys)) (HW : Hid (wrong xs = 0)) (HW' : Hid (wrong ys = 0)) (_hgl : Glob w) (h60 : n + n' ≤ 60) :
    Calls Tryd.prog 5 #[.slice p n cap, .slice p' n' cap'] w fun e w' => e = .returned (.bool true) ∧ Below w.heap.size w w' := by
  have c0 := binoFact_any w
  go_enter Tryd.func5, Tryd.ntmps5
  go_wp2_with fail
  refine c0.mono ?_
  rintro e w1 ⟨rfl, hb1⟩
  clear c0
  go_wp2_with fail
  refine (planted_good _ xs w1 (HS.out.below hb1) HW.out).mono ?_
  rintro e w2 ⟨q1, l1, c1, g1, rfl, hs1, hg1, hb2'⟩
  rw [HN.out] at hg1
  have hb2 := hb1.trans (hb2'.mono hb1.size)
  have HS1 : Hid (HpAt w2 (.slice q1 l1 c1) (zH g1)) := hs1
  have HG1 : Hid (Plants xs n g1) := hg1
  clear hb2' hb1 hs1 hg1
  go_wp2_with fail
  refine (planted_good _ ys w2 (HS'.out.below hb2) HW'.out).mono ?_
  rintro e w3 ⟨q2, l2, c2, g2, rfl, hs2, hg2, hb3'⟩
  rw [HN'.out] at hg2
  have hb3 := hb2.trans (hb3'.mono hb2.size)
  have HA3 : Hid (HpAt w3 (.slice q1 l1 c1) (zH g1)) := HS1.out.below hb3'
  have HB3 : Hid (HpAt w3 (.slice q2 l2 c2) (zH g2)) := hs2
  have HG2 : Hid (Plants ys n' g2) := hg2
  clear hb3' hb2 hs2 hg2 HS1
  have cM := dMeld_good _ _ g1 g2 w3 HA3.out HB3.out HG1.out.ok HG2.out.ok (by rw [HG1.out.size, HG2.out.size]; exact h60)
  have hmm := HG1.out.ok.meld HG2.out.ok (by rw [HG1.out.size, HG2.out.size]; exact h60)
  have HOK : Hid (OkH (meldH g1 g2)) := hmm.1
  have HZ : Hid ((itemsH (meldH g1 g2)).length = n + n') := by show _ = _; rw [hmm.2.length_eq, List.length_append, HG1.out.size, HG2.out.size]
  have HP : Hid ((itemsH (meldH g1 g2)).Perm (xs.toList ++ ys.toList)) := hmm.2.trans (List.Perm.append (HG1.out.items HN.out) (HG2.out.items HN'.out))
  clear hmm
  go_wp2_with fail
  refine cM.mono ?_
  rintro e w4 ⟨v4, rfl, ho4, hb4'⟩
  have hb4 := hb3.trans (hb4'.mono hb3.size)
  generalize meldH g1 g2 = M at HOK HZ HP ho4
  have HM0 : Hid (HpAt w4 v4 (zH M)) := ho4.heap
  obtain ⟨pm, cm, hv4⟩ := HM0.out.form
  rw [zH_len] at hv4
  subst hv4
  obtain ⟨NM, hNM⟩ : ∃ NM, M.length = NM := ⟨_, rfl⟩
  have HM : Hid (HpAt w4 (.slice pm NM cm) (zH M)) := by show HpAt _ _ _; rw [← hNM]; exact HM0.out
  have HNM : Hid (M.length = NM) := hNM
  have hNM60 : NM ≤ 60 := by rw [← hNM]; exact HOK.out.len_le
  rw [hNM]
  clear ho4 hb4' cM HA3 HB3 HG1 HG2 HM0 hNM
  have hw : IntKind.i64.wrap ((n : Int) + (n' : Int)) = (n : Int) + (n' : Int) := by rw [IntKind.wrap_i64]; omega
  have HDS : Hid (Digs M 0 0 (n + n')) := Digs.start HZ.out
  clear HP
  go_wp2
  go_loopg [12, 13, 14] 7 (fun gg v12 v13 v14 wr => ∃ (r a m : Nat), v12 = .int .i64 m ∧ v13 = .int .i64 a ∧ v14 = .int .i64 r ∧ r ≤ 7 ∧ 7 - r ≤ gg ∧ a ≤ r ∧ m ≤ 60 ∧ Hid (Digs M r a m) ∧ Hid (HpAt wr (.slice pm NM cm) (zH M)) ∧ Hid (Below w.heap.size w wr))
  case atStart => exact ⟨0, 0, n + n', by go_num, rfl, rfl, by omega, by omega, by omega, by omega, HDS, HM, hb4⟩
  case round =>
    obtain ⟨r, a, m, rfl, rfl, rfl, hr, hg, har, hm60, HD, HM, HB⟩ := hrel
    by_cases hlt : r < 7
    · have hlz : (r : Int) < 7 := by omega
      have hr7 : r = 0 ∨ r = 1 ∨ r = 2 ∨ r = 3 ∨ r = 4 ∨ r = 5 ∨ r = 6 := by omega
      rcases hr7 with rfl | rfl | rfl | rfl | rfl | rfl | rfl
      · rcases Nat.mod_two_eq_zero_or_one m with ho | ho
        · have HDD : Hid (Digs M 1 a (m / 2)) := HD.out.even HOK.out.isH ho
          have hov : (((m : Int) % 2) == 1) = false := by rw [beq_eq_false_iff_ne]; omega
          clear HD
          go_wp2
          go_roundg (7 - 1)
          case measure => omega
          case rel => exact ⟨1, a, m / 2, by go_num, rfl, rfl, by omega, by omega, by omega, by omega, HDD, HM, HB⟩
        · obtain ⟨l, hx, hl, HD'⟩ := HD.out.odd HOK.out.isH ho
          have ha : a < NM := by rw [← HNM.out]; exact (List.getElem?_eq_some_iff.1 hx).1
          obtain ⟨blk, off, q, c, rfl, hblk, t0, t1, _⟩ := HM.out.tree (zH_get hx)
          have hl' : l.length = 1 := hl
          rw [hl'] at t1
          have hazz : (a : Int) < (NM : Int) := by omega
          have hgn : decide (NM ≤ a) = false := decide_eq_false (by omega)
          have HDD : Hid (Digs M 1 (a + 1) (m / 2)) := HD'
          have hov : (((m : Int) % 2) == 1) = true := by rw [beq_iff_eq]; omega
          clear hx hl hl' HD' HD
          go_wp2_with fail
          go_quiet (fail)
          have HMq : Hid (HpAt (wr.drewN nq) (.slice (some ⟨blk, off, none⟩) NM cm) (zH M)) := HM.out.below (below_drewN (Below.refl _ _) nq)
          have hbq : Below w.heap.size w (wr.drewN nq) := below_drewN HB.out nq
          clear HM HB t0 t1
          generalize wr.drewN nq = wq at HMq hbq ⊢
          go_wp2
          go_roundg (7 - 1)
          case measure => omega
          case rel => exact ⟨1, a + 1, m / 2, by go_num, by go_num, rfl, by omega, by omega, by omega, by omega, HDD, HMq, hbq⟩
      · rcases Nat.mod_two_eq_zero_or_one m with ho | ho
        · have HDD : Hid (Digs M 2 a (m / 2)) := HD.out.even HOK.out.isH ho
          have hov : (((m : Int) % 2) == 1) = false := by rw [beq_eq_false_iff_ne]; omega
          clear HD
          go_wp2
          go_roundg (7 - 2)
          case measure => omega
          case rel => exact ⟨2, a, m / 2, by go_num, rfl, rfl, by omega, by omega, by omega, by omega, HDD, HM, HB⟩
        · obtain ⟨l, hx, hl, HD'⟩ := HD.out.odd HOK.out.isH ho
          have ha : a < NM := by rw [← HNM.out]; exact (List.getElem?_eq_some_iff.1 hx).1
          obtain ⟨blk, off, q, c, rfl, hblk, t0, t1, _⟩ := HM.out.tree (zH_get hx)
          have hl' : l.length = 2 := hl
          rw [hl'] at t1
          have hazz : (a : Int) < (NM : Int) := by omega
          have hgn : decide (NM ≤ a) = false := decide_eq_false (by omega)
          have HDD : Hid (Digs M 2 (a + 1) (m / 2)) := HD'
          have hov : (((m : Int) % 2) == 1) = true := by rw [beq_iff_eq]; omega
          clear hx hl hl' HD' HD
          go_wp2_with fail
          go_quiet (fail)
          have HMq : Hid (HpAt (wr.drewN nq) (.slice (some ⟨blk, off, none⟩) NM cm) (zH M)) := HM.out.below (below_drewN (Below.refl _ _) nq)
          have hbq : Below w.heap.size w (wr.drewN nq) := below_drewN HB.out nq
          clear HM HB t0 t1
          generalize wr.drewN nq = wq at HMq hbq ⊢
          go_wp2
          go_roundg (7 - 2)
          case measure => omega
          case rel => exact ⟨2, a + 1, m / 2, by go_num, by go_num, rfl, by omega, by omega, by omega, by omega, HDD, HMq, hbq⟩
      · rcases Nat.mod_two_eq_zero_or_one m with ho | ho
        · have HDD : Hid (Digs M 3 a (m / 2)) := HD.out.even HOK.out.isH ho
          have hov : (((m : Int) % 2) == 1) = false := by rw [beq_eq_false_iff_ne]; omega
          clear HD
          go_wp2
          go_roundg (7 - 3)
          case measure => omega
          case rel => exact ⟨3, a, m / 2, by go_num, rfl, rfl, by omega, by omega, by omega, by omega, HDD, HM, HB⟩
        · obtain ⟨l, hx, hl, HD'⟩ := HD.out.odd HOK.out.isH ho
          have ha : a < NM := by rw [← HNM.out]; exact (List.getElem?_eq_some_iff.1 hx).1
          obtain ⟨blk, off, q, c, rfl, hblk, t0, t1, _⟩ := HM.out.tree (zH_get hx)
          have hl' : l.length = 4 := hl
          rw [hl'] at t1
          have hazz : (a : Int) < (NM : Int) := by omega
          have hgn : decide (NM ≤ a) = false := decide_eq_false (by omega)
          have HDD : Hid (Digs M 3 (a + 1) (m / 2)) := HD'
          have hov : (((m : Int) % 2) == 1) = true := by rw [beq_iff_eq]; omega
          clear hx hl hl' HD' HD
          go_wp2_with fail
          go_quiet (fail)
          have HMq : Hid (HpAt (wr.drewN nq) (.slice (some ⟨blk, off, none⟩) NM cm) (zH M)) := HM.out.below (below_drewN (Below.refl _ _) nq)
          have hbq : Below w.heap.size w (wr.drewN nq) := below_drewN HB.out nq
          clear HM HB t0 t1
          generalize wr.drewN nq = wq at HMq hbq ⊢
          go_wp2
          go_roundg (7 - 3)
          case measure => omega
          case rel => exact ⟨3, a + 1, m / 2, by go_num, by go_num, rfl, by omega, by omega, by omega, by omega, HDD, HMq, hbq⟩
      · rcases Nat.mod_two_eq_zero_or_one m with ho | ho
        · have HDD : Hid (Digs M 4 a (m / 2)) := HD.out.even HOK.out.isH ho
          have hov : (((m : Int) % 2) == 1) = false := by rw [beq_eq_false_iff_ne]; omega
          clear HD
          go_wp2
          go_roundg (7 - 4)
          case measure => omega
          case rel => exact ⟨4, a, m / 2, by go_num, rfl, rfl, by omega, by omega, by omega, by omega, HDD, HM, HB⟩
        · obtain ⟨l, hx, hl, HD'⟩ := HD.out.odd HOK.out.isH ho
          have ha : a < NM := by rw [← HNM.out]; exact (List.getElem?_eq_some_iff.1 hx).1
          obtain ⟨blk, off, q, c, rfl, hblk, t0, t1, _⟩ := HM.out.tree (zH_get hx)
          have hl' : l.length = 8 := hl
          rw [hl'] at t1
          have hazz : (a : Int) < (NM : Int) := by omega
          have hgn : decide (NM ≤ a) = false := decide_eq_false (by omega)
          have HDD : Hid (Digs M 4 (a + 1) (m / 2)) := HD'
          have hov : (((m : Int) % 2) == 1) = true := by rw [beq_iff_eq]; omega
          clear hx hl hl' HD' HD
          go_wp2_with fail
          go_quiet (fail)
          have HMq : Hid (HpAt (wr.drewN nq) (.slice (some ⟨blk, off, none⟩) NM cm) (zH M)) := HM.out.below (below_drewN (Below.refl _ _) nq)
          have hbq : Below w.heap.size w (wr.drewN nq) := below_drewN HB.out nq
          clear HM HB t0 t1
          generalize wr.drewN nq = wq at HMq hbq ⊢
          go_wp2
          go_roundg (7 - 4)
          case measure => omega
          case rel => exact ⟨4, a + 1, m / 2, by go_num, by go_num, rfl, by omega, by omega, by omega, by omega, HDD, HMq, hbq⟩
      · rcases Nat.mod_two_eq_zero_or_one m with ho | ho
        · have HDD : Hid (Digs M 5 a (m / 2)) := HD.out.even HOK.out.isH ho
          have hov : (((m : Int) % 2) == 1) = false := by rw [beq_eq_false_iff_ne]; omega
          clear HD
          go_wp2
          go_roundg (7 - 5)
          case measure => omega
          case rel => exact ⟨5, a, m / 2, by go_num, rfl, rfl, by omega, by omega, by omega, by omega, HDD, HM, HB⟩
        · obtain ⟨l, hx, hl, HD'⟩ := HD.out.odd HOK.out.isH ho
          have ha : a < NM := by rw [← HNM.out]; exact (List.getElem?_eq_some_iff.1 hx).1
          obtain ⟨blk, off, q, c, rfl, hblk, t0, t1, _⟩ := HM.out.tree (zH_get hx)
          have hl' : l.length = 16 := hl
          rw [hl'] at t1
          have hazz : (a : Int) < (NM : Int) := by omega
          have hgn : decide (NM ≤ a) = false := decide_eq_false (by omega)
          have HDD : Hid (Digs M 5 (a + 1) (m / 2)) := HD'
          have hov : (((m : Int) % 2) == 1) = true := by rw [beq_iff_eq]; omega
          clear hx hl hl' HD' HD
          go_wp2_with fail
          go_quiet (fail)
          have HMq : Hid (HpAt (wr.drewN nq) (.slice (some ⟨blk, off, none⟩) NM cm) (zH M)) := HM.out.below (below_drewN (Below.refl _ _) nq)
          have hbq : Below w.heap.size w (wr.drewN nq) := below_drewN HB.out nq
          clear HM HB t0 t1
          generalize wr.drewN nq = wq at HMq hbq ⊢
          go_wp2
          go_roundg (7 - 5)
          case measure => omega
          case rel => exact ⟨5, a + 1, m / 2, by go_num, by go_num, rfl, by omega, by omega, by omega, by omega, HDD, HMq, hbq⟩
      · rcases Nat.mod_two_eq_zero_or_one m with ho | ho
        · have HDD : Hid (Digs M 6 a (m / 2)) := HD.out.even HOK.out.isH ho
          have hov : (((m : Int) % 2) == 1) = false := by rw [beq_eq_false_iff_ne]; omega
          clear HD
          go_wp2
          go_roundg (7 - 6)
          case measure => omega
          case rel => exact ⟨6, a, m / 2, by go_num, rfl, rfl, by omega, by omega, by omega, by omega, HDD, HM, HB⟩
        · obtain ⟨l, hx, hl, HD'⟩ := HD.out.odd HOK.out.isH ho
          have ha : a < NM := by rw [← HNM.out]; exact (List.getElem?_eq_some_iff.1 hx).1
          obtain ⟨blk, off, q, c, rfl, hblk, t0, t1, _⟩ := HM.out.tree (zH_get hx)
          have hl' : l.length = 32 := hl
          rw [hl'] at t1
          have hazz : (a : Int) < (NM : Int) := by omega
          have hgn : decide (NM ≤ a) = false := decide_eq_false (by omega)
          have HDD : Hid (Digs M 6 (a + 1) (m / 2)) := HD'
          have hov : (((m : Int) % 2) == 1) = true := by rw [beq_iff_eq]; omega
          clear hx hl hl' HD' HD
          go_wp2_with fail
          go_quiet (fail)
          have HMq : Hid (HpAt (wr.drewN nq) (.slice (some ⟨blk, off, none⟩) NM cm) (zH M)) := HM.out.below (below_drewN (Below.refl _ _) nq)
          have hbq : Below w.heap.size w (wr.drewN nq) := below_drewN HB.out nq
          clear HM HB t0 t1
          generalize wr.drewN nq = wq at HMq hbq ⊢
          go_wp2
          go_roundg (7 - 6)
          case measure => omega
          case rel => exact ⟨6, a + 1, m / 2, by go_num, by go_num, rfl, by omega, by omega, by omega, by omega, HDD, HMq, hbq⟩
      · rcases Nat.mod_two_eq_zero_or_one m with ho | ho
        · have HDD : Hid (Digs M 7 a (m / 2)) := HD.out.even HOK.out.isH ho
          have hov : (((m : Int) % 2) == 1) = false := by rw [beq_eq_false_iff_ne]; omega
          clear HD
          go_wp2
          go_roundg (7 - 7)
          case measure => omega
          case rel => exact ⟨7, a, m / 2, by go_num, rfl, rfl, by omega, by omega, by omega, by omega, HDD, HM, HB⟩
        · obtain ⟨l, hx, hl, HD'⟩ := HD.out.odd HOK.out.isH ho
          have ha : a < NM := by rw [← HNM.out]; exact (List.getElem?_eq_some_iff.1 hx).1
          obtain ⟨blk, off, q, c, rfl, hblk, t0, t1, _⟩ := HM.out.tree (zH_get hx)
          have hl' : l.length = 64 := hl
          rw [hl'] at t1
          have hazz : (a : Int) < (NM : Int) := by omega
          have hgn : decide (NM ≤ a) = false := decide_eq_false (by omega)
          have HDD : Hid (Digs M 7 (a + 1) (m / 2)) := HD'
          have hov : (((m : Int) % 2) == 1) = true := by rw [beq_iff_eq]; omega
          clear hx hl hl' HD' HD
          go_wp2_with fail
          go_quiet (fail)
          have HMq : Hid (HpAt (wr.drewN nq) (.slice (some ⟨blk, off, none⟩) NM cm) (zH M)) := HM.out.below (below_drewN (Below.refl _ _) nq)
          have hbq : Below w.heap.size w (wr.drewN nq) := below_drewN HB.out nq
          clear HM HB t0 t1
          generalize wr.drewN nq = wq at HMq hbq ⊢
          go_wp2
          go_roundg (7 - 7)
          case measure => omega
          case rel => exact ⟨7, a + 1, m / 2, by go_num, by go_num, rfl, by omega, by omega, by omega, by omega, HDD, HMq, hbq⟩
    · obtain rfl : r = 7 := by omega
      have hm0 : m = 0 := by
        have h1 := HD.out.size
        have h2 : (itemsH (M.drop a)).length ≤ (itemsH M).length := by
          have e : itemsH M = itemsH (M.take a) ++ itemsH (M.drop a) := by rw [← itemsH_append, List.take_append_drop]
          rw [e, List.length_append]; omega
        rw [HZ.out] at h2
        have h3 : (itemsH (M.drop a)).length = m * 128 := h1
        omega
      have haN : a = NM := by rw [← HNM.out]; have := HD.out; rw [hm0] at this; exact this.done HOK.out.isH
      subst haN
      have hbb : ((a : Int) == (a : Int)) = true := beq_self_eq_true _
      clear hm0
      go_wp2
      go_ret
      exact ⟨rfl, HB.out⟩

theorem binoDigits_any (v v' : Value) (xs ys : Array (Int × Int)) (w : World) (h : Sl w v xs) (h' : Sl w v' ys) (hbig : xs.size ≤ 9223372036854775807) (hbig' : ys.size ≤ 9223372036854775807) (hgl : Glob w) :
    Calls Tryd.prog 5 #[v, v'] w fun e w' => e = .returned (.bool true) ∧ Below w.heap.size w w' := by
  obtain ⟨p, cap, rfl, hcap, hp⟩ := id h
  obtain ⟨p', cap', rfl, hcap', hp'⟩ := id h'
  by_cases h0 : wrong xs = 0
  · by_cases h0' : wrong ys = 0
    · by_cases h60 : 60 < xs.size + ys.size
      · exact binoDigits_C p p' _ cap _ cap' xs ys w (wrong_le h0) (wrong_le h0') rfl rfl h h' h0 h0' hgl h60
      · exact binoDigits_D p p' _ cap _ cap' xs ys w (wrong_le h0) (wrong_le h0') rfl rfl h h' h0 h0' hgl (by omega)
    · exact binoDigits_B p p' _ cap _ cap' w (fun w1 hb => (planted_good _ xs w1 (h.below hb) h0).mono fun e w' ⟨a, m, b, _, c, _, _, d⟩ => ⟨a, m, b, c, d⟩) (fun w1 hb => (planted_bad _ ys w1 (h'.below hb) hbig' h0').mono fun e w' ⟨a, b, c, d, e⟩ => ⟨a, b, c, d, e⟩)
  · refine binoDigits_A p p' _ cap _ cap' w (fun w1 hb => (planted_bad _ xs w1 (h.below hb) hbig h0).mono fun e w' ⟨a, b, c, d, e⟩ => ⟨a, b, c, d, e⟩) (fun w1 hb => ?_)
    by_cases h0' : wrong ys = 0
    · exact (planted_good _ ys w1 (h'.below hb) h0').mono fun e w' ⟨a, m, b, _, c, _, _, d⟩ => ⟨a, m, b, true, c, d⟩
    · exact (planted_bad _ ys w1 (h'.below hb) hbig' h0').mono fun e w' ⟨a, b, c, d, e⟩ => ⟨a, b, c, false, d, e⟩
#print axioms binoDigits_any
end Go.Proofs.YtmkjalpgeljnkaaDoor
