/-
  The law PickRank, walked: the one at a place has as many ahead.
-/
import Derived.Test.YtdpfijhkbhmkgabHide
import Derived.Test.YtdpfijhkbhmkgabPkRank
import Derived.Test.YtdpfijhkbhmkgabPkNth
import Derived.Test.YtdpfijhkbhmkgabSame
namespace Go.Proofs.Ytdpfijhkbhmkgab
open Go.RowKit Go.Sort Go.Proofs

theorem filter_none {l : List (Int × Int)} {p : Int × Int → Bool} (h : ∀ x ∈ l, p x = false) : l.filter p = [] := by
  rw [List.filter_eq_nil_iff]
  intro x hx
  rw [h x hx]; decide
/-- Of the items by keys that at a place has as many ahead. -/
theorem place {xs ys : Array (Int × Int)} (h : Sorts xs ys) {n : Nat} (hn : n < xs.size) {t0 t1 : Int} (hx : ys[n]! = (t0, t1)) :
    (xs.toList.filter (blwB t0)).length ≤ n ∧ (xs.toList.filter (abvB t0)).length + n < xs.size ∧ (t0, t1) ∈ xs.toList := by
  have hp := h.st.perm
  have hl : ys.toList.length = xs.size := by simp [h.size]
  have hsrt := srt_pairwise h.srt
  rw [List.pairwise_iff_getElem] at hsrt
  have hn' : n < ys.toList.length := by omega
  have e : ys.toList[n] = (t0, t1) := by rw [getD_toList]; exact hx
  refine ⟨?_, ?_, ?_⟩
  · rw [(hp.filter _).length_eq]
    conv => lhs; rw [← List.take_append_drop n ys.toList]
    rw [List.filter_append, filter_none (l := ys.toList.drop n), List.append_nil]
    · exact Nat.le_trans (List.length_filter_le _ _) (List.length_take_le _ _)
    · intro x hx2
      obtain ⟨k, hk, rfl⟩ := List.getElem_of_mem hx2
      rw [List.length_drop] at hk
      rw [List.getElem_drop]
      refine decide_eq_false ?_
      rcases Nat.eq_zero_or_pos k with q | q
      · subst q; simp only [Nat.add_zero]; rw [e]; simp only; omega
      · have := hsrt n (n + k) hn' (by omega) (by omega)
        rw [e] at this; simp only at this; omega
  · rw [(hp.filter _).length_eq]
    have : (ys.toList.filter (abvB t0)).length ≤ xs.size - (n + 1) := by
      conv => lhs; rw [← List.take_append_drop (n + 1) ys.toList]
      rw [List.filter_append, filter_none (l := ys.toList.take (n + 1)), List.nil_append]
      · refine Nat.le_trans (List.length_filter_le _ _) ?_
        rw [List.length_drop]; omega
      · intro x hx2
        obtain ⟨k, hk, rfl⟩ := List.getElem_of_mem hx2
        rw [List.length_take] at hk
        rw [List.getElem_take]
        refine decide_eq_false ?_
        by_cases q : k = n
        · subst q; rw [e]; simp only; omega
        · have := hsrt k n (by omega) hn' (by omega)
          rw [e] at this; simp only at this; omega
    omega
  · rw [hp.mem_iff, ← e]; exact List.getElem_mem _
/-- Is the item among the first? -/
def hereB (xs : Array (Int × Int)) (t0 t1 : Int) (i : Nat) : Bool := (xs.toList.take i).any fun y => y.1 == t0 && y.2 == t1
theorem hereB_succ {xs : Array (Int × Int)} {t0 t1 : Int} {i : Nat} {x0 x1 : Int} (hi : i < xs.size) (e : xs[i]! = (x0, x1)) : hereB xs t0 t1 (i + 1) = (hereB xs t0 t1 i || (x0 == t0 && x1 == t1)) := by
  have hi' : i < xs.toList.length := by simpa using hi
  unfold hereB
  rw [List.take_succ_eq_append_getElem hi', List.any_append, getD_toList xs i hi', e]
  simp
theorem hereB_all {xs : Array (Int × Int)} {t0 t1 : Int} {n : Nat} (hn : xs.size = n) (h : (t0, t1) ∈ xs.toList) : hereB xs t0 t1 n = true := by
  subst hn
  unfold hereB
  rw [List.any_eq_true]
  exact ⟨_, by rw [List.take_of_length_le (by simp)]; exact h, by simp⟩

set_option maxHeartbeats 4000000 in
theorem pickRank_bad (v : Value) (n : Int) (k : Nat) (w : World) (C2 : Hid (∀ w1, Below w.heap.size w w1 → Calls Try.prog 5 #[v, .int .i64 n] w1 fun e w' => e = .returned (.tuple #[.agg #[.int .i64 0, .int .i64 0], .iface 35 (.int .i64 k)]) ∧ Below w1.heap.size w1 w')) :
    Calls Try.prog 3 #[v, .int .i64 n] w fun e w' => e = .returned (.bool true) ∧ Below w.heap.size w w' := by
  have c1 := pickFact_any w
  go_enter Try.func3, Try.ntmps3
  go_wp2_with fail
  refine c1.mono ?_
  rintro e w1 ⟨rfl, hb1⟩
  clear c1
  go_wp2_with fail
  refine (C2.out w1 hb1).mono ?_
  rintro e w2 ⟨rfl, hb2'⟩
  have hb2 := hb1.trans (hb2'.mono hb1.size)
  clear C2
  go_wp2
  go_ret
  exact ⟨rfl, hb2.alloc hb2.size _⟩

set_option maxHeartbeats 16000000 in
theorem pickRank_good (blk off cap N n : Nat) (xs : Array (Int × Int)) (w : World) (hx : RdAt w blk off xs) (hN : xs.size = N) (hcap : N ≤ cap) (h0 : wrong xs = 0) (hn : n < N) :
    Calls Try.prog 3 #[.slice (some ⟨blk, off, none⟩) N cap, .int .i64 (n : Int)] w fun e w' => e = .returned (.bool true) ∧ Below w.heap.size w w' := by
  have h60 := wrong_le h0
  have HSL : Sl w (.slice (some ⟨blk, off, none⟩) N cap) xs := by have := Sl.of_rd (cap := cap) hx (by omega); rw [hN] at this; exact this
  have c1 := pickFact_any w
  have C2 := hidp (fun w1 (hb : Below w.heap.size w w1) => nth_some _ n xs w1 (HSL.below hb) h0 (by omega))
  have C3 := hidp (fun key w1 (hb : Below w.heap.size w w1) => rank_good _ key xs w1 (HSL.below hb) h0)
  rw [hN] at h60
  have HX := hidp hx
  have HN := hidp hN
  clear hx hN HSL h0
  go_enter Try.func3, Try.ntmps3
  go_wp2_with fail
  refine c1.mono ?_
  rintro e w1 ⟨rfl, hb1⟩
  clear c1
  go_wp2_with fail
  refine (C2.out w1 hb1).mono ?_
  rintro e w2 ⟨⟨ys, t0, t1, hs, ht, rfl⟩, hb2'⟩
  obtain ⟨p1, p2, p3⟩ := place hs (by rw [HN.out]; exact hn) ht
  have P1 := hidp p1
  have P2 := hidp p2
  have P3 := hidp p3
  have hb2 := hb1.trans (hb2'.mono hb1.size)
  have hb3 : Below w.heap.size w (w2.alloc (.cells #[.int .i64 t0, .int .i64 t1] 25)) := hb2.alloc hb2.size _
  have ct0 : (w2.alloc (.cells #[.int .i64 t0, .int .i64 t1] 25)).cell? ⟨w2.heap.size, 0, none⟩ = some (.int .i64 t0) := by simp
  have ct1 : (w2.alloc (.cells #[.int .i64 t0, .int .i64 t1] 25)).cell? ⟨w2.heap.size, 1, none⟩ = some (.int .i64 t1) := by simp
  clear p1 p2 p3 hs ht hb1 hb2' hb2 C2
  go_wp2
  generalize w2.heap.size = tb at ct0 ct1 ⊢
  generalize w2.alloc (.cells #[.int .i64 t0, .int .i64 t1] 25) = w3 at hb3 ct0 ct1 ⊢
  go_loopg [8, 9, 10, 11] N (fun gg va vb vh vi wr => ∃ i a b q : Nat, vi = .int .i64 i ∧ i + gg = N ∧ va = .int .i64 a ∧ vb = .int .i64 b ∧ a ≤ i ∧ b ≤ i ∧ ∃ h : Bool, vh = .bool h ∧ Hid (a = (pk (blwB t0) xs i).length) ∧ Hid (b = (pk (abvB t0) xs i).length) ∧ Hid (h = hereB xs t0 t1 i) ∧ wr = w3.drewN q)
  case atStart => exact ⟨0, 0, 0, 0, rfl, by omega, rfl, rfl, Nat.le_refl _, Nat.le_refl _, false, rfl, by show _ = _; rw [pk_zero]; rfl, by show _ = _; rw [pk_zero]; rfl, by show _ = _; rfl, rfl⟩
  case round =>
    obtain ⟨i, a, b, q, rfl, hg, rfl, rfl, ha, hb, h, rfl, HA, HB, HH, rfl⟩ := hrel
    by_cases hlt : i < N
    · have hlz : (i : Int) < (N : Int) := by omega
      obtain ⟨x0, x1, hx⟩ : ∃ x y, xs[i]! = (x, y) := ⟨_, _, rfl⟩
      obtain ⟨cx0, cx1⟩ := (RdAt.below HX.out hb3 HX.out.1).2 i (by rw [HN.out]; exact hlt)
      rw [hx] at cx0 cx1
      have hh := hereB_succ (t0 := t0) (t1 := t1) (by rw [HN.out]; exact hlt) hx
      rw [← HH.out] at hh
      have HXX := hidp hx
      have k2' := fun w => eql_item x0 x1 t0 t1 w
      have k3' := fun w => equalIn_item x0 x1 t0 t1 w
      have k4 := guard_item
      obtain ⟨r, hr⟩ : ∃ r, (x0 == t0 && x1 == t1) = r := ⟨_, rfl⟩
      rw [hr] at k2' k3' hh
      have HH2 := hidp hh
      clear hx hr hh HH
      rcases Int.lt_trichotomy x0 t0 with hk | hk | hk
      · obtain ⟨t1', t2', t3'⟩ := tri_lt (x1 := x1) hk
        have EA := hidp (pk_in (by rw [HN.out]; exact hlt) HXX.out t1')
        have EB := hidp (pk_out (by rw [HN.out]; exact hlt) HXX.out t3')
        have hk2 : ¬ t0 < x0 := by omega
        clear t1' t2' t3'
        cases h <;> cases r
        all_goals
          go_wp2_with fail
          go_quiet (fail)
          go_wp2_with fail
          go_quiet (fail)
          go_wp2_with fail
          go_quiet (fail)
          go_wp2
          go_roundg (N - (i + 1))
          case measure => omega
          case rel => exact ⟨i + 1, a + 1, b, _, by go_num, by omega, by go_num, rfl, by omega, by omega, _, rfl, by show _ = _; rw [EA.out, List.length_append, ← HA.out]; rfl, by show _ = _; rw [EB.out]; exact HB.out, by show _ = _; rw [HH2.out]; rfl, by first | rfl | rw [World.drewN_drewN]⟩
      · obtain ⟨t1', t2', t3'⟩ := tri_eq (x1 := x1) hk
        have EA := hidp (pk_out (by rw [HN.out]; exact hlt) HXX.out t1')
        have EB := hidp (pk_out (by rw [HN.out]; exact hlt) HXX.out t3')
        have hk1 : ¬ x0 < t0 := by omega
        have hk2 : ¬ t0 < x0 := by omega
        clear t1' t2' t3' hk
        cases h <;> cases r
        all_goals
          go_wp2_with fail
          go_quiet (fail)
          go_wp2_with fail
          go_quiet (fail)
          go_wp2_with fail
          go_quiet (fail)
          go_wp2
          go_roundg (N - (i + 1))
          case measure => omega
          case rel => exact ⟨i + 1, a, b, _, by go_num, by omega, rfl, rfl, by omega, by omega, _, rfl, by show _ = _; rw [EA.out]; exact HA.out, by show _ = _; rw [EB.out]; exact HB.out, by show _ = _; rw [HH2.out]; rfl, by first | rfl | rw [World.drewN_drewN]⟩
      · obtain ⟨t1', t2', t3'⟩ := tri_gt (x1 := x1) hk
        have EA := hidp (pk_out (by rw [HN.out]; exact hlt) HXX.out t1')
        have EB := hidp (pk_in (by rw [HN.out]; exact hlt) HXX.out t3')
        have hk1 : ¬ x0 < t0 := by omega
        clear t1' t2' t3'
        cases h <;> cases r
        all_goals
          go_wp2_with fail
          go_quiet (fail)
          go_wp2_with fail
          go_quiet (fail)
          go_wp2_with fail
          go_quiet (fail)
          go_wp2
          go_roundg (N - (i + 1))
          case measure => omega
          case rel => exact ⟨i + 1, a, b + 1, _, by go_num, by omega, rfl, by go_num, by omega, by omega, _, rfl, by show _ = _; rw [EA.out]; exact HA.out, by show _ = _; rw [EB.out, List.length_append, ← HB.out]; rfl, by show _ = _; rw [HH2.out]; rfl, by first | rfl | rw [World.drewN_drewN]⟩
    · have hlz : ¬ (i : Int) < (N : Int) := by omega
      obtain rfl : i = N := by omega
      have h1 : h = true := by rw [HH.out]; exact hereB_all HN.out P3.out
      subst h1
      have ea : a = (xs.toList.filter (blwB t0)).length := by have := HA.out; rw [pk_all _ _ _ HN.out] at this; exact this
      have eb : b = (xs.toList.filter (abvB t0)).length := by have := HB.out; rw [pk_all _ _ _ HN.out] at this; exact this
      have l1 : (a : Int) ≤ (n : Int) := by have := P1.out; omega
      have l2 : (b : Int) < (i : Int) - (n : Int) := by have := P2.out; rw [HN.out] at this; omega
      have hb4 := below_drewN hb3 q
      have c3 := C3.out t0 (w3.drewN q) hb4
      rw [← ea] at c3
      have hbb : ((a : Int) == (a : Int)) = true := beq_self_eq_true _
      clear ea eb HA HB HH P1 P2 P3 C3
      go_wp2_with fail
      refine c3.mono ?_
      rintro e w5 ⟨rfl, hb5'⟩
      have hb5 := hb4.trans (hb5'.mono hb4.size)
      clear c3
      go_wp2
      go_ret
      exact ⟨rfl, hb5⟩
theorem pickRank_any (v : Value) (n : Int) (xs : Array (Int × Int)) (w : World) (h : Sl w v xs) (hbig : xs.size ≤ 9223372036854775807) :
    Calls Try.prog 3 #[v, .int .i64 n] w fun e w' => e = .returned (.bool true) ∧ Below w.heap.size w w' := by
  by_cases h0 : wrong xs = 0
  · by_cases hn : n < 0 ∨ (xs.size : Int) ≤ n
    · exact pickRank_bad v n 1 w (fun w1 hb => nth_out v n xs w1 (h.below hb) h0 hn)
    · obtain ⟨m, rfl⟩ : ∃ m : Nat, n = m := ⟨n.toNat, by omega⟩
      obtain ⟨p, cap, rfl, hcap, hp⟩ := id h
      rcases hp with hp | ⟨blk, off, rfl, hr⟩
      · omega
      · exact pickRank_good blk off cap xs.size m xs w hr rfl hcap h0 (by omega)
  · exact pickRank_bad v n (wrong xs) w (fun w1 hb => nth_bad v n xs w1 (h.below hb) hbig _ rfl h0)
#print axioms pickRank_any
end Go.Proofs.Ytdpfijhkbhmkgab
