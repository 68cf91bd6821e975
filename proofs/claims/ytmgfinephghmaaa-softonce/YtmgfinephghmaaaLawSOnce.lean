/-
  The law SoftOnce, walked: each comes once, and none too soon.
-/
import Derived.Test.YtmgfinephghmaaaSoZ
import Derived.Test.YtmgfinephghmaaaBag
import Derived.Test.YtmgfinephghmaaaLawSItem
namespace Go.Proofs.Ytmgfinephghmaaa
open Go.RowKit Go.Sort Go.Proofs Go.Lib

theorem bagS_perm (u v : Value) (l l' : List (Int × Int)) (w : World) (hx : Sl w u l.toArray) (hy : Sl w v l'.toArray) (hp : l.Perm l') (hn : l.length ≤ 1000) :
    Calls Try.prog 10 #[u, v] w fun e w' => e = .returned (.bool true) ∧ Below w.heap.size w w' := by
  have c := bag_any u v l.toArray l'.toArray w hx hy (by simp; omega)
  rw [bagB_intro (by simpa using hp.length_eq) fun z => by simpa using hp.count_eq z] at c
  refine c.mono ?_
  rintro e w' ⟨a, q, b⟩
  exact ⟨a, by rw [b]; exact below_drewN (Below.refl _ _) q⟩
set_option maxHeartbeats 4000000 in
theorem softOnce_bad (rk : Int) (v : Value) (w : World) (h : rk < 0 ∨ 8 < rk) : Calls Try.prog 3 #[.int .i64 rk, v] w fun e w' => e = .returned (.bool true) ∧ Below w.heap.size w w' := by
  have c0 := softFact_any w
  have c1 := fun w1 : World => new_bad (w := w1) h
  rcases h with h | h
  · go_enter Try.func3, Try.ntmps3
    go_wp2_with fail
    refine c0.mono ?_
    rintro e w1 ⟨rfl, hb1⟩
    clear c0
    go_wp2_with fail
    refine (c1 w1).mono ?_
    rintro e w2 ⟨rfl, rfl⟩
    clear c1
    go_wp2
    go_ret
    exact ⟨rfl, hb1⟩
  · have h0 : ¬ (rk < 0) := by omega
    go_enter Try.func3, Try.ntmps3
    go_wp2_with fail
    refine c0.mono ?_
    rintro e w1 ⟨rfl, hb1⟩
    clear c0
    go_wp2_with fail
    refine (c1 w1).mono ?_
    rintro e w2 ⟨rfl, rfl⟩
    clear c1
    go_wp2
    go_ret
    exact ⟨rfl, hb1⟩
/-- What holds while items are pushed. -/
structure OnceA (w w1 : World) (hb r0 : Nat) (p : Option Addr) (N c : Nat) (ins : List (Int × Int)) (ts : List SN) (f : List Nat) (wr : World) : Prop where
  heap : SH wr w1.heap.size hb r0 N ts f
  own : OwnI wr w1.heap.size (.slice p N c) ins
  len : ins.length = N
  out : OutL (.slice p N c) f
  perm : (allS ts).Perm ins
  below : Below w.heap.size w wr
  size : w1.heap.size ≤ wr.heap.size
  room : w.heap.size ≤ w1.heap.size
/-- What holds while they are popped. -/
structure OnceB (w w1 : World) (hb r0 : Nat) (p : Option Addr) (N c : Nat) (ins : List (Int × Int)) (q : Option Addr) (M d : Nat) (outs : List (Int × Int)) (ts : List SN) (f : List Nat) (wr : World) : Prop where
  heap : SH wr w1.heap.size hb r0 N ts f
  own : OwnI wr w1.heap.size (.slice p N c) ins
  len : ins.length = N
  out : OutL (.slice p N c) f
  own2 : OwnI wr w1.heap.size (.slice q M d) outs
  len2 : outs.length = M
  out2 : OutL (.slice q M d) f
  apart : Apart (.slice q M d) (.slice p N c)
  perm : (outs ++ allS ts).Perm ins
  below : Below w.heap.size w wr
  size : w1.heap.size ≤ wr.heap.size
  room : w.heap.size ≤ w1.heap.size
section
variable {w w1 wr w2 : World} {hb r0 : Nat} {p q : Option Addr} {N c M d : Nat} {ins outs : List (Int × Int)} {ts : List SN} {f : List Nat}
theorem OnceA.below' (h : OnceA w w1 hb r0 p N c ins ts f wr) (hb2 : Below wr.heap.size wr w2) : OnceA w w1 hb r0 p N c ins ts f w2 :=
  ⟨h.heap.below hb2, h.own.below hb2, h.len, h.out, h.perm, h.below.trans (hb2.mono h.below.size), Nat.le_trans h.size hb2.size, h.room⟩
theorem OnceB.below' (h : OnceB w w1 hb r0 p N c ins q M d outs ts f wr) (hb2 : Below wr.heap.size wr w2) : OnceB w w1 hb r0 p N c ins q M d outs ts f w2 :=
  ⟨h.heap.below hb2, h.own.below hb2, h.len, h.out, h.own2.below hb2, h.len2, h.out2, h.apart, h.perm, h.below.trans (hb2.mono h.below.size), Nat.le_trans h.size hb2.size, h.room⟩
theorem OnceA.start (h : OnceA w w1 hb r0 p N c ins ts f wr) : OnceB w w1 hb r0 p N c ins none 0 0 [] ts f wr :=
  ⟨h.heap, h.own, h.len, h.out, OwnI.nil _ _, rfl, OutL.nil _, Apart.nil _, by simpa using h.perm, h.below, h.size, h.room⟩
theorem OnceA.counts (h : OnceA w w1 hb r0 p N c ins ts f wr) : manyS ts = N := by unfold manyS; rw [h.perm.length_eq, h.len]
theorem OnceB.counts (h : OnceB w w1 hb r0 p N c ins q M d outs ts f wr) : M + manyS ts = N := by
  unfold manyS
  have := h.perm.length_eq
  rw [List.length_append, h.len, h.len2] at this
  exact this
/-- An item was pushed: w2 is the heap's, wa has the list grown. -/
theorem OnceA.pushed (h : OnceA w w1 hb r0 p N c ins ts f wr) {x0 x1 : Int} {f' : List Nat} (h2 : SH w2 w1.heap.size hb r0 (N + 1) (pushS r0 (x0, x1) ts) f') (s : Step f f' wr w2) (o : Obj) :
    OwnI (w2.alloc o) w1.heap.size (.slice p N c) ins ∧ w1.heap.size ≤ w2.heap.size ∧ ∀ v' wa, OwnI wa w1.heap.size v' (ins ++ [(x0, x1)]) → (w2.alloc o).grownBy wa (Value.slice p N c).ownBlock → (v'.ownBlock = (Value.slice p N c).ownBlock ∨ v'.ownBlock = some (w2.alloc o).heap.size) →
      ∃ p' c', v' = .slice p' (N + 1) c' ∧ OnceA w w1 hb r0 p' (N + 1) c' (ins ++ [(x0, x1)]) (pushS r0 (x0, x1) ts) f' wa := by
  obtain ⟨k1, k2⟩ := h.own.step h.out s
  have hs2 : w1.heap.size ≤ w2.heap.size := Nat.le_trans h.size s.chg.size
  have hb2 : Below w.heap.size w w2 := h.below.trans ((h.heap.step h.size s).mono h.room)
  refine ⟨k1.alloc o, hs2, fun v' wa a1 a2 a3 => ?_⟩
  obtain ⟨p', c', e⟩ := OwnE.form (E := EI) (show OwnE EI wa w1.heap.size v' _ from a1)
  rw [List.length_append, h.len] at e
  replace e : v' = .slice p' (N + 1) c' := e
  subst e
  obtain ⟨z1, z2⟩ := (h2.alloc o).grown k2 a2 a3
  have hba : Below w.heap.size w wa := (hb2.alloc hb2.size o).trans (below_of_grown (k1.alloc o) a2 h.room (by simp; omega))
  refine ⟨p', c', rfl, z1, a1, by rw [List.length_append, h.len]; rfl, z2, ?_, hba, ?_, h.room⟩
  · have := (h.heap.good.push (x0, x1)).2
    refine this.trans ?_
    exact (List.Perm.cons _ h.perm).trans (List.perm_append_comm (l₁ := [(x0, x1)]))
  · have := a2.size; simp at this; omega
/-- An item was popped: w2 is the heap's, wa has the list grown. -/
theorem OnceB.popped (h : OnceB w w1 hb r0 p N c ins q M d outs ts f wr) {x0 x1 : Int} {f' : List Nat} (hp : ((x0, x1) :: allS (popS ts)).Perm (allS ts)) (h2 : SH w2 w1.heap.size hb r0 N (popS ts) f') (s : Step f f' wr w2) (o o' : Obj) :
    OwnI ((w2.alloc o).alloc o') w1.heap.size (.slice q M d) outs ∧ w1.heap.size ≤ w2.heap.size ∧ ∀ v' wa, OwnI wa w1.heap.size v' (outs ++ [(x0, x1)]) → ((w2.alloc o).alloc o').grownBy wa (Value.slice q M d).ownBlock → (v'.ownBlock = (Value.slice q M d).ownBlock ∨ v'.ownBlock = some ((w2.alloc o).alloc o').heap.size) →
      ∃ q' d', v' = .slice q' (M + 1) d' ∧ OnceB w w1 hb r0 p N c ins q' (M + 1) d' (outs ++ [(x0, x1)]) (popS ts) f' wa := by
  obtain ⟨k1, k2⟩ := h.own.step h.out s
  obtain ⟨k3, k4⟩ := h.own2.step h.out2 s
  have hs2 : w1.heap.size ≤ w2.heap.size := Nat.le_trans h.size s.chg.size
  have hb2 : Below w.heap.size w w2 := h.below.trans ((h.heap.step h.size s).mono h.room)
  refine ⟨(k3.alloc o).alloc o', hs2, fun v' wa a1 a2 a3 => ?_⟩
  obtain ⟨q', d', e⟩ := OwnE.form (E := EI) (show OwnE EI wa w1.heap.size v' _ from a1)
  rw [List.length_append, h.len2] at e
  replace e : v' = .slice q' (M + 1) d' := e
  subst e
  obtain ⟨z1, z2⟩ := ((h2.alloc o).alloc o').grown k4 a2 a3
  have hba : Below w.heap.size w wa := ((hb2.alloc hb2.size o).alloc (by have := hb2.size; simp; omega) o').trans (below_of_grown ((k3.alloc o).alloc o') a2 h.room (by simp; omega))
  refine ⟨q', d', rfl, z1, ((k1.alloc o).alloc o').kept a2 h.apart.symm, h.len, k2, a1, by rw [List.length_append, h.len2]; rfl, z2, (h.apart.symm.grown ((k1.alloc o).alloc o') a3).symm, ?_, hba, ?_, h.room⟩
  · rw [List.append_assoc]
    exact (List.Perm.append_left outs hp).trans h.perm
  · have := a2.size; simp at this; omega
end
set_option maxHeartbeats 8000000 in
set_option maxRecDepth 4000 in
theorem softOnce_some (r0 : Nat) (p : Option Addr) (n cap : Nat) (xs : Array (Int × Int)) (w : World) (h8 : r0 ≤ 8) (h : Sl w (.slice p n cap) xs) : Calls Try.prog 3 #[.int .i64 (r0 : Int), .slice p n cap] w fun e w' => e = .returned (.bool true) ∧ Below w.heap.size w w' := by
  have HX : Hid (∀ w1, Below w.heap.size w w1 → ∀ i, i < n → ∃ blk off x0 x1, p = some ⟨blk, off, none⟩ ∧ blk < w.heap.size ∧ w1.cell? ⟨blk, off + i * 2, none⟩ = some (.int .i64 x0) ∧ w1.cell? ⟨blk, off + i * 2 + 1, none⟩ = some (.int .i64 x1)) := fun w1 hb1 i hi => by
    obtain ⟨blk, off, x0, x1, q1, q2, q3, q4, _⟩ := h.reads i hi
    exact ⟨blk, off, x0, x1, q1, q2, (hb1.cell (p := ⟨blk, off + i * 2, none⟩) q2).trans q3, (hb1.cell (p := ⟨blk, off + i * 2 + 1, none⟩) q2).trans q4⟩
  have c0 := softFact_any w
  clear h
  go_enter Try.func3, Try.ntmps3
  go_wp2_with fail
  refine c0.mono ?_
  rintro e w1 ⟨rfl, hb1⟩
  clear c0
  go_wp2_with fail
  refine (sh_new (w := w1) h8).mono ?_
  rintro e w2 ⟨hb, rfl, h2, hb2⟩
  have HA : Hid (OnceA w w1 hb r0 none 0 0 [] [] [hb] w2) := ⟨h2, OwnI.nil _ _, rfl, OutL.nil _, List.Perm.refl _, hb1.trans (hb2.mono hb1.size), hb2.size, hb1.size⟩
  clear hb1 hb2 h2
  go_wp2_with fail
  go_loopg [8, 10] 300 (fun gg v8 v10 wr => ∃ (i N c : Nat) (q : Option Addr) (ins : List (Int × Int)) (ts : List SN) (f : List Nat), v8 = .slice q N c ∧ v10 = .int .i64 i ∧ N ≤ i ∧ i ≤ 300 ∧ 300 - i ≤ gg ∧ OnceA w w1 hb r0 q N c ins ts f wr)
  case atStart => exact ⟨0, 0, 0, none, [], [], _, rfl, rfl, Nat.le_refl _, by omega, by omega, HA.out⟩
  case round =>
    clear HA
    obtain ⟨i, N, c, q, ins, ts, f, rfl, rfl, hNi, hi, hgg, hA⟩ := hrel
    by_cases hc : i < n ∧ i < 300
    · obtain ⟨hlt, h9⟩ := hc
      have hz : (i : Int) < (n : Int) := by omega
      have hz9 : (i : Int) < 300 := by omega
      obtain ⟨blk, off, x0, x1, rfl, hbl, c0, c1⟩ := HX.out wr hA.below i hlt
      have HR := hid hA
      clear hA
      by_cases hx : wrongS1 N x0 x1 = 0
      · have CP := hid (sh_push HR.out.heap HR.out.size hx)
        go_wp2_with fail
        refine CP.out.mono ?_
        rintro e w2 ⟨rfl, f2, h2, s2⟩
        obtain ⟨k1, k2, k3⟩ := HR.out.pushed h2 s2 (.cells #[.int .i64 x0, .int .i64 x1] 31)
        have hb2 : Below w.heap.size w w2 := HR.out.below.trans ((HR.out.heap.step HR.out.size s2).mono HR.out.room)
        obtain ⟨blk', off', x0', x1', e1, _, c0', c1'⟩ := HX.out w2 hb2 i hlt
        have hil : ins.length ≤ 1000 := by rw [HR.out.len]; omega
        obtain ⟨rfl, rfl⟩ : blk = blk' ∧ off = off' := by simpa using e1
        obtain ⟨rfl, rfl⟩ : x0 = x0' ∧ x1 = x1' := by
          obtain ⟨blk2, off2, y0, y1, e2, q2, _, _⟩ := HX.out wr HR.out.below i hlt
          have z0 := (HR.out.below.trans ((HR.out.heap.step HR.out.size s2).mono HR.out.room)).cell (p := ⟨blk, off + i * 2, none⟩) hbl
          have z1 := (HR.out.below.trans ((HR.out.heap.step HR.out.size s2).mono HR.out.room)).cell (p := ⟨blk, off + i * 2 + 1, none⟩) hbl
          have y0 := HR.out.below.cell (p := ⟨blk, off + i * 2, none⟩) hbl
          have y1 := HR.out.below.cell (p := ⟨blk, off + i * 2 + 1, none⟩) hbl
          have t0 := (c0'.symm.trans z0).trans (y0.symm.trans c0)
          have t1 := (c1'.symm.trans z1).trans (y1.symm.trans c1)
          simp only [Option.some.injEq, Value.int.injEq, true_and] at t0 t1
          exact ⟨t0.symm, t1.symm⟩
        have HK1 := hid k1
        have HK3 := hid k3
        clear k1 k3 h2 s2 hb2 HR CP hx e1 c0 c1
        go_wp2_with (first | (at_builtin; refine wpList_append_item rfl (.tmp 47) (.tmp 52) rfl w1.heap.size (.slice q N c) ins (x0, x1) ⟨w2.heap.size, 0, none⟩ 1 rfl HK1.out rfl (by simp) (by simp [Addr.add]) (by omega) (by simp; omega) ?_; intro v' wa hA' hgA hkA))
        obtain ⟨q', c', rfl, hnew⟩ := HK3.out _ _ hA' hgA hkA
        have HW := hid hnew
        have HM := hid (sh_many hnew.heap)
        have hcnt := hnew.counts
        rw [hcnt] at HM
        clear hnew hA' hgA hkA HK1 HK3 hcnt c0' c1'
        go_wp2_with fail
        refine HM.out.mono ?_
        rintro e w3 ⟨rfl, _, hb3⟩
        have H3 := hid (HW.out.below' hb3)
        clear HM HW hb3
        go_wp2
        go_roundg (300 - (i + 1))
        case measure => omega
        case rel => exact ⟨i + 1, N + 1, c', q', _, _, _, rfl, by go_num, by omega, by omega, Nat.le_refl _, H3.out⟩
      · have CP := hid (sh_full HR.out.heap hx)
        obtain ⟨ev, hev⟩ : ∃ ev : Int, errV (wrongS1 N x0 x1) = .iface 37 (.int .i64 ev) := ⟨_, by unfold errV; rw [if_neg hx]⟩
        rw [hev] at CP
        clear hev hx
        go_wp2_with fail
        refine CP.out.mono ?_
        rintro e w2 ⟨rfl, _, hb2⟩
        have HW := hid (HR.out.below' hb2)
        have HM := hid (sh_many HW.out.heap)
        have hcnt := HW.out.counts
        rw [hcnt] at HM
        clear hb2 HR CP hcnt c0 c1
        go_wp2_with fail
        refine HM.out.mono ?_
        rintro e w3 ⟨rfl, _, hb3⟩
        have H3 := hid (HW.out.below' hb3)
        clear HM HW hb3
        go_wp2
        go_roundg (300 - (i + 1))
        case measure => omega
        case rel => exact ⟨i + 1, N, c, q, _, _, _, rfl, by go_num, by omega, by omega, Nat.le_refl _, H3.out⟩
    · have hN : N ≤ 300 := by omega
      have HB := hid hA.start
      clear hA HX
      have hcond : (¬ ((i : Int) < (n : Int))) ∨ ((i : Int) < (n : Int) ∧ ¬ ((i : Int) < 300)) := by omega
      clear hc
      rcases hcond with hz | ⟨hz, hz9⟩
      all_goals
        go_wp2_with fail
        go_loopg [9] N (fun gg v9 wr2 => ∃ (M d : Nat) (q2 : Option Addr) (outs : List (Int × Int)) (ts2 : List SN) (f2 : List Nat), v9 = .slice q2 M d ∧ M ≤ N ∧ N - M ≤ gg ∧ OnceB w w1 hb r0 q N c ins q2 M d outs ts2 f2 wr2)
        case atStart => exact ⟨0, 0, none, [], ts, f, rfl, Nat.zero_le _, by omega, HB.out⟩
        case round =>
          clear HB
          obtain ⟨M, d, q2, outs, ts2, f2, rfl, hM, hgg2, hB⟩ := hrel
          have hcnt := hB.counts
          have HM := hid (sh_many hB.heap)
          obtain ⟨m, hm⟩ : ∃ m, manyS ts2 = m := ⟨_, rfl⟩
          rw [hm] at hcnt HM
          have HMm := hid hm
          have HR := hid hB
          clear hB hm
          by_cases hm0 : m = 0
          · subst hm0
            obtain rfl : M = N := by omega
            clear hcnt
            go_wp2_with fail
            refine HM.out.mono ?_
            rintro e w3 ⟨rfl, _, hb3⟩
            have H3 := hid (HR.out.below' hb3)
            have HM2 := hid (sh_many H3.out.heap)
            rw [HMm.out] at HM2
            clear hb3 HR HM
            go_wp2_with fail
            refine HM2.out.mono ?_
            rintro e w4 ⟨rfl, _, hb4⟩
            have H4 := hid (H3.out.below' hb4)
            have CB := hid (bagS_perm (.slice q2 M d) (.slice q M c) outs ins w4 (OwnI.sl H4.out.own2) (OwnI.sl H4.out.own) (by
              have h1 := H4.out.perm
              have h2 : allS ts2 = [] := List.length_eq_zero_iff.1 HMm.out
              rw [h2, List.append_nil] at h1
              exact h1) (by rw [H4.out.len2]; omega))
            clear hb4 H3 HM2
            go_wp2_with fail
            refine CB.out.mono ?_
            rintro e w5 ⟨rfl, hb5⟩
            have H5 : Hid (Below w.heap.size w w5) := H4.out.below.trans (hb5.mono H4.out.below.size)
            clear CB hb5 H4
            go_wp2
            go_ret
            exact ⟨rfl, H5.out⟩
          · have hmz : (0 : Int) < (m : Int) := by omega
            have hMz : (M : Int) < (N : Int) := by omega
            have hne : ts2 ≠ [] := by
              rintro rfl
              exact hm0 HMm.out.symm
            go_wp2_with fail
            refine HM.out.mono ?_
            rintro e w3 ⟨rfl, _, hb3⟩
            have H3 := hid (HR.out.below' hb3)
            obtain ⟨k, r, m', x0, x1, is, a, b, _, hperm, hxk, _, _, cp⟩ := sh_pop H3.out.heap H3.out.size hne
            have CP := hid cp
            have HPM := hid hperm
            have hkx : ¬ (k < x0) := by omega
            clear cp hperm HR HM hb3 hne
            go_wp2_with fail
            refine CP.out.mono ?_
            rintro e w4 ⟨rfl, f4, h4, s4⟩
            obtain ⟨k1, k2, k3⟩ := H3.out.popped HPM.out h4 s4 (.cells #[.int .i64 x0, .int .i64 x1] 31) (.cells #[.int .i64 x0, .int .i64 x1] 31)
            have hol : outs.length ≤ 1000 := by rw [H3.out.len2]; omega
            have HK1 := hid k1
            have HK3 := hid k3
            clear k1 k3 h4 s4 CP H3 HPM
            go_wp2_with (first | (at_builtin; refine wpList_append_item rfl (.tmp 83) (.tmp 85) rfl w1.heap.size (.slice q2 M d) outs (x0, x1) ⟨w4.heap.size + 1, 0, none⟩ 1 rfl HK1.out rfl (by simp) (by simp [Addr.add]) (by omega) (by simp; omega) ?_; intro v' wa hA' hgA hkA))
            obtain ⟨q', d', rfl, hnew⟩ := HK3.out _ _ hA' hgA hkA
            have HW := hid hnew
            clear hnew hA' hgA hkA HK1 HK3
            go_roundg (N - (M + 1))
            case measure => omega
            case rel => exact ⟨M + 1, d', q', _, _, _, rfl, by omega, Nat.le_refl _, HW.out⟩
theorem softOnce_any (rk : Int) (v : Value) (xs : Array (Int × Int)) (w : World) (h : Sl w v xs) : Calls Try.prog 3 #[.int .i64 rk, v] w fun e w' => e = .returned (.bool true) ∧ Below w.heap.size w w' := by
  obtain ⟨p, cap, rfl, hc, hp⟩ := id h
  by_cases h1 : rk < 0 ∨ 8 < rk
  · exact softOnce_bad rk _ w h1
  · obtain ⟨r0, rfl⟩ : ∃ r0 : Nat, rk = r0 := ⟨rk.toNat, by omega⟩
    exact softOnce_some r0 p _ cap xs w (by omega) h
#print axioms softOnce_any
end Go.Proofs.Ytmgfinephghmaaa
