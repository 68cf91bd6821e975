/-
  Package soft: Pop, walked.
-/
import Derived.Test.YtdpfijhkbhmkgaaDoorSoR
namespace Go.Proofs.YtdpfijhkbhmkgaaDoor
open Go.RowKit Go.Sort Go.Proofs Go.Lib

theorem first_item {w : World} {g L cap : Nat} {x0 x1 : Int} {is : List (Int × Int)} (h : OwnE EI w 0 (.slice (some ⟨g, 0, none⟩) L cap) ((x0, x1) :: is)) : w.cell? ⟨g, 0, none⟩ = some (.int .i64 x0) ∧ w.cell? ⟨g, 1, none⟩ = some (.int .i64 x1) := by
  obtain ⟨cur, rest, _, _, hg, _, _, _, ht⟩ := h.rest
  have q := lie_block (w := w) (b := g) (pre := []) (cs := EI.flat ((x0, x1) :: is)) (post := rest) hg (by rw [ht]; rfl)
  exact ⟨by simpa using q 0 (.int .i64 x0) rfl, by simpa using q 1 (.int .i64 x1) rfl⟩
theorem takeS_fill {k : Int} {r m : Nat} {x : Int × Int} {is : List (Int × Int)} {a b : SN} (h1 : 2 * is.length ≤ m) (h2 : a.none? = false ∨ b.none? = false) : takeS (.node k r m (x :: is) a b) = fillS (.node k r m is a b) := by
  simp only [takeS, List.drop_succ_cons, List.drop_zero]
  exact if_pos ⟨h1, h2⟩
theorem takeS_stay {k : Int} {r m : Nat} {x : Int × Int} {is : List (Int × Int)} {a b : SN} (h1 : ¬ (2 * is.length ≤ m ∧ (a.none? = false ∨ b.none? = false))) (h2 : is ≠ []) : takeS (.node k r m (x :: is) a b) = .node k r m is a b := by
  simp only [takeS, List.drop_succ_cons, List.drop_zero]
  rw [if_neg h1, if_neg h2]
theorem takeS_gone {k : Int} {r m : Nat} {x : Int × Int} {a b : SN} (h1 : a.none? = true ∧ b.none? = true) : takeS (.node k r m [x] a b) = .nil := by
  simp only [takeS, List.drop_succ_cons, List.drop_zero]
  rw [if_neg (by rw [h1.1, h1.2]; simp)]
  simp
theorem putS_stay (ts : List SN) (i : Nat) {t : SN} (h : t.none? = false) : putS ts i t = ts.set i t := by unfold putS; rw [h]; rfl
theorem putS_gone (ts : List SN) (i : Nat) : putS ts i .nil = ts.eraseIdx i := rfl
set_option maxHeartbeats 16000000 in
set_option maxRecDepth 100000 in
theorem pop_some {w : World} {hb r0 n : Nat} {ts : List SN} {f : List Nat} {at_ : Nat} {k : Int} {r m : Nat} {x0 x1 : Int} {is : List (Int × Int)} {a b : SN} (hH : HAt w hb r0 n ts f) (hf : f.Nodup) (hG : GoodS r0 n ts) (hall : (allS ts).length ≤ 400) (hn : n ≤ 400) (eat : atS ts ts.length = at_) (e : ts[at_]? = some (.node k r m ((x0, x1) :: is) a b)) :
    Calls Tryd.prog 9 #[.pointer (some ⟨hb, 0, none⟩)] w fun e w' => e = .returned (.tuple #[.agg #[.int .i64 x0, .int .i64 x1], .int .i64 k, .nilIface]) ∧ ∃ f', HAt w' hb r0 n (popS ts) f' ∧ Step f f' w w' := by
  have hlt := hH.lt
  obtain ⟨g, cap, nb, gi, ci, pa, pb, ps, fa, fb, fr, hA⟩ := pop_open hH e
  have hai : at_ < ts.length := (List.getElem?_eq_some_iff.1 e).1
  have hLs : ts.length ≤ 1000 := by have h1 := len_room ts; have h2 := hG.room; omega
  have hpop : popS ts = putS ts at_ (takeS (.node k r m ((x0, x1) :: is) a b)) := by unfold popS; rw [eat, e]; rfl
  have hgood := (hG.good _ (List.mem_of_getElem? e)).1
  have hsz : (is ++ (a.all ++ b.all)).length ≤ 1000 := by
    have h1 : ((SN.node k r m ((x0, x1) :: is) a b).all).length ≤ (allS ts).length := by
      rw [split_at ts at_ e, allS_append, allS_cons]
      simp only [List.length_append]
      omega
    rw [SN.all_node] at h1
    simp only [List.length_append, List.length_cons] at h1 ⊢
    omega
  obtain ⟨tv, ps', fn', h1, h2, h3, h4⟩ := hH
  have hheads : ∀ i t, ts[i]? = some t → ∃ nb, w.cell? ⟨g, i, none⟩ = some (.pointer (some ⟨nb, 0, none⟩)) ∧ w.cell? ⟨nb, 1, none⟩ = some (.int .i64 t.key) ∧ nb < w.heap.size := by
    have e1 : tv = .slice (some ⟨g, 0, none⟩) ts.length cap := by
      have q1 := h1.cells.2.2
      have q2 := hA.head.cells.2.2
      exact Option.some.inj (q1.symm.trans q2)
    subst e1
    intro i t e
    obtain ⟨nb, q1, q2, q3⟩ := heads_of h3 h2 (fun t z => (hG.good t z).2) i t e
    refine ⟨nb, q2, q3, ?_⟩
    rcases Nat.lt_or_ge nb w.heap.size with z | z
    · exact z
    · simp [World.cell?, Array.getElem?_eq_none z] at q3
  clear h1 h2 h3 h4
  obtain ⟨L, hL⟩ : ∃ L, ts.length = L := ⟨_, rfl⟩
  rw [hL] at hA hai hLs eat
  obtain ⟨li, hli⟩ : ∃ li, is.length = li := ⟨_, rfl⟩
  rw [hli] at hA
  have hb_lt := hA.head.lt
  have hnb_lt := hA.node.lt
  have hg_lt : g < w.heap.size := own_lt hA.own g (by simp [Value.ownBlock])
  have hgi_lt : gi < w.heap.size := (World.ownsRow.lt hA.its gi rfl).2
  obtain ⟨N, hN⟩ : ∃ N, w.heap.size = N := ⟨_, rfl⟩
  have hal := heap_alloc_new w (.cells #[.int .i64 0, .int .i64 0] 30)
  have hba : Below w.heap.size w (w.alloc (.cells #[.int .i64 0, .int .i64 0] 30)) := (Below.refl _ w).alloc (Nat.le_refl _) _
  have LEAST : Hid (Calls Tryd.prog 27 #[.pointer (some ⟨hb, 0, none⟩)] (w.alloc (.cells #[.int .i64 0, .int .i64 0] 30)) fun e w' => e = .returned (.int .i64 (at_ : Int)) ∧ w'.cell? ⟨hb, 2, none⟩ = some (.slice (some ⟨g, 0, none⟩) L cap) ∧ w'.cell? ⟨g, at_, none⟩ = some (.pointer (some ⟨nb, 0, none⟩)) ∧ w'.cell? ⟨nb, 0, none⟩ = some (.slice (some ⟨gi, 0, none⟩) (li + 1) ci) ∧ w'.cell? ⟨nb, 1, none⟩ = some (.int .i64 k) ∧ w'.cell? ⟨gi, 0, none⟩ = some (.int .i64 x0) ∧ w'.cell? ⟨gi, 1, none⟩ = some (.int .i64 x1) ∧ w'.heap.size = N + 1 ∧ Hid (Below w.heap.size w w' ∧ w'.heap[w.heap.size]? = some (.cells #[.int .i64 0, .int .i64 0] 30 (0, 0)))) := by
    refine (least_any (w := w.alloc (.cells #[.int .i64 0, .int .i64 0] 30)) (hA.head.kept (hba.block hb hb_lt)) hL (by omega) hLs (fun i t q => ?_)).mono ?_
    · obtain ⟨nb, q1, q2, q3⟩ := hheads i t q
      exact ⟨nb, by rw [hba.cell (p := ⟨g, i, none⟩) hg_lt]; exact q1, by rw [hba.cell (p := ⟨nb, 1, none⟩) q3]; exact q2⟩
    · rintro e' w' ⟨rfl, q, rfl⟩
      have hbq := below_drewN' hba q
      have q1 := own_cell hA.own hA.spot
      obtain ⟨i0, i1⟩ := first_item hA.its
      obtain ⟨n0, n1, _⟩ := hA.node.cells
      refine ⟨by rw [eat], by rw [hbq.cell (p := ⟨hb, 2, none⟩) hb_lt]; exact hA.head.cells.2.2, by rw [hbq.cell (p := ⟨g, at_, none⟩) hg_lt]; exact q1, by rw [hbq.cell (p := ⟨nb, 0, none⟩) hnb_lt]; exact n0, by rw [hbq.cell (p := ⟨nb, 1, none⟩) hnb_lt]; exact n1, by rw [hbq.cell (p := ⟨gi, 0, none⟩) hgi_lt]; exact i0, by rw [hbq.cell (p := ⟨gi, 1, none⟩) hgi_lt]; exact i1, ?_, hbq, hal⟩
      show (w.alloc _).heap.size = _
      simp [hN]
  obtain ⟨_, _, q2⟩ := hA.head.cells
  have HA := hid hA
  have HE := hid e
  have HP := hid hpop
  have HG := hid hgood
  have HS := hid hsz
  have HF := hid hf
  have HLT := hid hlt
  have HLI := hid hli
  have HLL := hid hL
  have hLz : ¬ (L = 0) := by omega
  have hLz2 : ¬ ((L : Int) = 0) := by omega
  have haz : (at_ : Int) < (L : Int) := by omega
  have hb_N : hb < N := by omega
  have hnb_N : nb < N := by omega
  have hgi_N : gi < N := by omega
  have hnb_1 : nb < N + 1 := by omega
  have hgi_1 : gi < N + 1 := by omega
  have hnb_2 : ¬ nb = N + 1 := by omega
  have hgi_2 : ¬ gi = N + 1 := by omega
  clear hA e hpop hgood hsz hf hlt hal hba hheads hG hall eat hli hL hnb_lt hg_lt hgi_lt
  go_enter Tryd.func9, Tryd.ntmps9
  go_wp2_with fail
  refine LEAST.out.mono ?_
  rintro e W1 ⟨rfl, c1, c2, c3, c4, c5, c6, c7, HW1⟩
  clear LEAST
  have hliz : (0 : Int) < (li : Int) + 1 := by omega
  have hlin : 0 < li + 1 := by omega
  have DEL : Hid (Calls Tryd.prog 28 #[.slice (some ⟨gi, 0, none⟩) (li + 1) ci, .int .i64 0, .int .i64 1] (W1.alloc (.cells #[.int .i64 x0, .int .i64 x1] 30)).drew fun e w' => e = .returned (.slice (some ⟨gi, 0, none⟩) li ci) ∧ w'.cell? ⟨nb, 0, none⟩ = some (.slice (some ⟨gi, 0, none⟩) (li + 1) ci) ∧ w'.frozen? ⟨nb, 0, none⟩ = false ∧ Hid (Nb (w'.setCell ⟨nb, 0, none⟩ (.slice (some ⟨gi, 0, none⟩) li ci)) nb (.slice (some ⟨gi, 0, none⟩) li ci) k r m (.pointer pa) (.pointer pb) ∧
      PopB w (w'.setCell ⟨nb, 0, none⟩ (.slice (some ⟨gi, 0, none⟩) li ci)) hb r0 n ts f at_ k r m x0 x1 is a b g L cap nb gi ps (nb :: ([gi] ++ (fa ++ fb))) fr)) := by
    obtain ⟨hbw, hres⟩ := HW1.out
    have hbW : Below w.heap.size w (W1.alloc (.cells #[.int .i64 x0, .int .i64 x1] 30)).drew := (hbw.alloc hbw.size _).drew
    have hits : OwnE EI (W1.alloc (.cells #[.int .i64 x0, .int .i64 x1] 30)).drew 0 (.slice (some ⟨gi, 0, none⟩) (li + 1) ci) ((x0, x1) :: is) := OwnE.below HA.out.its hbW
    have hr2 : (W1.alloc (.cells #[.int .i64 x0, .int .i64 x1] 30)).drew.heap[w.heap.size]? = some (.cells #[.int .i64 0, .int .i64 0] 30 (0, 0)) := (Below.heap_alloc W1 _ _ (by rw [c7, hN]; omega)).trans hres
    have hi2 : (W1.alloc (.cells #[.int .i64 x0, .int .i64 x1] 30)).drew.heap[w.heap.size + 1]? = some (.cells #[.int .i64 x0, .int .i64 x1] 30 (0, 0)) := by
      have := heap_alloc_new W1 (.cells #[.int .i64 x0, .int .i64 x1] 30)
      rw [c7, ← hN] at this
      exact this
    refine (deleteI (i := 0) (j := 1) hits (by omega) (by omega)).mono ?_
    rintro e w' ⟨rfl, d1, d2⟩
    rw [show 0 + (li + 1 - 1) = li by omega] at d1 ⊢
    obtain ⟨z1, z2, z3⟩ := HA.out.cut HF.out HLT.out hbW hr2 hi2 d2 (l3 := li) (c3 := ci) (by simpa using d1)
    exact ⟨rfl, z1.cells.1, z1.fr 0, z2, z3⟩
  go_wp2_with fail
  go_region
  go_wp2_with fail
  refine DEL.out.mono ?_
  rintro e w3 ⟨rfl, d1, d2, HD⟩
  clear DEL HW1 c1 c2 c3 c4 c5 c6 c7
  go_wp2_with fail
  generalize hw4 : w3.setCell _ _ = w4
  rw [hw4] at HD
  clear hw4 d1 d2
  have HNb : Hid (Nb w4 nb (.slice (some ⟨gi, 0, none⟩) li ci) k r m (.pointer pa) (.pointer pb)) := HD.out.1
  have HB4 := hid HD.out.2
  clear HD
  obtain ⟨c0, _, _, c3, _, _⟩ := HNb.out.cells
  -- what the parts are
  have hpa : a.none? = true ↔ pa = none := by
    obtain ⟨p, q1, q2⟩ := HA.out.left.ptr
    obtain rfl : pa = p := by simpa using q1
    exact q2
  have hpb : b.none? = true ↔ pb = none := by
    obtain ⟨p, q1, q2⟩ := HA.out.right.ptr
    obtain rfl : pb = p := by simpa using q1
    exact q2
  have HPA := hid hpa
  have HPB := hid hpb
  clear hpa hpb
  have ENDS : Hid (∀ w5 : World, ∀ t' ft', Step (nb :: ([gi] ++ (fa ++ fb))) ft' w4 w5 → NdAt w5 t' (.pointer (some ⟨nb, 0, none⟩)) ft' → popS ts = ts.set at_ t' → w5.cell? ⟨N, 0, none⟩ = some (.int .i64 0) ∧ w5.cell? ⟨N, 1, none⟩ = some (.int .i64 0) ∧ w5.frozen? ⟨N, 0, none⟩ = false ∧ w5.frozen? ⟨N, 1, none⟩ = false ∧ w5.cell? ⟨N + 1, 0, none⟩ = some (.int .i64 x0) ∧ w5.cell? ⟨N + 1, 1, none⟩ = some (.int .i64 x1) ∧
      Hid (∀ u v, ∃ f', HAt ((w5.setCell ⟨N, 0, none⟩ u).setCell ⟨N, 1, none⟩ v) hb r0 n (popS ts) f' ∧ Step f f' w ((w5.setCell ⟨N, 0, none⟩ u).setCell ⟨N, 1, none⟩ v))) := by
    intro w5 t' ft' q1 q2 q3
    obtain ⟨z1, z2, z3⟩ := HB4.out.stays q1 q2
    rw [hN] at z1 z2 z3
    rw [q3]
    refine ⟨?_, ?_, ?_, ?_, ?_, ?_, z3⟩ <;> simp [World.cell?, World.frozen?, z1, z2]
  have hl1 : li ≤ 1000 := by
    have h1 := HS.out
    have h2 := HLI.out
    simp only [List.length_append] at h1
    omega
  have hpn : ∀ p : Option Addr, p.isSome = false ↔ p = none := fun p => by cases p <;> simp
  by_cases hc1 : 2 * li ≤ m
  · have hcz : 2 * (li : Int) ≤ (m : Int) := by omega
    cases hp : (pa.isSome || pb.isSome) with
    | true =>
      have hparts : a.none? = false ∨ b.none? = false := by
        rcases Bool.or_eq_true _ _ ▸ hp with q | q
        · left
          cases z : a.none?
          · rfl
          · rw [HPA.out.1 z] at q; simp at q
        · right
          cases z : b.none?
          · rfl
          · rw [HPB.out.1 z] at q; simp at q
      have ch : ∀ q, Calls Tryd.prog 29 #[.pointer (some ⟨nb, 0, none⟩)] (w4.drewN q) fun e w' => e = .returned (.bool true) ∧ w' = w4.drewN q := fun q => by
        have := hasPart_any (w := w4.drewN q) HNb.out
        rw [hp] at this
        exact this
      have FILL : Hid (∀ q, Calls Tryd.prog 30 #[.pointer (some ⟨nb, 0, none⟩)] (w4.drewN q) fun e w' => e = .returned (.tuple #[]) ∧ ∃ p l c, w'.cell? ⟨nb, 0, none⟩ = some (.slice p l c) ∧ ¬ (l = 0) ∧ ¬ ((l : Int) = 0) ∧ w'.cell? ⟨N, 0, none⟩ = some (.int .i64 0) ∧ w'.cell? ⟨N, 1, none⟩ = some (.int .i64 0) ∧ w'.frozen? ⟨N, 0, none⟩ = false ∧ w'.frozen? ⟨N, 1, none⟩ = false ∧ w'.cell? ⟨N + 1, 0, none⟩ = some (.int .i64 x0) ∧ w'.cell? ⟨N + 1, 1, none⟩ = some (.int .i64 x1) ∧
          Hid (∀ u v, ∃ f', HAt ((w'.setCell ⟨N, 0, none⟩ u).setCell ⟨N, 1, none⟩ v) hb r0 n (popS ts) f' ∧ Step f f' w ((w'.setCell ⟨N, 0, none⟩ u).setCell ⟨N, 1, none⟩ v))) := by
        intro q
        obtain ⟨h1, h2, h3, h4, h5⟩ := good_node.1 HG.out
        have hmost : is.length ≤ mostR r0 r := by have := h1.most; simp only [List.length_cons] at this; omega
        have HO : OpenN r0 k r m is a b := ⟨h1.want, hmost, fun y hy => h1.low y (List.mem_cons_of_mem _ hy), fun q y hy => h1.same q y (List.mem_cons_of_mem _ hy), h2, h3, fun q => (h4 q).1, fun q => (h5 q).1, fun _ q => (h4 q).2, fun _ q => (h5 q).2⟩
        have hbq : Below w4.heap.size w4 (w4.drewN q) := below_drewN' (Below.refl _ w4) q
        have hnd : (nb :: ([gi] ++ (fa ++ fb))).Nodup := by
          have := nodup_perm HB4.out.nodup HB4.out.perm
          exact (List.nodup_append.1 (List.nodup_cons.1 (List.nodup_cons.1 this).2).2).1
        refine (fill_any r0 _ k r m is a b (Nat.le_refl _) HO HS.out (w4.drewN q) _ _ (HB4.out.node.below hbq) hnd).mono ?_
        rintro e w5 ⟨rfl, f5, e1, e2⟩
        obtain ⟨i1, _, _, i4, _⟩ := fillS_good r0 _ k r m is a b (Nat.le_refl _) HO (Or.inr hparts)
        have epop : popS ts = ts.set at_ (fillS (.node k r m is a b)) := by
          rw [HP.out, takeS_fill (by rw [HLI.out]; exact hc1) hparts, putS_stay _ _ i4]
        have := ENDS.out w5 _ f5 ((Step.below hnd hbq).trans e2) e1 epop
        obtain ⟨k5, r5, m5, is5, a5, b5, e5⟩ := node_of i4
        rw [e5] at e1 i1
        obtain ⟨nb5, iv5, va5, vb5, fi5, _, _, ep5, hN5, hI5, _⟩ := nd_node.1 e1
        obtain rfl : nb = nb5 := by simpa using ep5
        obtain ⟨p5, c5, rfl⟩ := OwnE.form hI5.1
        have hm := (good_node.1 i1).1.many
        have hl : is5.length ≠ 0 := fun q => hm (List.length_eq_zero_iff.1 q)
        exact ⟨rfl, p5, _, c5, hN5.cells.1, hl, by omega, this⟩
      clear ENDS HB4 HA HE HP HG HS HF HLT HLI HLL HPA HPB hparts hpn
      go_wp2_with fail
      go_quiet (first | (go_at_call 29; refine Calls.quiet_of_same (ch _)))
      go_wp2_with fail
      refine (FILL.out _).mono ?_
      rintro e w5 ⟨rfl, p5, l5, c5, d0, d1, d2, d3, d4, d5, d6, d7, d8, HX⟩
      clear FILL ch
      go_wp2
      refine bodyPost_ret (by simp [results, Tryd.results9, go_sem, d3, d4]; try rfl) rfl ?_
      exact ⟨rfl, HX.out _ _⟩
    | false =>
      obtain ⟨z1, z2⟩ := Bool.or_eq_false_iff.1 hp
      have hno : a.none? = true ∧ b.none? = true := ⟨HPA.out.2 ((hpn pa).1 z1), HPB.out.2 ((hpn pb).1 z2)⟩
      have ch : ∀ q, Calls Tryd.prog 29 #[.pointer (some ⟨nb, 0, none⟩)] (w4.drewN q) fun e w' => e = .returned (.bool false) ∧ w' = w4.drewN q := fun q => by
        have := hasPart_any (w := w4.drewN q) HNb.out
        rw [hp] at this
        exact this
      by_cases hl0 : li = 0
      · have his : is = [] := List.length_eq_zero_iff.1 (HLI.out.trans hl0)
        have epop : popS ts = ts.eraseIdx at_ := by
          rw [HP.out, his, takeS_gone hno, putS_gone]
        have DELP : Hid (∀ q, Calls Tryd.prog 25 #[.slice (some ⟨g, 0, none⟩) L cap, .int .i64 at_, .int .i64 ((at_ : Int) + 1)] (w4.drewN q) fun e w' => ∃ l', e = .returned (.slice (some ⟨g, 0, none⟩) l' cap) ∧ w'.cell? ⟨hb, 2, none⟩ = some (.slice (some ⟨g, 0, none⟩) L cap) ∧ w'.frozen? ⟨hb, 2, none⟩ = false ∧ w'.cell? ⟨N, 0, none⟩ = some (.int .i64 0) ∧ w'.cell? ⟨N, 1, none⟩ = some (.int .i64 0) ∧ w'.frozen? ⟨N, 0, none⟩ = false ∧ w'.frozen? ⟨N, 1, none⟩ = false ∧ w'.cell? ⟨N + 1, 0, none⟩ = some (.int .i64 x0) ∧ w'.cell? ⟨N + 1, 1, none⟩ = some (.int .i64 x1) ∧
            Hid (∀ u v, ∃ f', HAt (((w'.setCell ⟨hb, 2, none⟩ (.slice (some ⟨g, 0, none⟩) l' cap)).setCell ⟨N, 0, none⟩ u).setCell ⟨N, 1, none⟩ v) hb r0 n (popS ts) f' ∧ Step f f' w (((w'.setCell ⟨hb, 2, none⟩ (.slice (some ⟨g, 0, none⟩) l' cap)).setCell ⟨N, 0, none⟩ u).setCell ⟨N, 1, none⟩ v))) := by
          intro q
          have := deleteP (w := w4.drewN q) (i := at_) (j := at_ + 1) (OwnE.below HB4.out.own (below_drewN' (Below.refl _ w4) q)) (by omega) (by omega)
          rw [show ((at_ + 1 : Nat) : Int) = (at_ : Int) + 1 by omega] at this
          refine this.mono ?_
          rintro e w5 ⟨rfl, d1, d2⟩
          rw [← List.eraseIdx_eq_take_drop_succ] at d1
          have hg : w4.grownBy w5 (some g) := ⟨d2.os, d2.tape, d2.output, d2.size, d2.block⟩
          obtain ⟨y1, y2, y3, y4⟩ := HB4.out.goes hg d1
          rw [hN] at y1 y2 y4
          rw [epop]
          refine ⟨_, rfl, y3.cells.2.2, y3.fr 2, ?_, ?_, ?_, ?_, ?_, ?_, y4⟩ <;> simp [World.cell?, World.frozen?, y1, y2]
        have cq : w4.cell? ⟨hb, 2, none⟩ = some (.slice (some ⟨g, 0, none⟩) L cap) := HB4.out.head.cells.2.2
        clear ENDS HB4 HA HE HP HG HS HF HLT HLI HLL HPA HPB hpn epop his
        subst hl0
        go_wp2_with fail
        go_quiet (first | (go_at_call 29; refine Calls.quiet_of_same (ch _)))
        go_wp2_with fail
        refine (DELP.out _).mono ?_
        rintro e w5 ⟨l5, rfl, t1, t2, d3, d4, d5, d6, d7, d8, HX⟩
        clear DELP ch
        have hbn : ¬ hb = N := by omega
        have hbn1 : ¬ hb = N + 1 := by omega
        go_wp2
        refine bodyPost_ret (by simp [results, Tryd.results9, go_sem, d3, d4]; try rfl) rfl ?_
        exact ⟨rfl, HX.out _ _⟩
      · have hlz : ¬ ((li : Int) = 0) := by omega
        have hnd : (nb :: ([gi] ++ (fa ++ fb))).Nodup := by
          have := nodup_perm HB4.out.nodup HB4.out.perm
          exact (List.nodup_append.1 (List.nodup_cons.1 (List.nodup_cons.1 this).2).2).1
        have epop : popS ts = ts.set at_ (.node k r m is a b) := by
          rw [HP.out, takeS_stay (fun z => by rw [hno.1, hno.2] at z; simp at z) (fun z => by have := HLI.out; rw [z] at this; simp at this; omega), putS_stay _ _ rfl]
        have ST := fun q => ENDS.out (w4.drewN q) _ _ (Step.below hnd (below_drewN' (Below.refl _ w4) q)) (HB4.out.node.below (below_drewN' (Below.refl _ w4) q)) epop
        have d3 := (ST 0).1
        have d4 := (ST 0).2.1
        have d5 := (ST 0).2.2.1
        have d6 := (ST 0).2.2.2.1
        have d7 := (ST 0).2.2.2.2.1
        have d8 := (ST 0).2.2.2.2.2.1
        have HX : Hid (∀ q u v, ∃ f', HAt (((w4.drewN q).setCell ⟨N, 0, none⟩ u).setCell ⟨N, 1, none⟩ v) hb r0 n (popS ts) f' ∧ Step f f' w (((w4.drewN q).setCell ⟨N, 0, none⟩ u).setCell ⟨N, 1, none⟩ v)) := fun q => (ST q).2.2.2.2.2.2.out
        replace d3 : w4.cell? ⟨N, 0, none⟩ = some (.int .i64 0) := d3
        replace d4 : w4.cell? ⟨N, 1, none⟩ = some (.int .i64 0) := d4
        replace d5 : w4.frozen? ⟨N, 0, none⟩ = false := d5
        replace d6 : w4.frozen? ⟨N, 1, none⟩ = false := d6
        replace d7 : w4.cell? ⟨N + 1, 0, none⟩ = some (.int .i64 x0) := d7
        replace d8 : w4.cell? ⟨N + 1, 1, none⟩ = some (.int .i64 x1) := d8
        clear ST ENDS HB4 HA HE HP HG HS HF HLT HLI HLL HPA HPB hpn epop hnd
        go_wp2_with fail
        go_quiet (first | (go_at_call 29; refine Calls.quiet_of_same (ch _)))
        go_wp2
        refine bodyPost_ret (by simp [results, Tryd.results9, go_sem, d3, d4]; try rfl) rfl ?_
        exact ⟨rfl, HX.out _ _ _⟩
  · have hcz : ¬ (2 * (li : Int) ≤ (m : Int)) := by omega
    have hcd : decide (2 * (li : Int) ≤ (m : Int)) = false := decide_eq_false hcz
    have hcn : decide (2 * li ≤ m) = false := decide_eq_false hc1
    have hl0 : ¬ (li = 0) := by omega
    have hlz : ¬ ((li : Int) = 0) := by omega
    have hnd : (nb :: ([gi] ++ (fa ++ fb))).Nodup := by
      have := nodup_perm HB4.out.nodup HB4.out.perm
      exact (List.nodup_append.1 (List.nodup_cons.1 (List.nodup_cons.1 this).2).2).1
    have epop : popS ts = ts.set at_ (.node k r m is a b) := by
      rw [HP.out, takeS_stay (fun z => hc1 (by rw [← HLI.out]; exact z.1)) (fun z => by have := HLI.out; rw [z] at this; simp at this; omega), putS_stay _ _ rfl]
    have ST := fun q => ENDS.out (w4.drewN q) _ _ (Step.below hnd (below_drewN' (Below.refl _ w4) q)) (HB4.out.node.below (below_drewN' (Below.refl _ w4) q)) epop
    have d3 := (ST 0).1
    have d4 := (ST 0).2.1
    have d5 := (ST 0).2.2.1
    have d6 := (ST 0).2.2.2.1
    have d7 := (ST 0).2.2.2.2.1
    have d8 := (ST 0).2.2.2.2.2.1
    have HX : Hid (∀ q u v, ∃ f', HAt (((w4.drewN q).setCell ⟨N, 0, none⟩ u).setCell ⟨N, 1, none⟩ v) hb r0 n (popS ts) f' ∧ Step f f' w (((w4.drewN q).setCell ⟨N, 0, none⟩ u).setCell ⟨N, 1, none⟩ v)) := fun q => (ST q).2.2.2.2.2.2.out
    replace d3 : w4.cell? ⟨N, 0, none⟩ = some (.int .i64 0) := d3
    replace d4 : w4.cell? ⟨N, 1, none⟩ = some (.int .i64 0) := d4
    replace d5 : w4.frozen? ⟨N, 0, none⟩ = false := d5
    replace d6 : w4.frozen? ⟨N, 1, none⟩ = false := d6
    replace d7 : w4.cell? ⟨N + 1, 0, none⟩ = some (.int .i64 x0) := d7
    replace d8 : w4.cell? ⟨N + 1, 1, none⟩ = some (.int .i64 x1) := d8
    clear ST ENDS HB4 HA HE HP HG HS HF HLT HLI HLL HPA HPB hpn epop hnd
    go_wp2_with fail
    go_quiet (fail)
    go_wp2
    refine bodyPost_ret (by simp [results, Tryd.results9, go_sem, d3, d4]; try rfl) rfl ?_
    exact ⟨rfl, HX.out _ _ _⟩
#print axioms pop_some
end Go.Proofs.YtdpfijhkbhmkgaaDoor
